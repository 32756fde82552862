package pattern

import (
	"iter"
	"slices"
)

// state goes on to next with one of its signs, or to one of free without any.
type state struct {
	signs set
	next  int
	free  []int
}

// Machine reads the texts of a pattern from its start to its end.
//
// All the ways to read a text are gone at once, state by state: repeats within
// repeats would cost too much if they were tried one by one.
type Machine struct {
	states     []state
	start, end int
}

// Machine answers a machine that reads the texts of the pattern.
func (p *Pattern) Machine() *Machine {
	m := &Machine{}
	m.end = m.add(state{})
	m.start = m.lay(p, m.end)
	return m
}

// Holds tells whether a text is one of the pattern's.
func (p *Pattern) Holds(text string) bool {
	return p.Machine().Holds(text)
}

// Holds tells whether a text is one of the pattern's that the machine reads.
func (m *Machine) Holds(text string) bool {
	now := []int{m.start}
	for i := 0; i < len(text) && len(now) > 0; i++ {
		now = m.step(now, text[i])
	}
	return m.ended(now)
}

// Places gives out the places at which a text can be parted into one that the
// machine ahead reads and one that the machine behind reads, in their order.
func Places(ahead, behind *Machine, text string) iter.Seq[int] {
	return func(yield func(int) bool) {
		for at := range ahead.ends(text) {
			if behind.Holds(text[at:]) && !yield(at) {
				return
			}
		}
	}
}

// ends gives out where those beginnings of a text end that the machine reads.
func (m *Machine) ends(text string) iter.Seq[int] {
	return func(yield func(int) bool) {
		now := []int{m.start}
		for at := 0; len(now) > 0; at++ {
			if m.ended(now) && !yield(at) || at == len(text) {
				return
			}
			now = m.step(now, text[at])
		}
	}
}

func (m *Machine) add(s state) int {
	m.states = append(m.states, s)
	return len(m.states) - 1
}

// lay adds the states that read a pattern and then come to a state. It answers
// the first of them.
func (m *Machine) lay(p *Pattern, to int) int {
	switch p.kind {
	case one:
		return m.add(state{signs: p.signs, next: to})
	case row:
		for _, part := range slices.Backward(p.parts) {
			to = m.lay(part, to)
		}
		return to
	case choice:
		var free []int
		for _, part := range p.parts {
			free = append(free, m.lay(part, to))
		}
		return m.add(state{free: free})
	case maybe:
		return m.add(state{free: []int{to, m.lay(p.parts[0], to)}})
	}
	again := m.add(state{})
	first := m.lay(p.parts[0], again)
	m.states[again].free = []int{to, first}
	if p.kind == some {
		return first
	}
	return again
}

// reach gives out each state, once, that can be come to without a sign.
func (m *Machine) reach(from []int) iter.Seq[int] {
	return func(yield func(int) bool) {
		seen := make([]bool, len(m.states))
		waiting := slices.Clone(from)
		for len(waiting) > 0 {
			last := len(waiting) - 1
			now := waiting[last]
			waiting = waiting[:last]
			if seen[now] {
				continue
			}
			seen[now] = true
			if !yield(now) {
				return
			}
			waiting = append(waiting, m.states[now].free...)
		}
	}
}

// step answers the states behind one more byte.
func (m *Machine) step(from []int, b byte) []int {
	var next []int
	for s := range m.reach(from) {
		if m.states[s].signs.has(b) {
			next = append(next, m.states[s].next)
		}
	}
	return next
}

// ended tells whether the end can be come to without a sign.
func (m *Machine) ended(from []int) bool {
	for s := range m.reach(from) {
		if s == m.end {
			return true
		}
	}
	return false
}
