package pattern

import (
	"iter"
	"slices"
)

// state goes on to next with one of its signs, or to one of free without any.
type state struct {
	signs set
	next  int
	free  []int
}

// machine reads the texts of a pattern from its start to its end.
type machine struct {
	states     []state
	start, end int
}

// Holds tells whether a text is one of the pattern's.
//
// All the ways to read the text are gone at once, state by state: repeats
// within repeats would cost too much if they were tried one by one.
func (p *Pattern) Holds(text string) bool {
	m := build(p)
	now := []int{m.start}
	for i := range len(text) {
		now = m.step(now, text[i])
	}
	for s := range m.reach(now) {
		if s == m.end {
			return true
		}
	}
	return false
}

func build(p *Pattern) *machine {
	m := &machine{}
	m.end = m.add(state{})
	m.start = m.lay(p, m.end)
	return m
}

func (m *machine) add(s state) int {
	m.states = append(m.states, s)
	return len(m.states) - 1
}

// lay adds the states that read a pattern and then come to a state. It answers
// the first of them.
func (m *machine) lay(p *Pattern, to int) int {
	switch p.kind {
	case one:
		return m.add(state{signs: p.signs, next: to})
	case row:
		for _, part := range slices.Backward(p.parts) {
			to = m.lay(part, to)
		}
		return to
	case choice:
		var free []int
		for _, part := range p.parts {
			free = append(free, m.lay(part, to))
		}
		return m.add(state{free: free})
	case maybe:
		return m.add(state{free: []int{to, m.lay(p.parts[0], to)}})
	}
	again := m.add(state{})
	first := m.lay(p.parts[0], again)
	m.states[again].free = []int{to, first}
	if p.kind == some {
		return first
	}
	return again
}

// reach gives out each state, once, that can be come to without a sign.
func (m *machine) reach(from []int) iter.Seq[int] {
	return func(yield func(int) bool) {
		seen := make([]bool, len(m.states))
		waiting := slices.Clone(from)
		for len(waiting) > 0 {
			last := len(waiting) - 1
			now := waiting[last]
			waiting = waiting[:last]
			if seen[now] {
				continue
			}
			seen[now] = true
			if !yield(now) {
				return
			}
			waiting = append(waiting, m.states[now].free...)
		}
	}
}

// step answers the states behind one more byte.
func (m *machine) step(from []int, b byte) []int {
	var next []int
	for s := range m.reach(from) {
		if m.states[s].signs.has(b) {
			next = append(next, m.states[s].next)
		}
	}
	return next
}
