package pattern

import (
	"iter"
	"slices"
)

// phase tells how far two readers of one text have come. Each reads a text of
// the pattern ahead and then one of the pattern behind; the first reader is the
// one that parts the text earlier.
type phase int

const (
	inAhead  phase = iota // neither has parted the text
	parting               // the first one has, just here
	apart                 // the first one has, and signs have been read since
	inBehind              // both have, at two places
)

// pair is where the two readers are.
type pair struct {
	phase         phase
	first, second int
}

// visit is a pair that the search comes to, and the way it came there.
type visit struct {
	pair
	from *visit // nil, where the search begins
	sign byte   // what was read on the way from there, 0 if nothing was
}

// search follows two readers through one machine.
type search struct {
	*Machine
	gate   int // where a text of the pattern ahead ends
	behind int // where the pattern behind begins
}

// PartedTwice answers a shortest text that can be parted in two ways into a
// text of the pattern ahead and one of the pattern behind, and whether there is
// such a text.
func PartedTwice(ahead, behind *Pattern) (string, bool) {
	s := newSearch()
	s.behind = s.lay(behind, s.end)
	s.gate = s.add(state{})
	start := s.lay(ahead, s.gate)
	return s.shortest(pair{inAhead, start, start})
}

// Shared answers a shortest text that is one of both patterns, and whether
// there is such a text.
func Shared(p, q *Pattern) (string, bool) {
	s := newSearch()
	return s.shortest(pair{inBehind, s.lay(p, s.end), s.lay(q, s.end)})
}

func newSearch() *search {
	s := &search{Machine: &Machine{}}
	s.end = s.add(state{})
	return s
}

func (s *search) shortest(start pair) (string, bool) {
	goal := pair{inBehind, s.end, s.end}
	for v := range s.visits(start) {
		if v.pair == goal {
			return v.text(), true
		}
	}
	return "", false
}

// visits gives out each pair that the readers can come to, once, those behind
// fewer signs first.
func (s *search) visits(start pair) iter.Seq[*visit] {
	return func(yield func(*visit) bool) {
		times := map[pair]int{}
		level := []*visit{{pair: start}}
		for len(level) > 0 {
			var next []*visit
			for i := 0; i < len(level); i++ {
				v := level[i]
				times[v.pair]++
				if times[v.pair] > 1 {
					continue
				}
				if !yield(v) {
					return
				}
				level = s.freely(v, level)
				next = s.together(v, next)
			}
			level = next
		}
	}
}

// freely adds the visits that are one move away, without a sign.
func (s *search) freely(v *visit, to []*visit) []*visit {
	for _, first := range s.states[v.first].free {
		to = append(to, &visit{pair{v.phase, first, v.second}, v, 0})
	}
	for _, second := range s.states[v.second].free {
		to = append(to, &visit{pair{v.phase, v.first, second}, v, 0})
	}
	if v.phase == inAhead && v.first == s.gate {
		to = append(to, &visit{pair{parting, s.behind, v.second}, v, 0})
	}
	if v.phase == apart && v.second == s.gate {
		to = append(to, &visit{pair{inBehind, v.first, s.behind}, v, 0})
	}
	return to
}

// together adds the visit behind one sign that both readers take.
func (s *search) together(v *visit, to []*visit) []*visit {
	first, second := s.states[v.first], s.states[v.second]
	common := first.signs & second.signs
	if common == 0 {
		return to
	}
	phase := v.phase
	if phase == parting {
		phase = apart
	}
	return append(to, &visit{pair{phase, first.next, second.next}, v, common.lowest()})
}

// text is what was read on the way to a visit.
func (v *visit) text() string {
	var backward []byte
	for ; v != nil; v = v.from {
		if v.sign != 0 {
			backward = append(backward, v.sign)
		}
	}
	slices.Reverse(backward)
	return string(backward)
}
