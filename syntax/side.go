package syntax

import (
	"slices"

	"glass/pattern"
)

// Side is one of the two sets of texts that a lens has.
type Side int

const (
	Sources Side = iota
	Views
)

// Texts answers the texts that a lens has on a side.
func (s Side) Texts(l *Lens) *pattern.Pattern {
	switch l.Kind {
	case Same:
		return l.Pattern
	case Fixed:
		if s == Views {
			return pattern.Text(l.View)
		}
		return l.Pattern
	case Many:
		return pattern.Many(s.Texts(l.Parts[0]))
	case Choice:
		return pattern.Choice(s.Parts(l)...)
	}
	return pattern.Row(s.Parts(l)...)
}

// Parts answers the texts of the parts of a lens, in the order in which a text
// of that side has them.
func (s Side) Parts(l *Lens) []*pattern.Pattern {
	var all []*pattern.Pattern
	for _, part := range l.Parts {
		all = append(all, s.Texts(part))
	}
	if l.Kind == Swap && s == Views {
		slices.Reverse(all)
	}
	return all
}
