package check

import (
	"slices"

	"glass/pattern"
	"glass/syntax"
)

// side is one of the two sets of texts that a lens has.
type side int

const (
	sources side = iota
	views
)

// texts answers the texts that a lens has on a side.
func (s side) texts(l *syntax.Lens) *pattern.Pattern {
	switch l.Kind {
	case syntax.Same:
		return l.Pattern
	case syntax.Fixed:
		if s == views {
			return pattern.Text(l.View)
		}
		return l.Pattern
	case syntax.Many:
		return pattern.Many(s.texts(l.Parts[0]))
	case syntax.Choice:
		return pattern.Choice(s.parts(l)...)
	}
	return pattern.Row(s.parts(l)...)
}

// parts answers the texts of the parts of a lens, in the order in which a text
// of that side has them.
func (s side) parts(l *syntax.Lens) []*pattern.Pattern {
	var all []*pattern.Pattern
	for _, part := range l.Parts {
		all = append(all, s.texts(part))
	}
	if l.Kind == syntax.Swap && s == views {
		slices.Reverse(all)
	}
	return all
}
