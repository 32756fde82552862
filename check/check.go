// Package check finds out where a lens is wrong.
package check

import (
	"iter"

	"glass/pattern"
	"glass/syntax"
)

// FirstWrong answers the first place at which a lens is wrong, a shortest
// witness for it, and whether there is such a place. Where an item begins with
// a ~, and both are wrong, the witness is the item's.
func FirstWrong(l *syntax.Lens) (int, string, bool) {
	for j := range joints(l) {
		if witness, wrong := j.witness(); wrong {
			return j.at(), witness, true
		}
	}
	return 0, "", false
}

// joint is one of a lens's joints, by its number.
type joint struct {
	lens   *syntax.Lens
	number int
}

func (j joint) at() int {
	return j.lens.Joints[j.number]
}

// joints gives out the joints of a lens and of those within it, in the order of
// their places.
func joints(l *syntax.Lens) iter.Seq[joint] {
	return func(yield func(joint) bool) { walk(l, yield) }
}

func walk(l *syntax.Lens, yield func(joint) bool) bool {
	if l.Kind == syntax.Swap && !yield(joint{l, 0}) {
		return false
	}
	for i, part := range l.Parts {
		between := i > 0 && l.Kind != syntax.Swap
		if between && !yield(joint{l, i - 1}) || !walk(part, yield) {
			return false
		}
	}
	return l.Kind != syntax.Many || yield(joint{l, 0})
}

// witness answers a shortest text for which the lens is wrong at the joint, and
// whether there is one.
func (j joint) witness() (string, bool) {
	if j.lens.Kind == syntax.Choice {
		// Two rows may have a view in common: only sources tell them apart.
		return j.shared()
	}
	source, ofSources := j.twice(syntax.Sources)
	view, ofViews := j.twice(syntax.Views)
	if ofSources && ofViews {
		return shorter(source, view), true
	}
	return source + view, ofSources || ofViews
}

func shorter(a, b string) string {
	if len(b) < len(a) {
		return b
	}
	return a
}

// shared looks for a source of a row that is one of the rows ahead of it too.
func (j joint) shared() (string, bool) {
	ahead, behind := j.around(syntax.Sources)
	return pattern.Shared(pattern.Choice(ahead...), behind)
}

// twice looks for a text that a side of the lens has in two ways.
func (j joint) twice(s syntax.Side) (string, bool) {
	if j.lens.Kind == syntax.Many {
		return repeatedTwice(s.Texts(j.lens.Parts[0]))
	}
	ahead, behind := j.around(s)
	return pattern.PartedTwice(pattern.Row(ahead...), behind)
}

// around answers the texts of all parts ahead of the joint, and of the one
// behind it.
func (j joint) around(s syntax.Side) ([]*pattern.Pattern, *pattern.Pattern) {
	parts := s.Parts(j.lens)
	return parts[:j.number+1], parts[j.number+1]
}

// repeatedTwice looks for a text that is a row of texts of a piece in two ways.
//
// Two such rows of a shortest text differ in their first texts, else it would
// be shorter without those: so it is parted twice into a first one and a row.
func repeatedTwice(piece *pattern.Pattern) (string, bool) {
	if piece.Holds("") {
		return "", true
	}
	return pattern.PartedTwice(piece, pattern.Many(piece))
}
