// Package syntax reads lenses and writes them in their plain form.
package syntax

import (
	"iter"
	"strings"

	"glass/pattern"
)

// Kind tells how a lens is made.
type Kind int

const (
	Same   Kind = iota // a pattern, seen as it is
	Fixed              // a pattern, seen as one text
	Swap               // two lenses, seen in the other order
	Group              // a lens in brackets
	Many               // a piece, any number of times
	Row                // items, one behind the other
	Choice             // any one of several rows
)

// Lens is the tree that was read. Parts are the lenses it is made of, in the
// order in which they stand.
//
// Joints are the places where its parts are joined: those of a Row, where each
// item but the first one begins; those of a Choice, where each | stands; that
// of a Swap, where its ~ stands; that of Many, where its * stands.
type Lens struct {
	Kind   Kind
	Parts  []*Lens
	Joints []int

	// These are of Same and Fixed.
	Pattern *pattern.Pattern
	Written string // the pattern with both its slashes

	// These are of Fixed alone.
	View      string
	Default   string
	DefaultAt int // where the default's first quote stands
}

// all gives out the lens and those within it, in the order in which they begin.
func (l *Lens) all() iter.Seq[*Lens] {
	return func(yield func(*Lens) bool) { l.walk(yield) }
}

func (l *Lens) walk(yield func(*Lens) bool) bool {
	if !yield(l) {
		return false
	}
	for _, part := range l.Parts {
		if !part.walk(yield) {
			return false
		}
	}
	return true
}

// WrongDefault answers the place of the first default that is no text of its
// pattern, and whether there is one.
func (l *Lens) WrongDefault() (int, bool) {
	for piece := range l.all() {
		if piece.Kind == Fixed && !piece.Pattern.Holds(piece.Default) {
			return piece.DefaultAt, true
		}
	}
	return 0, false
}

// Print writes the lens in its plain form.
func (l *Lens) Print() string {
	var out strings.Builder
	l.write(&out)
	return out.String()
}

func (l *Lens) write(out *strings.Builder) {
	switch l.Kind {
	case Same:
		out.WriteString(l.Written)
	case Fixed:
		out.WriteString(l.Written)
		out.WriteString(`"` + l.View + `""` + l.Default + `"`)
	case Swap:
		l.writeParts(out, "~(", ", ", ")")
	case Group:
		l.writeParts(out, "(", "", ")")
	case Many:
		l.writeParts(out, "", "", "*")
	case Row:
		l.writeParts(out, "", " ", "")
	case Choice:
		l.writeParts(out, "", " | ", "")
	}
}

func (l *Lens) writeParts(out *strings.Builder, ahead, between, behind string) {
	out.WriteString(ahead)
	for i, part := range l.Parts {
		if i > 0 {
			out.WriteString(between)
		}
		part.write(out)
	}
	out.WriteString(behind)
}
