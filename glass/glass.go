// Package glass: texts that are seen, and changed by what is seen: see DOC.md.
package glass

import (
	"glass/check"
	"glass/compile"
	"glass/syntax"
)

// Errno is what a call answers: OK or the reason for a refusal.
type Errno int

const (
	OK         Errno = 0
	ErrLong    Errno = 1 // a text above its bound
	ErrForm    Errno = 2 // no lens
	ErrDefault Errno = 3 // a default that is no text of its pattern
	ErrType    Errno = 4 // a lens that sees, or lays back, in two ways
	ErrSource  Errno = 5 // no source
	ErrView    Errno = 6 // no view
)

const (
	maxLens = 120 // bytes of a lens
	maxText = 60  // bytes of a source or a view
)

// Print writes a lens in its plain form (P3).
func Print(lens string) (string, Errno, int) {
	tree, e, at := read(lens)
	if e != OK {
		return "", e, at
	}
	return tree.Print(), OK, 0
}

// read answers the tree of a lens, or an error of Print and its place.
func read(lens string) (*syntax.Lens, Errno, int) {
	if len(lens) > maxLens {
		return nil, ErrLong, 0
	}
	tree, at := syntax.Read(lens)
	if tree == nil {
		return nil, ErrForm, at
	}
	if at, wrong := tree.WrongDefault(); wrong {
		return nil, ErrDefault, at
	}
	return tree, OK, 0
}

// Check looks whether a lens is wrong (P4). Of several wrong places it answers
// the first one.
func Check(lens string) (Errno, int, string) {
	_, e, at, witness := examine(lens)
	return e, at, witness
}

// examine answers the tree of a lens that is not wrong, or an error of Print or
// Check with its place and witness.
func examine(lens string) (*syntax.Lens, Errno, int, string) {
	tree, e, at := read(lens)
	if e != OK {
		return nil, e, at, ""
	}
	if at, witness, wrong := check.FirstWrong(tree); wrong {
		return nil, ErrType, at, witness
	}
	return tree, OK, 0, ""
}

// Get answers what a lens sees of a source (P5).
func Get(lens string, source string) (string, Errno) {
	l, e := compiled(lens, source)
	if e != OK {
		return "", e
	}
	view, misfit := l.Get(source)
	return view, refusal(misfit)
}

// Put lays a view back into a source (P6).
func Put(lens string, view string, source string) (string, Errno) {
	l, e := compiled(lens, view, source)
	if e != OK {
		return "", e
	}
	changed, misfit := l.Put(view, source)
	return changed, refusal(misfit)
}

// Create makes a source of a view alone (P7).
func Create(lens string, view string) (string, Errno) {
	l, e := compiled(lens, view)
	if e != OK {
		return "", e
	}
	source, misfit := l.Create(view)
	return source, refusal(misfit)
}

// compiled answers a lens as functions, or why it, or the length of one of the
// texts for it, is refused.
func compiled(lens string, texts ...string) (*compile.Lens, Errno) {
	tree, e, _, _ := examine(lens)
	if e != OK {
		return nil, e
	}
	for _, text := range texts {
		if len(text) > maxText {
			return nil, ErrLong
		}
	}
	return compile.New(tree), OK
}

func refusal(m compile.Misfit) Errno {
	switch m {
	case compile.NoSource:
		return ErrSource
	case compile.NoView:
		return ErrView
	}
	return OK
}
