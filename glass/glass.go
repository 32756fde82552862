// Package glass: texts that are seen, and changed by what is seen: see DOC.md.
package glass

import (
	"glass/check"
	"glass/syntax"
)

// Errno is what a call answers: OK or the reason for a refusal.
type Errno int

const (
	OK         Errno = 0
	ErrLong    Errno = 1 // a text above its bound
	ErrForm    Errno = 2 // no lens
	ErrDefault Errno = 3 // a default that is no text of its pattern
	ErrType    Errno = 4 // a lens that sees, or lays back, in two ways
	ErrSource  Errno = 5 // no source
	ErrView    Errno = 6 // no view
)

// maxLens is how many bytes a lens may have.
const maxLens = 120

// Print writes a lens in its plain form (P3).
func Print(lens string) (string, Errno, int) {
	tree, e, at := read(lens)
	if e != OK {
		return "", e, at
	}
	return tree.Print(), OK, 0
}

// read answers the tree of a lens, or an error of Print and its place.
func read(lens string) (*syntax.Lens, Errno, int) {
	if len(lens) > maxLens {
		return nil, ErrLong, 0
	}
	tree, at := syntax.Read(lens)
	if tree == nil {
		return nil, ErrForm, at
	}
	if at, wrong := tree.WrongDefault(); wrong {
		return nil, ErrDefault, at
	}
	return tree, OK, 0
}

// Check looks whether a lens is wrong (P4). Of several wrong places it answers
// the first one.
func Check(lens string) (Errno, int, string) {
	tree, e, at := read(lens)
	if e != OK {
		return e, at, ""
	}
	if at, witness, wrong := check.FirstWrong(tree); wrong {
		return ErrType, at, witness
	}
	return OK, 0, ""
}

// Get sees (P5). It is yet to be built, and answers zero values.
func Get(lens string, source string) (string, Errno) { return "", OK }

// Put lays back (P6). It is yet to be built, and answers zero values.
func Put(lens string, view string, source string) (string, Errno) { return "", OK }

// Create makes a source of a view alone (P7). It is yet to be built, and
// answers zero values.
func Create(lens string, view string) (string, Errno) { return "", OK }
