// Package pattern reads the patterns of a lens and tells which texts are theirs.
package pattern

import "slices"

type kind int

const (
	one    kind = iota // one sign of a set
	row                // the parts, one behind the other
	choice             // any one of the parts
	many               // the part, any number of times
	some               // the part, once or more
	maybe              // the part, once or not at all
)

// Pattern is a set of texts, as the tree that was read.
type Pattern struct {
	kind  kind
	signs set
	parts []*Pattern
}

// Text is the pattern of one text of signs alone.
func Text(text string) *Pattern {
	var all []*Pattern
	for i := range len(text) {
		all = append(all, sign(text[i]))
	}
	return Row(all...)
}

// Row is the pattern of a text of each part, one behind the other.
func Row(parts ...*Pattern) *Pattern {
	return joined(row, parts)
}

// Choice is the pattern of the texts of all its parts.
func Choice(parts ...*Pattern) *Pattern {
	return joined(choice, parts)
}

// joined makes one pattern of several. One alone stays what it is: that keeps
// machines small.
func joined(how kind, parts []*Pattern) *Pattern {
	if len(parts) == 1 {
		return parts[0]
	}
	return &Pattern{kind: how, parts: slices.Clone(parts)}
}

// Many is the pattern of rows of texts of a part, of any number.
func Many(part *Pattern) *Pattern {
	return &Pattern{kind: many, parts: []*Pattern{part}}
}

func sign(b byte) *Pattern {
	return &Pattern{kind: one, signs: span(b, b)}
}

// Read reads the pattern that begins at a place of a text. It answers the
// pattern and the place behind it, or nil and the place of the first byte that
// cannot stand there (the text's length, if it ends too early).
func Read(text string, at int) (*Pattern, int) {
	r := &reader{text: text, at: at}
	p := r.pattern()
	return p, r.at
}

// reader stands at a place of a text. A part that cannot be read is nil, and
// leaves the reader at the byte that is to blame.
type reader struct {
	text string
	at   int
}

// peek answers 0 at the end: that byte can stand nowhere in a pattern either.
func (r *reader) peek() byte {
	if r.at == len(r.text) {
		return 0
	}
	return r.text[r.at]
}

func (r *reader) take(b byte) bool {
	if r.peek() != b {
		return false
	}
	r.at++
	return true
}

func (r *reader) pattern() *Pattern {
	var branches []*Pattern
	for {
		branch := r.branch()
		if branch == nil {
			return nil
		}
		branches = append(branches, branch)
		if !r.take('|') {
			return Choice(branches...)
		}
	}
}

func (r *reader) branch() *Pattern {
	var bases []*Pattern
	for r.atBase() {
		base := r.base()
		if base == nil {
			return nil
		}
		bases = append(bases, r.repeated(base))
	}
	return Row(bases...)
}

func (r *reader) atBase() bool {
	b := r.peek()
	return b == '[' || b == '(' || IsSign(b)
}

func (r *reader) repeated(base *Pattern) *Pattern {
	how := one
	switch r.peek() {
	case '*':
		how = many
	case '+':
		how = some
	case '?':
		how = maybe
	default:
		return base
	}
	r.at++
	return &Pattern{kind: how, parts: []*Pattern{base}}
}

func (r *reader) base() *Pattern {
	switch {
	case r.take('['):
		return r.spans()
	case r.take('('):
		return r.bracketed()
	}
	b := r.peek()
	r.at++
	return sign(b)
}

func (r *reader) bracketed() *Pattern {
	inner := r.pattern()
	if inner == nil || !r.take(')') {
		return nil
	}
	return inner
}

func (r *reader) spans() *Pattern {
	whole := &Pattern{kind: one}
	for {
		signs, ok := r.span()
		if !ok {
			return nil
		}
		whole.signs |= signs
		if r.take(']') {
			return whole
		}
	}
}

func (r *reader) span() (set, bool) {
	first := r.peek()
	if !IsSign(first) {
		return 0, false
	}
	r.at++
	if !r.take('-') {
		return span(first, first), true
	}
	last := r.peek()
	if !IsSign(last) || last < first {
		return 0, false
	}
	r.at++
	return span(first, last), true
}
