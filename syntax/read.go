package syntax

import "glass/pattern"

// Read reads a lens. It answers nil and the place of the first byte that cannot
// stand there (the text's length, if it ends too early), if the text is none.
func Read(text string) (*Lens, int) {
	r := &reader{text: text}
	whole := r.lens()
	if whole == nil || r.peek() != end {
		return nil, r.at
	}
	return whole, 0
}

// end is no byte, so that no text can feign it.
const end = -1

// reader stands at a place of a text. A part that cannot be read is nil, and
// leaves the reader at the byte that is to blame.
type reader struct {
	text string
	at   int
}

// peek answers the byte that the next part begins with, or end. It goes past
// the blanks ahead of that part, since they are never to blame.
func (r *reader) peek() int {
	for r.at < len(r.text) && isBlank(r.text[r.at]) {
		r.at++
	}
	if r.at == len(r.text) {
		return end
	}
	return int(r.text[r.at])
}

func isBlank(b byte) bool {
	return b == ' ' || b == '\n'
}

func (r *reader) take(b byte) bool {
	if r.peek() != int(b) {
		return false
	}
	r.at++
	return true
}

func (r *reader) lens() *Lens {
	var rows []*Lens
	var bars []int
	for {
		row := r.row()
		if row == nil {
			return nil
		}
		rows = append(rows, row)
		if !r.take('|') {
			return joined(Choice, rows, bars)
		}
		bars = append(bars, r.at-1)
	}
}

func (r *reader) row() *Lens {
	var items []*Lens
	var begins []int
	for {
		item := r.item()
		if item == nil {
			return nil
		}
		items = append(items, item)
		if !r.atPiece() {
			return joined(Row, items, begins)
		}
		begins = append(begins, r.at)
	}
}

// joined makes one lens of several; one alone stays what it is.
func joined(kind Kind, parts []*Lens, joints []int) *Lens {
	if len(parts) == 1 {
		return parts[0]
	}
	return &Lens{Kind: kind, Parts: parts, Joints: joints}
}

// atPiece leaves the reader at the piece, if one begins.
func (r *reader) atPiece() bool {
	b := r.peek()
	return b == '/' || b == '~' || b == '('
}

func (r *reader) item() *Lens {
	piece := r.piece()
	if piece == nil || !r.take('*') {
		return piece
	}
	return &Lens{Kind: Many, Parts: []*Lens{piece}, Joints: []int{r.at - 1}}
}

func (r *reader) piece() *Lens {
	switch {
	case r.take('/'):
		return r.patternPiece()
	case r.take('~'):
		return r.swap()
	case r.take('('):
		return r.group()
	}
	return nil
}

// patternPiece and the readers below begin behind the sign that told them apart.
func (r *reader) patternPiece() *Lens {
	first := r.at - 1
	p, behind := pattern.Read(r.text, r.at)
	r.at = behind
	if p == nil || !r.close('/') {
		return nil
	}
	piece := &Lens{Kind: Same, Pattern: p, Written: r.text[first:r.at]}
	if r.peek() == '"' {
		return r.fixed(piece)
	}
	return piece
}

// close takes the sign that ends a pattern or a text: no blank may stand ahead
// of it.
func (r *reader) close(b byte) bool {
	if r.at == len(r.text) || r.text[r.at] != b {
		return false
	}
	r.at++
	return true
}

func (r *reader) fixed(piece *Lens) *Lens {
	view, _, ok := r.quoted()
	if !ok {
		return nil
	}
	text, at, ok := r.quoted()
	if !ok {
		return nil
	}
	piece.Kind, piece.View, piece.Default, piece.DefaultAt = Fixed, view, text, at
	return piece
}

// quoted reads a text in quotes. It answers the place of its first quote too.
func (r *reader) quoted() (string, int, bool) {
	if !r.take('"') {
		return "", 0, false
	}
	first := r.at
	for r.at < len(r.text) && pattern.IsSign(r.text[r.at]) {
		r.at++
	}
	text := r.text[first:r.at]
	return text, first - 1, r.close('"')
}

func (r *reader) swap() *Lens {
	at := r.at - 1
	if !r.take('(') {
		return nil
	}
	first := r.lens()
	if first == nil || !r.take(',') {
		return nil
	}
	second := r.lens()
	if second == nil || !r.take(')') {
		return nil
	}
	return &Lens{Kind: Swap, Parts: []*Lens{first, second}, Joints: []int{at}}
}

func (r *reader) group() *Lens {
	inner := r.lens()
	if inner == nil || !r.take(')') {
		return nil
	}
	return &Lens{Kind: Group, Parts: []*Lens{inner}}
}
