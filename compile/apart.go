package compile

import (
	"strings"

	"glass/pattern"
	"glass/syntax"
)

// Misfit tells which text is none of the lens's.
type Misfit int

const (
	None Misfit = iota // all texts fit
	NoSource
	NoView
)

// misfit is that of a text that a side does not have.
func misfit(s syntax.Side) Misfit {
	if s == syntax.Views {
		return NoView
	}
	return NoSource
}

// caught answers what a call answers, as new memory, or the Misfit that it
// panics with. Any other panic is a fault of the program, and goes on.
func caught(call func() string) (answer string, found Misfit) {
	defer func() {
		thrown := recover()
		if thrown == nil {
			return
		}
		own, ok := thrown.(Misfit)
		if !ok {
			panic(thrown)
		}
		found = own
	}()
	return strings.Clone(call()), None
}

// texts are all those of one side of a lens.
type texts struct {
	misfit  Misfit
	machine *pattern.Machine
}

func textsOf(s syntax.Side, l *syntax.Lens) texts {
	return texts{misfit(s), s.Texts(l).Machine()}
}

// own answers a text, if it is one of these.
func (t texts) own(text string) string {
	if !t.machine.Holds(text) {
		panic(t.misfit)
	}
	return text
}

// parting takes a text apart into two, on one side of a lens.
type parting struct {
	misfit        Misfit
	ahead, behind *pattern.Machine
}

func newParting(s syntax.Side, ahead, behind *pattern.Pattern) parting {
	return parting{misfit(s), ahead.Machine(), behind.Machine()}
}

// partings answers that of each part, but the first one, and all ahead of it.
func partings(s syntax.Side, l *syntax.Lens) []parting {
	parts := s.Parts(l)
	var all []parting
	for i := 1; i < len(parts); i++ {
		all = append(all, newParting(s, pattern.Row(parts[:i]...), parts[i]))
	}
	return all
}

// repeating answers the parting of a row of a piece's texts: the first of them,
// and the others.
func repeating(s syntax.Side, l *syntax.Lens) parting {
	return newParting(s, s.Texts(l.Parts[0]), s.Texts(l))
}

func (p parting) part(text string) (string, string) {
	for at := range pattern.Places(p.ahead, p.behind, text) {
		return text[:at], text[at:]
	}
	panic(p.misfit)
}

// pieces parts a text, then what is left, and so on. No piece is empty, since
// the lens is not wrong: so it ends.
func (p parting) pieces(text string) []string {
	var all []string
	for text != "" {
		piece, others := p.part(text)
		all = append(all, piece)
		text = others
	}
	return all
}

// rows are the texts of each row of a choice, on one side.
type rows struct {
	misfit   Misfit
	machines []*pattern.Machine
}

func rowsOf(s syntax.Side, l *syntax.Lens) rows {
	return rows{misfit(s), each(s.Parts(l), (*pattern.Pattern).Machine)}
}

// which answers the first row that has a text.
func (r rows) which(text string) int {
	for row := range r.machines {
		if r.has(row, text) {
			return row
		}
	}
	panic(r.misfit)
}

func (r rows) has(row int, text string) bool {
	return r.machines[row].Holds(text)
}
