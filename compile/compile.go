// Package compile makes functions of a lens: what it sees, lays back and makes.
package compile

import (
	"strings"

	"glass/syntax"
)

// Lens is a lens as functions. A text that is none of the lens's makes them
// panic with a Misfit, however deep within the lens that is found out: so they
// need answer nothing but texts. Get, Put and Create catch it.
type Lens struct {
	sees     func(source string) string
	laysBack func(view, source string) string
	makes    func(view string) string
}

// Get answers what is seen of a source.
func (l *Lens) Get(source string) (string, Misfit) {
	return caught(func() string { return l.sees(source) })
}

// Put lays a view back into a source. Of two misfits it answers the view's.
func (l *Lens) Put(view, source string) (string, Misfit) {
	return caught(func() string { return l.laysBack(view, source) })
}

// Create makes a source of a view alone.
func (l *Lens) Create(view string) (string, Misfit) {
	return caught(func() string { return l.makes(view) })
}

// New compiles a lens that is not wrong: each text of it can be taken apart in
// one way only.
func New(l *syntax.Lens) *Lens {
	parts := each(l.Parts, New)
	switch l.Kind {
	case syntax.Same:
		return same(textsOf(syntax.Sources, l), textsOf(syntax.Views, l))
	case syntax.Fixed:
		return fixed(l, textsOf(syntax.Sources, l), textsOf(syntax.Views, l))
	case syntax.Swap:
		return swap(parts[0], parts[1], partings(syntax.Sources, l)[0], partings(syntax.Views, l)[0])
	case syntax.Many:
		return many(parts[0], repeating(syntax.Sources, l), repeating(syntax.Views, l))
	case syntax.Row:
		return row(parts, partings(syntax.Sources, l), partings(syntax.Views, l))
	case syntax.Choice:
		return choice(parts, rowsOf(syntax.Sources, l), rowsOf(syntax.Views, l))
	}
	return parts[0]
}

// each answers what a function makes of each thing.
func each[T, U any](things []T, of func(T) U) []U {
	var all []U
	for _, thing := range things {
		all = append(all, of(thing))
	}
	return all
}

func same(sources, views texts) *Lens {
	return &Lens{
		sees: sources.own,
		laysBack: func(view, source string) string {
			view = views.own(view)
			sources.own(source)
			return view
		},
		makes: views.own,
	}
}

func fixed(l *syntax.Lens, sources, views texts) *Lens {
	return &Lens{
		sees: func(source string) string {
			sources.own(source)
			return l.View
		},
		laysBack: func(view, source string) string {
			views.own(view)
			return sources.own(source)
		},
		makes: func(view string) string {
			views.own(view)
			return l.Default
		},
	}
}

// row goes from the first two parts on: the parts ahead of each are one lens.
func row(parts []*Lens, sources, views []parting) *Lens {
	whole := parts[0]
	for i, next := range parts[1:] {
		whole = pair(whole, next, sources[i], views[i])
	}
	return whole
}

func pair(l, k *Lens, sources, views parting) *Lens {
	return &Lens{
		sees: func(source string) string {
			ofL, ofK := sources.part(source)
			return l.sees(ofL) + k.sees(ofK)
		},
		laysBack: func(view, source string) string {
			seenL, seenK := views.part(view)
			ofL, ofK := sources.part(source)
			return l.laysBack(seenL, ofL) + k.laysBack(seenK, ofK)
		},
		makes: func(view string) string {
			seenL, seenK := views.part(view)
			return l.makes(seenL) + k.makes(seenK)
		},
	}
}

// swap is a pair whose views stand in the other order.
func swap(l, k *Lens, sources, views parting) *Lens {
	return &Lens{
		sees: func(source string) string {
			ofL, ofK := sources.part(source)
			return k.sees(ofK) + l.sees(ofL)
		},
		laysBack: func(view, source string) string {
			seenK, seenL := views.part(view)
			ofL, ofK := sources.part(source)
			return l.laysBack(seenL, ofL) + k.laysBack(seenK, ofK)
		},
		makes: func(view string) string {
			seenK, seenL := views.part(view)
			return l.makes(seenL) + k.makes(seenK)
		},
	}
}

func choice(parts []*Lens, sources, views rows) *Lens {
	return &Lens{
		sees: func(source string) string {
			return parts[sources.which(source)].sees(source)
		},
		laysBack: func(view, source string) string {
			maker := views.which(view)
			own := sources.which(source)
			if views.has(own, view) {
				return parts[own].laysBack(view, source)
			}
			return parts[maker].makes(view)
		},
		makes: func(view string) string {
			return parts[views.which(view)].makes(view)
		},
	}
}

func many(l *Lens, sources, views parting) *Lens {
	return &Lens{
		sees: func(source string) string {
			return strings.Join(each(sources.pieces(source), l.sees), "")
		},
		laysBack: func(view, source string) string {
			seen := views.pieces(view)
			from := sources.pieces(source)
			both := min(len(seen), len(from))
			var out strings.Builder
			for i := range both {
				out.WriteString(l.laysBack(seen[i], from[i]))
			}
			for _, further := range seen[both:] {
				out.WriteString(l.makes(further))
			}
			return out.String()
		},
		makes: func(view string) string {
			return strings.Join(each(views.pieces(view), l.makes), "")
		},
	}
}
