package glass

import (
	"iter"
	"maps"
	"math/rand"
	"slices"
	"strings"
	"testing"
)

// model is what the document says of a lens that is not wrong, by trying: each
// text is cut at all its places.
type model struct {
	sources, views texts
	get            func(source string) string
	put            func(view, source string) string
	create         func(view string) string
	kinds          string // a letter for each kind of lens that it is made of

	// These make some text, also a long one.
	aSource, aView func(*rand.Rand) string
}

func some(s texts) func(*rand.Rand) string {
	all := slices.Sorted(maps.Keys(s.short))
	return func(random *rand.Rand) string { return all[random.Intn(len(all))] }
}

// cut answers the two texts that a text is made of; there is one way only.
func cut(text string, ahead, behind texts) (string, string) {
	found := -1
	for i := range len(text) + 1 {
		if !ahead.have(text[:i]) || !behind.have(text[i:]) {
			continue
		}
		if found >= 0 {
			panic("cut in two ways: " + text)
		}
		found = i
	}
	return text[:found], text[found:]
}

// cutAll answers the row of parts that a text is, and whether it is one.
func cutAll(text string, part texts) ([]string, bool) {
	if text == "" {
		return nil, true
	}
	for i := range len(text) {
		if !part.have(text[:i+1]) {
			continue
		}
		if others, ok := cutAll(text[i+1:], part); ok {
			return append([]string{text[:i+1]}, others...), true
		}
	}
	return nil, false
}

func sameModel(p texts) model {
	return model{
		sources: p, views: p,
		get:     func(source string) string { return source },
		put:     func(view, source string) string { return view },
		create:  func(view string) string { return view },
		aSource: some(p), aView: some(p),
	}
}

func fixedModel(p texts, view, made string) model {
	return model{
		sources: p, views: oneText(view),
		get:     func(string) string { return view },
		put:     func(_, source string) string { return source },
		create:  func(string) string { return made },
		kinds:   "f",
		aSource: some(p), aView: some(oneText(view)),
	}
}

func rowModel(l, k model) model {
	return model{
		sources: rowOf(l.sources, k.sources), views: rowOf(l.views, k.views),
		get: func(source string) string {
			a, b := cut(source, l.sources, k.sources)
			return l.get(a) + k.get(b)
		},
		put: func(view, source string) string {
			a, b := cut(source, l.sources, k.sources)
			v, w := cut(view, l.views, k.views)
			return l.put(v, a) + k.put(w, b)
		},
		create: func(view string) string {
			v, w := cut(view, l.views, k.views)
			return l.create(v) + k.create(w)
		},
		kinds:   "r" + l.kinds + k.kinds,
		aSource: func(random *rand.Rand) string { return l.aSource(random) + k.aSource(random) },
		aView:   func(random *rand.Rand) string { return l.aView(random) + k.aView(random) },
	}
}

// swapModel has the sources of a row; its views are cut the other way round.
func swapModel(l, k model) model {
	whole := rowModel(l, k)
	whole.views = rowOf(k.views, l.views)
	whole.get = func(source string) string {
		a, b := cut(source, l.sources, k.sources)
		return k.get(b) + l.get(a)
	}
	whole.put = func(view, source string) string {
		a, b := cut(source, l.sources, k.sources)
		w, v := cut(view, k.views, l.views)
		return l.put(v, a) + k.put(w, b)
	}
	whole.create = func(view string) string {
		w, v := cut(view, k.views, l.views)
		return l.create(v) + k.create(w)
	}
	whole.kinds = "s" + l.kinds + k.kinds
	whole.aView = func(random *rand.Rand) string { return k.aView(random) + l.aView(random) }
	return whole
}

func choiceModel(l, k model) model {
	create := func(view string) string {
		if l.views.have(view) {
			return l.create(view)
		}
		return k.create(view)
	}
	of := func(source string) model {
		if l.sources.have(source) {
			return l
		}
		return k
	}
	return model{
		sources: choiceOf(l.sources, k.sources), views: choiceOf(l.views, k.views),
		get: func(source string) string { return of(source).get(source) },
		put: func(view, source string) string {
			if own := of(source); own.views.have(view) {
				return own.put(view, source)
			}
			return create(view)
		},
		create:  create,
		kinds:   "c" + l.kinds + k.kinds,
		aSource: func(random *rand.Rand) string { return []model{l, k}[random.Intn(2)].aSource(random) },
		aView:   func(random *rand.Rand) string { return []model{l, k}[random.Intn(2)].aView(random) },
	}
}

func manyModel(l model) model {
	rowFrom := func(one func(*rand.Rand) string) func(*rand.Rand) string {
		return func(random *rand.Rand) string {
			text := ""
			for range random.Intn(7) {
				text += one(random)
			}
			return text
		}
	}
	return model{
		sources: manyOf(l.sources), views: manyOf(l.views),
		get: func(source string) string {
			var out strings.Builder
			parts, _ := cutAll(source, l.sources)
			for _, part := range parts {
				out.WriteString(l.get(part))
			}
			return out.String()
		},
		put: func(view, source string) string {
			var out strings.Builder
			views, _ := cutAll(view, l.views)
			sources, _ := cutAll(source, l.sources)
			for i, v := range views {
				if i < len(sources) {
					out.WriteString(l.put(v, sources[i]))
				} else {
					out.WriteString(l.create(v))
				}
			}
			return out.String()
		},
		create: func(view string) string {
			var out strings.Builder
			views, _ := cutAll(view, l.views)
			for _, v := range views {
				out.WriteString(l.create(v))
			}
			return out.String()
		},
		kinds:   "m" + l.kinds,
		aSource: rowFrom(l.aSource), aView: rowFrom(l.aView),
	}
}

// rightSketches gives out sketches that are not wrong, and made of several kinds.
func rightSketches(random *rand.Rand, from pool, count int) iter.Seq2[string, model] {
	return func(yield func(string, model) bool) {
		for count > 0 {
			s := makeSketch(random, from)
			lens := s.loose.String()
			if e, _, _ := Check(lens); e != OK || len(s.whole.kinds) < 3 {
				continue
			}
			count--
			if !yield(lens, s.whole) {
				return
			}
		}
	}
}

// oneOrAny makes a text as another function does, or any short text.
func oneOrAny(random *rand.Rand, one func(*rand.Rand) string) string {
	if random.Intn(3) > 0 {
		return one(random)
	}
	text := ""
	for range random.Intn(most + 1) {
		text += []string{"a", "b"}[random.Intn(2)]
	}
	return text
}

// calls are the three calls for these texts, with their answers.
func (m model) calls(lens, view, source string) []call {
	return []call{m.getCall(lens, source), m.putCall(lens, view, source), m.createCall(lens, view)}
}

func (m model) getCall(lens, source string) call {
	switch {
	case len(source) > maxText:
		return noGet(lens, source, ErrLong)
	case !m.sources.have(source):
		return noGet(lens, source, ErrSource)
	}
	return get(lens, source, m.get(source))
}

func (m model) putCall(lens, view, source string) call {
	switch {
	case len(view) > maxText || len(source) > maxText:
		return noPut(lens, view, source, ErrLong)
	case !m.views.have(view):
		return noPut(lens, view, source, ErrView)
	case !m.sources.have(source):
		return noPut(lens, view, source, ErrSource)
	}
	return put(lens, view, source, m.put(view, source))
}

func (m model) createCall(lens, view string) call {
	switch {
	case len(view) > maxText:
		return noCreate(lens, view, ErrLong)
	case !m.views.have(view):
		return noCreate(lens, view, ErrView)
	}
	return create(lens, view, m.create(view))
}

func TestModels(t *testing.T) {
	random := rand.New(rand.NewSource(8))
	kinds, answers := map[rune]int{}, map[Errno]int{}
	for _, from := range []pool{mixed(), ended()} {
		for lens, m := range rightSketches(random, from, 300) {
			for _, kind := range m.kinds {
				kinds[kind]++
			}
			for range 15 {
				calls := m.calls(lens, oneOrAny(random, m.aView), oneOrAny(random, m.aSource))
				checkCalls(t, calls)
				answers[calls[1].e]++
			}
		}
	}
	for _, kind := range "frscm" {
		if kinds[kind] < 150 {
			t.Errorf("too few lenses of the kind %c: %d", kind, kinds[kind])
		}
	}
	for _, e := range []Errno{OK, ErrLong, ErrSource, ErrView} {
		if answers[e] < 20 {
			t.Errorf("too few calls with the answer %d: %d", e, answers[e])
		}
	}
}

// checkLaws holds a lens against P8, with a source and a view of it.
func checkLaws(t *testing.T, lens, view, source string) {
	t.Helper()
	if seen, e := Get(lens, source); len(seen) <= maxText {
		back, f := Put(lens, seen, source)
		if e != OK || f != OK || back != source {
			t.Errorf("P8: %q sees %q (%d) of %q, and lays back %q (%d)", lens, seen, e, source, back, f)
		}
	}
	put, e := Put(lens, view, source)
	checkSeen(t, lens, put, e, view)
	made, e := Create(lens, view)
	checkSeen(t, lens, made, e, view)
}

// checkSeen looks at what Put or Create answered for a view.
func checkSeen(t *testing.T, lens, source string, e Errno, view string) {
	t.Helper()
	if e != OK {
		t.Errorf("P8: %q refuses the view %q: %d", lens, view, e)
	}
	if len(source) > maxText {
		return
	}
	if seen, e := Get(lens, source); e != OK || seen != view {
		t.Errorf("P8: %q sees %q (%d) of %q, made for %q", lens, seen, e, source, view)
	}
}

func TestLaws(t *testing.T) {
	random := rand.New(rand.NewSource(9))
	for _, from := range []pool{mixed(), ended()} {
		for lens, m := range rightSketches(random, from, 200) {
			for range 15 {
				view, source := m.aView(random), m.aSource(random)
				if len(view) <= maxText && len(source) <= maxText {
					checkLaws(t, lens, view, source)
				}
			}
		}
	}
}
