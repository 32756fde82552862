package glass

import (
	"maps"
	"math/rand"
	"regexp"
	"slices"
	"sync"
	"testing"
)

// most is how long the texts are that are all looked at one by one.
const most = 5

// texts is a set of texts of the signs a and b: those up to most bytes one by
// one, and all of them as an expression that another package reads.
type texts struct {
	short map[string]bool
	all   string
	read  func() *regexp.Regexp // reads all
}

// newTexts leaves the expression unread until it is asked for.
func newTexts(short map[string]bool, all string) texts {
	return texts{short, all, sync.OnceValue(func() *regexp.Regexp {
		return regexp.MustCompile(`\A(?:` + all + `)\z`)
	})}
}

func (s texts) have(text string) bool {
	if len(text) <= most {
		return s.short[text]
	}
	return s.read().MatchString(text)
}

func ofPattern(pattern string) texts {
	all := regexp.MustCompile(`\A(?:` + pattern + `)\z`)
	short := map[string]bool{}
	tried := []string{""}
	for i := 0; i < len(tried); i++ {
		if all.MatchString(tried[i]) {
			short[tried[i]] = true
		}
		if len(tried[i]) < most {
			tried = append(tried, tried[i]+"a", tried[i]+"b")
		}
	}
	return newTexts(short, pattern)
}

func oneText(text string) texts {
	return newTexts(map[string]bool{text: true}, text)
}

func rowOf(s, u texts) texts {
	short := map[string]bool{}
	for a := range s.short {
		for b := range u.short {
			if len(a)+len(b) <= most {
				short[a+b] = true
			}
		}
	}
	return newTexts(short, "(?:"+s.all+")(?:"+u.all+")")
}

func choiceOf(s, u texts) texts {
	short := map[string]bool{}
	for _, part := range []texts{s, u} {
		for a := range part.short {
			short[a] = true
		}
	}
	return newTexts(short, "(?:"+s.all+")|(?:"+u.all+")")
}

func manyOf(s texts) texts {
	short := map[string]bool{"": true}
	rows := []string{""}
	for i := 0; i < len(rows); i++ {
		for part := range s.short {
			longer := rows[i] + part
			if len(longer) <= most && !short[longer] {
				short[longer] = true
				rows = append(rows, longer)
			}
		}
	}
	return newTexts(short, "(?:"+s.all+")*")
}

// spot is a place at which a lens may be wrong.
type spot struct {
	at        int
	shortest  int               // the length of a shortest witness, or more than most
	isWitness func(string) bool // of any length
}

func newSpot(at int, short []string, isWitness func(string) bool) spot {
	s := spot{at, most + 1, isWitness}
	for _, text := range short {
		s.shortest = min(s.shortest, len(text))
	}
	return s
}

// either is a spot that is wrong for sources or for views.
func either(sources, views spot) spot {
	return spot{sources.at, min(sources.shortest, views.shortest), func(w string) bool {
		return sources.isWitness(w) || views.isWitness(w)
	}}
}

// fits tells whether a text is a shortest witness, so far as is known.
func (s spot) fits(witness string) bool {
	return (len(witness) == s.shortest || len(witness) > most && s.shortest > most) && s.isWitness(witness)
}

// sharing is the spot of a | between rows.
func sharing(at int, s, u texts) spot {
	var short []string
	for text := range s.short {
		if u.short[text] {
			short = append(short, text)
		}
	}
	return newSpot(at, short, func(w string) bool { return s.have(w) && u.have(w) })
}

// parting is the spot of two lenses, one behind the other.
func parting(at int, s, u texts) spot {
	var short []string
	ways := map[string]int{}
	for a := range s.short {
		for b := range u.short {
			if len(a)+len(b) > most {
				continue
			}
			if ways[a+b]++; ways[a+b] > 1 {
				short = append(short, a+b)
			}
		}
	}
	return newSpot(at, short, func(w string) bool {
		count := 0
		for i := range len(w) + 1 {
			if s.have(w[:i]) && u.have(w[i:]) {
				count++
			}
		}
		return count > 1
	})
}

// repeating is the spot of a *.
func repeating(at int, s texts) spot {
	if s.have("") {
		return newSpot(at, []string{""}, func(w string) bool { return w == "" })
	}
	var short []string
	for text := range manyOf(s).short {
		if rows(text, func(part string) bool { return s.short[part] }) > 1 {
			short = append(short, text)
		}
	}
	return newSpot(at, short, func(w string) bool { return rows(w, s.have) > 1 })
}

// rows counts in how many ways a text is a row of parts.
func rows(text string, isPart func(string) bool) int {
	ways := make([]int, len(text)+1)
	ways[0] = 1
	for to := 1; to <= len(text); to++ {
		for from := range to {
			if ways[from] > 0 && isPart(text[from:to]) {
				ways[to] += ways[from]
			}
		}
	}
	return ways[len(text)]
}

// sketch is a lens made at random: what the document says of it is written down
// along with it.
type sketch struct {
	maker
	pool
	spots []spot
	whole model
}

func (s *sketch) lens(deep int) model {
	whole := s.row(deep)
	for s.random.Intn(4) == 0 {
		s.gap("")
		at := s.loose.Len()
		s.part("|")
		s.gap("")
		next := s.row(deep)
		s.spots = append(s.spots, sharing(at, whole.sources, next.sources))
		whole = choiceModel(whole, next)
	}
	return whole
}

func (s *sketch) row(deep int) model {
	whole := s.item(deep)
	for s.random.Intn(3) == 0 {
		s.gap("")
		at := s.loose.Len()
		next := s.item(deep)
		s.spots = append(s.spots, either(parting(at, whole.sources, next.sources), parting(at, whole.views, next.views)))
		whole = rowModel(whole, next)
	}
	return whole
}

func (s *sketch) item(deep int) model {
	piece := s.piece(deep)
	if s.random.Intn(3) > 0 {
		return piece
	}
	s.gap("")
	at := s.loose.Len()
	s.part("*")
	s.spots = append(s.spots, either(repeating(at, piece.sources), repeating(at, piece.views)))
	return manyModel(piece)
}

func (s *sketch) piece(deep int) model {
	kind := s.random.Intn(4)
	if deep == 0 {
		kind %= 2
	}
	switch kind {
	case 0:
		return sameModel(s.patternPiece())
	case 1:
		return s.fixed()
	case 2:
		inner := s.bracket("(", deep)
		s.part(")")
		return inner
	}
	at := s.loose.Len()
	s.part("~")
	s.gap("")
	l := s.bracket("(", deep)
	k := s.bracket(",", deep)
	s.part(")")
	s.spots = append(s.spots, either(parting(at, l.sources, k.sources), parting(at, k.views, l.views)))
	return swapModel(l, k)
}

func (s *sketch) bracket(sign string, deep int) model {
	s.part(sign)
	s.gap("")
	inner := s.lens(deep - 1)
	s.gap("")
	return inner
}

func (s *sketch) patternPiece() texts {
	pattern := s.pick(s.patterns)
	s.part("/" + pattern + "/")
	return ofPattern(pattern)
}

func (s *sketch) pick(from []string) string {
	return from[s.random.Intn(len(from))]
}

func (s *sketch) fixed() model {
	p := s.patternPiece()
	view := s.pick(s.fixedViews)
	made := s.pick(slices.Sorted(maps.Keys(p.short)))
	s.gap("")
	s.part(`"` + view + `"`)
	s.gap("")
	s.part(`"` + made + `"`)
	return fixedModel(p, view, made)
}

// pool is what the pieces of a sketch are made of.
type pool struct{ patterns, fixedViews []string }

// mixed makes lenses that are often wrong.
func mixed() pool {
	return pool{
		[]string{
			"a", "b", "ab", "ba", "a*", "b*", "a+", "b?", "a*b", "ba*", "(ab)*", "a|bb", "[ab]", "[a-b]*b", "aa|b", "",
			"(aaa)*", "(aaaaa)*", "aab|b", "a|ab", "b|ab", "(a|bb)+", "ab?|b", "(aa)*b?", "a(b|)a", "bbb|abb|a",
		},
		[]string{"", "a", "b", "ab", "aa", "bab"},
	}
}

// ended makes lenses that are mostly right: each text ends at its first b.
func ended() pool {
	return pool{
		[]string{"b", "ab", "aab", "b|ab", "a?b", "a*b", "aa+b", "(aa)*b", "a(aa)*b", "aaa*b", "ab|aaaab"},
		[]string{"b", "ab", "aab", "aaaab"},
	}
}

func makeSketch(random *rand.Rand, from pool) *sketch {
	for {
		s := &sketch{maker: maker{random: random}, pool: from}
		s.gap("")
		s.whole = s.lens(random.Intn(3))
		s.gap("")
		if s.loose.Len() <= maxLens {
			return s
		}
	}
}

// fault says what a check of a sketch has wrong, or nothing.
func (s *sketch) fault(e Errno, at int, witness string) string {
	last := maxLens
	switch {
	case e == ErrType:
		last = at - 1
		if !slices.ContainsFunc(s.spots, func(x spot) bool { return x.at == at && x.fits(witness) }) {
			return "no shortest witness"
		}
	case e != OK || at != 0 || witness != "":
		return "no such answer"
	}
	for _, spot := range s.spots {
		if spot.at <= last && spot.shortest <= most {
			return "an earlier place is wrong"
		}
	}
	return ""
}

func TestCheckSketches(t *testing.T) {
	random := rand.New(rand.NewSource(7))
	seen := map[Errno]int{}
	long := 0
	for range 4000 {
		s := makeSketch(random, mixed())
		lens := s.loose.String()
		e, at, witness := Check(lens)
		if fault := s.fault(e, at, witness); fault != "" {
			t.Errorf("P4: Check(%q) = %d, %d, %q: %s", lens, e, at, witness, fault)
		}
		if len(s.spots) > 0 {
			seen[e]++
		}
		if len(witness) > most {
			long++
		}
	}
	if seen[OK] < 500 || seen[ErrType] < 500 || long < 3 {
		t.Errorf("too few lenses of a kind: %v, %d with a long witness", seen, long)
	}
}
