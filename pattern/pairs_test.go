package pattern

import (
	"math/rand"
	"slices"
	"strings"
	"testing"
)

func read(t *testing.T, text string) *Pattern {
	t.Helper()
	p, at := Read(text, 0)
	if p == nil || at != len(text) {
		t.Fatalf("Read(%q) = %v, %d", text, p, at)
	}
	return p
}

// witnesses are all the texts that a search may answer; without any it must
// find none.
type witnesses []string

func (w witnesses) have(text string, found bool) bool {
	if !found {
		return len(w) == 0 && text == ""
	}
	return slices.Contains(w, text)
}

func TestPartedTwice(t *testing.T) {
	for _, c := range []struct {
		ahead, behind string
		want          witnesses
	}{
		{"", "", nil},
		{"a", "b", nil},
		{"a*", "a", nil},
		{"a", "a*", nil},
		{"a*", "a?", witnesses{"a"}},
		{"a?", "a*", witnesses{"a"}},
		{"a*", "b*", nil},
		{"a|ab", "c|bc", witnesses{"abc"}},
		{"a|ab", "c|b", nil},
		{"(aaa)*", "aa|a|", nil},
		{"(aaa)*", "(aaaaa)*", witnesses{strings.Repeat("a", 15)}},
		{"(ab)*a?", "(ba)*b?", witnesses{"ab"}},
		{"[a-c]*", "[c-e]*", witnesses{"c"}},
		{"[a-c]*", "[d-e]*", nil},
		// One pattern that reads a text in several ways parts nothing.
		{"(a|a)(a*)*", "b", nil},
		{"((a|b)*(a|b)*)*c", "(d*)*", nil},
		// The places of the two partings must differ, also behind empty texts.
		{"()*|", "()*|", nil},
		{"(|)(|)", "a", nil},
		{"a||aa", "", nil},
		{"", "a||aa", nil},
		{"xa|x", "ay|y", witnesses{"xay"}},
		{"xa|x", "y|aay", nil},
	} {
		text, found := PartedTwice(read(t, c.ahead), read(t, c.behind))
		if !c.want.have(text, found) {
			t.Errorf("/%s/ and /%s/ are parted twice by %q, %v, want %q", c.ahead, c.behind, text, found, c.want)
		}
	}
}

func TestShared(t *testing.T) {
	for _, c := range []struct {
		p, q string
		want witnesses
	}{
		{"", "", witnesses{""}},
		{"a", "a", witnesses{"a"}},
		{"a", "b", nil},
		{"a", "", nil},
		{"a*", "b*", witnesses{""}},
		{"a+", "b+", nil},
		{"a*b", "ab*", witnesses{"ab"}},
		{"a*b", "(ab)*a", nil},
		{"[a-f]", "[d-z]", witnesses{"d", "e", "f"}},
		{"[,-9]", "[9-_]", witnesses{"9"}},
		{"[0-_]+", "[,_][,=]", witnesses{"_="}},
		{"a+|b", "[b-c]|aa", witnesses{"b"}},
		{"(aa)+", "(aaa)+", witnesses{"aaaaaa"}},
		{"(aa)+", "a(aa)*", nil},
	} {
		text, found := Shared(read(t, c.p), read(t, c.q))
		if !c.want.have(text, found) {
			t.Errorf("/%s/ and /%s/ share %q, %v, want %q", c.p, c.q, text, found, c.want)
		}
	}
}

func TestMadeOfParts(t *testing.T) {
	ab := Text("ab")
	for _, c := range []struct {
		p       *Pattern
		yes, no []string
	}{
		{Text(""), []string{""}, []string{"a"}},
		{ab, []string{"ab"}, []string{"", "a", "b", "abab"}},
		{Text("=,;:_0z"), []string{"=,;:_0z"}, []string{"=,;:_0"}},
		{Row(), []string{""}, []string{"a"}},
		{Row(ab), []string{"ab"}, []string{""}},
		{Row(ab, Many(ab), Text("c")), []string{"abc", "ababc"}, []string{"", "c", "ab", "abcab"}},
		{Choice(ab, Text("c")), []string{"ab", "c"}, []string{"", "abc"}},
		{Many(Choice(ab, Text("c"))), []string{"", "ab", "c", "cabc"}, []string{"a", "ac"}},
	} {
		for _, text := range c.yes {
			if !c.p.Holds(text) {
				t.Errorf("%v does not hold %q", c.p, text)
			}
		}
		for _, text := range c.no {
			if c.p.Holds(text) {
				t.Errorf("%v holds %q", c.p, text)
			}
		}
	}
}

// partings counts the ways in which a text can be parted.
func partings(ahead, behind *Pattern, text string) int {
	count := 0
	for i := range len(text) + 1 {
		if ahead.Holds(text[:i]) && behind.Holds(text[i:]) {
			count++
		}
	}
	return count
}

// TestSearchAsTrying tries all short texts, one by one.
func TestSearchAsTrying(t *testing.T) {
	const most = 4
	texts := []string{""}
	for i := 0; len(texts[i]) < most; i++ {
		texts = append(texts, texts[i]+"a", texts[i]+"b", texts[i]+"_")
	}
	random := rand.New(rand.NewSource(5))
	compare := func(what, text string, found bool, is func(string) bool) {
		t.Helper()
		shortest := slices.IndexFunc(texts, is)
		switch {
		case found && !is(text):
			t.Errorf("%s: %q is none", what, text)
		case shortest >= 0 && (!found || len(text) != len(texts[shortest])):
			t.Errorf("%s: %q, %v, want a text such as %q", what, text, found, texts[shortest])
		case shortest < 0 && found && len(text) <= most:
			t.Errorf("%s: %q was not tried", what, text)
		}
	}
	for range 400 {
		p, q := made(random, 2), made(random, 2)
		one, other := read(t, p), read(t, q)
		text, found := PartedTwice(one, other)
		compare("parting /"+p+"/ and /"+q+"/", text, found, func(s string) bool { return partings(one, other, s) > 1 })
		text, found = Shared(one, other)
		compare("sharing /"+p+"/ and /"+q+"/", text, found, func(s string) bool { return one.Holds(s) && other.Holds(s) })
	}
}

func TestVisits(t *testing.T) {
	s := newSearch()
	start := pair{inBehind, s.lay(read(t, "(a|b)*c?"), s.end), s.lay(read(t, "[ab]*(|c)"), s.end)}
	seen := map[pair]int{}
	length, all := 0, 0
	for v := range s.visits(start) {
		seen[v.pair]++
		if len(v.text()) < length {
			t.Errorf("%q comes behind a text of %d signs", v.text(), length)
		}
		length = len(v.text())
		all++
	}
	if len(seen) != all {
		t.Errorf("%d pairs in %d visits", len(seen), all)
	}
	for stop := range all {
		count := 0
		for range s.visits(start) {
			if count == stop {
				break
			}
			count++
		}
		if count != stop {
			t.Errorf("%d visits were given out, want %d", count, stop)
		}
	}
}
