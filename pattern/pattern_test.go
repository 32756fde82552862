package pattern

import (
	"math/rand"
	"regexp"
	"slices"
	"strings"
	"testing"
)

func TestHolds(t *testing.T) {
	for _, c := range []struct {
		pattern string
		yes, no []string
	}{
		{"", []string{""}, []string{"a"}},
		{"a", []string{"a"}, []string{"", "aa", "b"}},
		{"ab", []string{"ab"}, []string{"", "a", "b", "ba", "abb"}},
		{"a|b", []string{"a", "b"}, []string{"", "ab"}},
		{"a|", []string{"a", ""}, []string{"aa", "b"}},
		{"a*", []string{"", "a", "aa", "aaa"}, []string{"b", "ab"}},
		{"a+", []string{"a", "aa", "aaa"}, []string{"", "b"}},
		{"a?", []string{"", "a"}, []string{"aa"}},
		{"(ab)+c?", []string{"ab", "abab", "ababc"}, []string{"", "c", "a", "aba", "abcc"}},
		{"((a*)*)*b", []string{"b", "ab", "aab"}, []string{"", "a", "ba"}},
		{"()*", []string{""}, []string{"a"}},
		{"(|a)+", []string{"", "a", "aa"}, []string{"b"}},
		{"(a?b?)*c", []string{"c", "abc", "bac", "bbaac"}, []string{"", "ab"}},
		{"[a-c0]", []string{"a", "b", "c", "0"}, []string{"", "d", "1", "ab", "-"}},
		{"[0-_]", []string{"0", "9", ":", ";", "=", "_"}, []string{",", "a", "A", "@", "[", "<", "^"}},
		{"[,-z]", []string{",", "0", ":", "=", "_", "a", "z"}, []string{"A", "Z", ".", "/", "-", "é", "\x00", "\xff"}},
	} {
		p, at := Read(c.pattern, 0)
		if p == nil || at != len(c.pattern) {
			t.Fatalf("Read(%q) = %v, %d", c.pattern, p, at)
		}
		for _, text := range c.yes {
			if !p.Holds(text) {
				t.Errorf("/%s/ does not hold %q", c.pattern, text)
			}
		}
		for _, text := range c.no {
			if p.Holds(text) {
				t.Errorf("/%s/ holds %q", c.pattern, text)
			}
		}
	}
}

func TestReadStops(t *testing.T) {
	for _, c := range []struct {
		text    string
		at, end int
		ok      bool
	}{
		{"/a/", 1, 2, true},
		{"//", 1, 1, true},
		{"a)", 0, 1, true},
		{"a**", 0, 2, true},
		{"(a/", 0, 2, false},
		{"(a", 0, 2, false},
		{"[a-", 0, 3, false},
		{"[b-a]", 0, 3, false},
		{"[]", 0, 1, false},
	} {
		p, end := Read(c.text, c.at)
		if (p != nil) != c.ok || end != c.end {
			t.Errorf("Read(%q, %d) = %v, %d, want %v, %d", c.text, c.at, p != nil, end, c.ok, c.end)
		}
	}
}

// TestHoldsAsRegexp takes another reader of patterns, which tells the same of
// texts of signs.
func TestHoldsAsRegexp(t *testing.T) {
	random := rand.New(rand.NewSource(1))
	texts := []string{""}
	for i := 0; len(texts[i]) < 5; i++ {
		texts = append(texts, texts[i]+"a", texts[i]+"b", texts[i]+"_")
	}
	for range 2000 {
		text := made(random, 3)
		p, at := Read(text, 0)
		if p == nil || at != len(text) {
			t.Fatalf("Read(%q) = %v, %d", text, p, at)
		}
		other := regexp.MustCompile(`\A(?:` + text + `)\z`)
		for _, s := range texts {
			if p.Holds(s) != other.MatchString(s) {
				t.Fatalf("/%s/ and %q: %v", text, s, p.Holds(s))
			}
		}
	}
}

func made(random *rand.Rand, deep int) string {
	var out strings.Builder
	for range random.Intn(5) {
		switch random.Intn(5) {
		case 0:
			out.WriteString("|")
			continue
		case 1:
			out.WriteString([]string{"[ab]", "[_-a]", "[a-z]", "[_b]"}[random.Intn(4)])
		case 2, 3:
			if deep > 0 {
				out.WriteString("(" + made(random, deep-1) + ")")
				break
			}
			fallthrough
		default:
			out.WriteByte("ab_"[random.Intn(3)])
		}
		out.WriteString([]string{"", "*", "+", "?"}[random.Intn(4)])
	}
	return out.String()
}

func TestPlaces(t *testing.T) {
	for _, c := range []struct {
		ahead, behind, text string
		want                []int
	}{
		{"", "", "", []int{0}},
		{"", "", "a", nil},
		{"a", "b", "ab", []int{1}},
		{"a", "b", "ba", nil},
		{"a*", "a*", "aaa", []int{0, 1, 2, 3}},
		{"a*", "a+", "aaa", []int{0, 1, 2}},
		{"a+", "a*", "aaa", []int{1, 2, 3}},
		{"(aa)*", "a*", "aaaaa", []int{0, 2, 4}},
		{"a|aba", "(ba)*", "aba", []int{1, 3}},
		{"a*", "b*", "aab", []int{2}},
		{"a*", "b*", "aaba", nil},
		{"[,-z]*", "[,-z]*", "aA", nil},
		{"a*", "", "aaaaab", nil},
	} {
		ahead, behind := read(t, c.ahead).Machine(), read(t, c.behind).Machine()
		if places := slices.Collect(Places(ahead, behind, c.text)); !slices.Equal(places, c.want) {
			t.Errorf("%q is parted into /%s/ and /%s/ at %v, want %v", c.text, c.ahead, c.behind, places, c.want)
		}
		for stop := range c.want {
			count := 0
			for range Places(ahead, behind, c.text) {
				if count == stop {
					break
				}
				count++
			}
			if count != stop {
				t.Errorf("%d places were given out, want %d", count, stop)
			}
		}
	}
}
