package check

import (
	"slices"
	"testing"

	"glass/syntax"
)

func read(t *testing.T, text string) *syntax.Lens {
	t.Helper()
	l, at := syntax.Read(text)
	if l == nil {
		t.Fatalf("Read(%q) ends at %d", text, at)
	}
	return l
}

const manyJoints = `~((/a/ | /b/ ~(/c/, /d/)* /e/)* (/f/), /g/ | (/h/ | /i/))`

func TestJointsInOrder(t *testing.T) {
	var places []int
	for j := range joints(read(t, manyJoints)) {
		places = append(places, j.at())
	}
	if want := []int{0, 7, 13, 13, 24, 26, 30, 32, 43, 50}; !slices.Equal(places, want) {
		t.Errorf("the joints are at %v, want %v", places, want)
	}
}

func TestJointsStopEarly(t *testing.T) {
	l := read(t, manyJoints)
	for stop := range 10 {
		count := 0
		for range joints(l) {
			if count == stop {
				break
			}
			count++
		}
		if count != stop {
			t.Errorf("%d joints were given out, want %d", count, stop)
		}
	}
}

// TestShorterWitness has lenses that are wrong for sources and for views: the
// shorter text is told.
func TestShorterWitness(t *testing.T) {
	for _, c := range []struct {
		lens, witness string
		at            int
	}{
		{`/aa|aaa/"x""aa" /ab|b/`, "aaab", 16},
		{`(/aa|a/"x""a" | /b/"xx""b")*`, "aa", 27},
		{`(/aab|a|ab/"x""a" | /b/"xx""b")*`, "ab", 31},
		{`(/aaa|a/"x""a" | /b/"xx""b")*`, "xx", 28},
		{`~(/a|aa/"xx""a" | /b/"xxx""b", /a?/ /x?/)`, "aa", 0},
		{`~(/a|aaa/"x""a" | /b/"""b", /x?/ /a/*)`, "x", 0},
	} {
		at, witness, wrong := FirstWrong(read(t, c.lens))
		if !wrong || at != c.at || witness != c.witness {
			t.Errorf("%s is wrong: %v, at %d for %q, want %d for %q", c.lens, wrong, at, witness, c.at, c.witness)
		}
	}
}
