package syntax

import "testing"

func TestSides(t *testing.T) {
	for _, c := range []struct {
		lens             string
		sources, views   []string
		noSource, noView []string
	}{
		{`/a*/`, []string{"", "aa"}, []string{"", "aa"}, []string{"b"}, []string{"b"}},
		{`/a*/"b""a"`, []string{"", "aa"}, []string{"b"}, []string{"b"}, []string{"", "a", "bb"}},
		{`/a/"x""a" /b/`, []string{"ab"}, []string{"xb"}, []string{"xb", "ba"}, []string{"ab", "bx"}},
		{`~(/a/"x""a", /b/"y""b" /c/)`, []string{"abc"}, []string{"ycx"}, []string{"bca"}, []string{"xyc", "cyx"}},
		{`/a/"x""a" | /b/"""b"`, []string{"a", "b"}, []string{"x", ""}, []string{"", "ab"}, []string{"a", "b"}},
		{`(/a/"x""a" | /b/)*`, []string{"", "aba"}, []string{"", "xbx"}, []string{"x"}, []string{"a"}},
		{`((~(/a/, /b/)))*`, []string{"", "abab"}, []string{"", "baba"}, []string{"ba"}, []string{"ab"}},
	} {
		l, at := Read(c.lens)
		if l == nil {
			t.Fatalf("Read(%q) ends at %d", c.lens, at)
		}
		for _, x := range []struct {
			side  Side
			texts []string
			want  bool
		}{{Sources, c.sources, true}, {Views, c.views, true}, {Sources, c.noSource, false}, {Views, c.noView, false}} {
			for _, text := range x.texts {
				if x.side.Texts(l).Holds(text) != x.want {
					t.Errorf("%s, side %d: %q is in it: %v", c.lens, x.side, text, !x.want)
				}
			}
		}
	}
}
