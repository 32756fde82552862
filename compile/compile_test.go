package compile

import (
	"slices"
	"strconv"
	"testing"

	"glass/syntax"
)

func read(t *testing.T, text string) *Lens {
	t.Helper()
	l, at := syntax.Read(text)
	if l == nil {
		t.Fatalf("Read(%q) ends at %d", text, at)
	}
	return New(l)
}

// TestFunctions asks the functions of each kind of lens themselves.
func TestFunctions(t *testing.T) {
	for _, c := range []struct {
		lens, view, source    string
		sees, laysBack, makes string
	}{
		{`/[ab]*/`, "a", "b", "b", "a", "a"},
		{`/[ab]*/"x""ab"`, "x", "b", "x", "b", "ab"},
		{`((/[ab]*/"x""ab"))`, "x", "b", "x", "b", "ab"},
		{`/a*/ /b*/"x""bb" /c*/`, "axc", "b", "x", "abc", "abbc"},
		{`~(/a*/, ~(/b*/"x""bb", /c*/))`, "cxa", "b", "x", "abc", "abbc"},
		{`/a+/"x""aa" | /b+/"x""bb" | /c/`, "x", "b", "x", "b", "aa"},
		{`/a+/"x""aa" | /b+/"y""bb" | /c/`, "x", "b", "y", "aa", "aa"},
		{`(/[ab]/ /[0-9]/"""0")*`, "baa", "a1b2", "ab", "b1a2a0", "b0a0a0"},
	} {
		l := read(t, c.lens)
		if sees := l.sees(c.source); sees != c.sees {
			t.Errorf("%s sees %q of %q, want %q", c.lens, sees, c.source, c.sees)
		}
		if laysBack := l.laysBack(c.view, c.source); laysBack != c.laysBack {
			t.Errorf("%s lays back %q for %q and %q, want %q", c.lens, laysBack, c.view, c.source, c.laysBack)
		}
		if makes := l.makes(c.view); makes != c.makes {
			t.Errorf("%s makes %q of %q, want %q", c.lens, makes, c.view, c.makes)
		}
	}
}

// TestMisfits has views and sources of each kind of lens that are none, alone
// and together.
func TestMisfits(t *testing.T) {
	for _, c := range []struct{ lens, view, source string }{
		{`/a*/`, "a", "aa"},
		{`/a*/"x""aa"`, "x", "a"},
		{`(/a*/"x""aa")`, "x", "a"},
		{`/a/ /b*/"x""bb" /c*/`, "axc", "abc"},
		{`~(/a*/, ~(/b*/"x""bb", /c*/))`, "cxa", "abc"},
		{`/a+/"x""aa" | /b+/"y""bb" | /c/`, "x", "b"},
		{`/a+/"x""aa" | /b+/"y""bb" | /c/`, "y", "b"},
		{`(/[ab]/ /[0-9]/"""0")*`, "ba", "a1"},
		{`(/[ab]/ /[0-9]/"""0")*`, "", "a1"},
		{`((/a/ | /b/"x""b" ~(/c/, /d/)*) /;/)*`, "xdcdc;", "a;a;"},
	} {
		l := read(t, c.lens)
		for _, wrong := range []string{"z", c.view + "z", "z" + c.view, c.view + "\x00"} {
			checkMisfit(t, l, c.lens, wrong, c.source, None, NoView, NoView)
		}
		for _, wrong := range []string{"z", c.source + "z", "z" + c.source, c.source + "\x00"} {
			checkMisfit(t, l, c.lens, c.view, wrong, NoSource, NoSource, None)
			checkMisfit(t, l, c.lens, wrong, wrong, NoSource, NoView, NoView)
		}
		checkMisfit(t, l, c.lens, c.view, c.source, None, None, None)
	}
}

func checkMisfit(t *testing.T, l *Lens, lens, view, source string, ofGet, ofPut, ofCreate Misfit) {
	t.Helper()
	seen, get := l.Get(source)
	laid, put := l.Put(view, source)
	made, create := l.Create(view)
	if get != ofGet || put != ofPut || create != ofCreate {
		t.Errorf("%s with %q and %q: %d, %d, %d, want %d, %d, %d", lens, view, source, get, put, create, ofGet, ofPut, ofCreate)
	}
	if get != None && seen != "" || put != None && laid != "" || create != None && made != "" {
		t.Errorf("%s with %q and %q: a misfit comes with %q, %q, %q", lens, view, source, seen, laid, made)
	}
}

// TestOtherPanics throws what is no Misfit: it is a fault, and not hidden.
func TestOtherPanics(t *testing.T) {
	defer func() {
		if thrown := recover(); thrown != "a fault" {
			t.Errorf("caught %v", thrown)
		}
	}()
	caught(func() string { panic("a fault") })
	t.Error("a fault was hidden")
}

func TestEach(t *testing.T) {
	if all := each([]int{3, 1, 2}, strconv.Itoa); !slices.Equal(all, []string{"3", "1", "2"}) {
		t.Errorf("each = %q", all)
	}
	if all := each(nil, strconv.Itoa); len(all) != 0 {
		t.Errorf("each of nothing = %q", all)
	}
}
