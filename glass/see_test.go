package glass

import (
	"testing"
	"unsafe"
)

// call is a call with its answer.
type call struct {
	promise            string
	lens, view, source string
	want               string
	e                  Errno
}

func (c call) answer() (string, Errno) {
	switch c.promise {
	case "P5: Get":
		return Get(c.lens, c.source)
	case "P6: Put":
		return Put(c.lens, c.view, c.source)
	}
	return Create(c.lens, c.view)
}

func checkCalls(t *testing.T, cases []call) {
	t.Helper()
	for _, c := range cases {
		if text, e := c.answer(); text != c.want || e != c.e {
			t.Errorf("%s of %q with view %q, source %q: %q, %d, want %q, %d", c.promise, c.lens, c.view, c.source, text, e, c.want, c.e)
		}
	}
}

func get(lens, source, want string) call {
	return call{"P5: Get", lens, "", source, want, OK}
}

func put(lens, view, source, want string) call {
	return call{"P6: Put", lens, view, source, want, OK}
}

func create(lens, view, want string) call {
	return call{"P7: Create", lens, view, "", want, OK}
}

func noGet(lens, source string, e Errno) call {
	return call{"P5: Get", lens, "", source, "", e}
}

func noPut(lens, view, source string, e Errno) call {
	return call{"P6: Put", lens, view, source, "", e}
}

func noCreate(lens, view string, e Errno) call {
	return call{"P7: Create", lens, view, "", "", e}
}

const (
	entry   = `/[a-z]+/ /=/":""=" /[0-9]*/ /;/"" ";"`
	counted = `(/[a-z]/ /[0-9]+/"" "0")*`
	crossed = `~(/[a-z]+/, /[0-9]+/)`
)

func TestExamples(t *testing.T) {
	checkCalls(t, []call{
		get(entry, "ab=12;", "ab:12"),
		put(entry, "c:7", "ab=12;", "c=7;"),
		create(entry, "c:7", "c=7;"),
		get(counted, "a1b22c3", "abc"),
		put(counted, "xyzw", "a1b22c3", "x1y22z3w0"),
		put(counted, "x", "a1b22c3", "x1"),
		get(crossed, "ab12", "12ab"),
	})
}

func TestSame(t *testing.T) {
	checkCalls(t, []call{
		get(`/a*/`, "aa", "aa"),
		put(`/a*/`, "a", "aaa", "a"),
		create(`/a*/`, "aa", "aa"),
		get(`/a*/`, "", ""),
		put(`/a*/`, "", "a", ""),
		create(`//`, "", ""),
		get(`/[,-z]*/`, ",09:;=_az", ",09:;=_az"),
		get("\n ((/a/)) ", "a", "a"),
		noGet(`/a*/`, "b", ErrSource),
		noGet(`/a*/`, "ab", ErrSource),
		noGet(`/a/`, "", ErrSource),
		noGet(`/a/`, "aa", ErrSource),
		noCreate(`/a/`, "b", ErrView),
		noCreate(`/a/`, "", ErrView),
		// The source must be one, though nothing of it is kept.
		noPut(`/a*/`, "a", "b", ErrSource),
		noPut(`/a*/`, "b", "a", ErrView),
		noPut(`/a*/`, "b", "b", ErrView),
	})
}

func TestFixed(t *testing.T) {
	lens := `/[ab]*/"x""ab"`
	checkCalls(t, []call{
		get(lens, "bba", "x"),
		get(lens, "", "x"),
		put(lens, "x", "bba", "bba"),
		put(lens, "x", "", ""),
		create(lens, "x", "ab"),
		noGet(lens, "x", ErrSource),
		noCreate(lens, "", ErrView),
		noCreate(lens, "ab", ErrView),
		noCreate(lens, "xx", ErrView),
		noPut(lens, "ab", "ab", ErrView),
		noPut(lens, "x", "x", ErrSource),
		noPut(lens, "ab", "x", ErrView),
		// The view and the default may be empty, and may be alike.
		get(`/a*/""""`, "aa", ""),
		put(`/a*/""""`, "", "aa", "aa"),
		create(`/a*/""""`, "", ""),
		create(`/a*/"a""a"`, "a", "a"),
		noCreate(`/a*/"a""a"`, "aa", ErrView),
	})
}

func TestRows(t *testing.T) {
	hidden := `/a*/"""aa" /b/ /c*/"x""c" /d?/`
	checkCalls(t, []call{
		get(hidden, "aaabccd", "bxd"),
		get(hidden, "b", "bx"),
		put(hidden, "bx", "aaabccd", "aaabcc"),
		put(hidden, "bxd", "b", "bd"),
		create(hidden, "bxd", "aabcd"),
		create(hidden, "bx", "aabc"),
		noGet(hidden, "aabcdd", ErrSource),
		noGet(hidden, "", ErrSource),
		noCreate(hidden, "abx", ErrView),
		noCreate(hidden, "b", ErrView),
		noPut(hidden, "bx", "bx", ErrSource),
		noPut(hidden, "bc", "bx", ErrView),
		// The places of views are not those of sources.
		get(`/a|ab/ /c/"b""c"`, "abc", "abb"),
		put(`/a|ab/ /c/"b""c"`, "ab", "abc", "ac"),
		put(`/a*/ /b/"ab""b"`, "aaab", "b", "aab"),
		// Parted at its beginning, or at its end.
		get(`/a*/"x""" /b/`, "b", "xb"),
		get(`/a/ /b*/`, "a", "a"),
		put(`/a*/ /a/`, "aaa", "a", "aaa"),
		// Rows within rows.
		get(`(/a/ /b/"""b") (/c/"""c" (/d/ /e/"x""e"))`, "abcde", "adx"),
		put(`(/a?/ /b+/"""b") (/c+/"""c" (/d?/ /e/"x""e"))`, "x", "abbccde", "bbcce"),
		create(`// /a/"x""a" //`, "x", "a"),
	})
}

func TestSwaps(t *testing.T) {
	fields := `~(/[a-z]*/ /=+/":""==", ~(/[0-9]*/, /;+/"," ";"))`
	checkCalls(t, []call{
		put(crossed, "7x", "ab12", "x7"),
		create(crossed, "7x", "x7"),
		noGet(crossed, "12ab", ErrSource),
		noCreate(crossed, "x7", ErrView),
		noPut(crossed, "x7", "12ab", ErrView),
		noPut(crossed, "7x", "12ab", ErrSource),
		get(fields, "ab=12;;;", ",12ab:"),
		put(fields, ",7cde:", "ab=12;;;", "cde=7;;;"),
		put(fields, ",:", "ab=12;;;", "=;;;"),
		create(fields, ",7c:", "c==7;"),
		// Sources that views would not tell apart so, and the other way round.
		get(`~(/a|ab/, /c/)`, "abc", "cab"),
		put(`~(/a|ab/, /c/)`, "ca", "abc", "ac"),
		get(`~(/a+/, /a/)`, "aaa", "aaa"),
		put(`~(/a+/"x""a", /a/"y""a")`, "yx", "aaa", "aaa"),
		get(`(~(/a/, /b/))*`, "ababab", "bababa"),
		put(`(~(/a+/"x""a", /b/))*`, "bxbx", "aaab", "aaabab"),
	})
}

func TestChoices(t *testing.T) {
	lens := `/a+/"x""aa" | /b+/"y""bb" | /c+/"x""cc" | /[de]/`
	checkCalls(t, []call{
		get(lens, "a", "x"),
		get(lens, "bbb", "y"),
		get(lens, "cc", "x"),
		get(lens, "d", "d"),
		// The row whose source it is, where it has the view.
		put(lens, "x", "a", "a"),
		put(lens, "x", "ccc", "ccc"),
		put(lens, "y", "b", "b"),
		put(lens, "e", "d", "e"),
		// Else the first one that has it.
		put(lens, "x", "b", "aa"),
		put(lens, "x", "e", "aa"),
		put(lens, "y", "c", "bb"),
		put(lens, "d", "a", "d"),
		create(lens, "x", "aa"),
		create(lens, "y", "bb"),
		create(lens, "d", "d"),
		noGet(lens, "x", ErrSource),
		noGet(lens, "", ErrSource),
		noGet(lens, "ab", ErrSource),
		noCreate(lens, "a", ErrView),
		noCreate(lens, "", ErrView),
		noPut(lens, "x", "x", ErrSource),
		noPut(lens, "a", "a", ErrView),
		noPut(lens, "a", "x", ErrView),
	})
}

// TestChoicesWithin has choices in brackets: a source is laid back within the
// brackets that it is of, if they have the view.
func TestChoicesWithin(t *testing.T) {
	flat := `/a/"x""a" | /b/"y""b" | /c/"x""c"`
	first := `(/a/"x""a" | /b/"y""b") | /c/"x""c"`
	last := `/a/"x""a" | (/b/"y""b" | /c/"x""c")`
	checkCalls(t, []call{
		put(flat, "x", "b", "a"),
		put(first, "x", "b", "a"),
		put(last, "x", "b", "c"),
		put(flat, "y", "a", "b"),
		put(last, "y", "a", "b"),
		put(first, "x", "c", "c"),
		put(last, "x", "a", "a"),
		create(last, "x", "a"),
		get(last, "c", "x"),
		put(`(/a/ | /b+/"x""b") (/c/ | /d+/"x""d")`, "xx", "bbc", "bbd"),
		put(`(/a/ | /b+/"x""b") (/c/ | /d+/"x""d")`, "xc", "addd", "bc"),
	})
}

func TestManys(t *testing.T) {
	either := `(/a+;/"x""a;" | /b+;/"x""b;" | /[cd]/)*`
	deep := `(/[a-z]/ /:*/"" ":" (/[0-9]/ /,+/"" ",")* /;/)*`
	checkCalls(t, []call{
		get(counted, "", ""),
		get(counted, "a1", "a"),
		put(counted, "abc", "a1b22c3", "a1b22c3"),
		put(counted, "", "a1b22c3", ""),
		put(counted, "", "", ""),
		put(counted, "ab", "", "a0b0"),
		create(counted, "", ""),
		create(counted, "xyz", "x0y0z0"),
		noGet(counted, "a1b", ErrSource),
		noGet(counted, "1a1", ErrSource),
		noCreate(counted, "a1", ErrView),
		noPut(counted, "a1", "a", ErrView),
		noPut(counted, "abc", "a1b", ErrSource),
		// Sources that are left out must be sources.
		noPut(counted, "", "a", ErrSource),
		noPut(counted, "x", "a1b", ErrSource),
		// View by view, not text by text.
		put(either, "xdx", "bb;cbbb;", "bb;dbbb;"),
		put(either, "xcx", "bb;bbb;d", "bb;ca;"),
		put(either, "cdx", "aa;", "cda;"),
		put(either, "xx", "cbb;", "a;bb;"),
		create(either, "cxx", "ca;a;"),
		// Rows of rows.
		get(deep, "a:1,2,,;b;", "a12;b;"),
		put(deep, "x345;y6;z7;", "a::1,,2,,,;b;", "x::3,,4,,,5,;y6,;z:7,;"),
		put(deep, "x;y;", "a::1,,2,,,;b;", "x::;y;"),
		create(deep, "x34;", "x:3,4,;"),
		// A piece of several lengths, told apart by what stands behind it.
		get(`(/ab|abb/"x""ab" | /c/)*`, "abbcab", "xcx"),
		put(`/ba*/*`, "bbaab", "baaaa", "bbaab"),
		get(`(/[ab]*/ /;/"," ";")* /[ab]*/`, "ab;;b", "ab,,b"),
	})
}

func TestTextsTooLong(t *testing.T) {
	full, over := times("a", 60), times("a", 61)
	checkCalls(t, []call{
		get(`/a*/`, full, full),
		put(`/a*/`, full, full, full),
		put(`/a*/`, full, "", full),
		put(`/a*/`, "", full, ""),
		create(`/a*/`, full, full),
		noGet(`/a*/`, over, ErrLong),
		noPut(`/a*/`, over, "", ErrLong),
		noPut(`/a*/`, "", over, ErrLong),
		noPut(`/a*/`, over, over, ErrLong),
		noCreate(`/a*/`, over, ErrLong),
		noGet(`/a*/`, times("b", 60), ErrSource),
		noPut(`/a*/`, times("b", 60), full, ErrView),
		noPut(`/a*/`, full, times("b", 60), ErrSource),
		noCreate(`/a*/`, times("b", 60), ErrView),
		// Bytes are counted, whatever they are.
		noGet(`/a*/`, times("é", 30), ErrSource),
		noGet(`/a*/`, times("é", 31), ErrLong),
		noCreate(`/a*/`, times("\x00", 61), ErrLong),
		// An answer may be as long as it comes to be.
		get(`(/a/"xyz""a")*`, full, times("xyz", 60)),
		put(`(/a/ /0*/"" "0000")*`, full, "a"+times("0", 59), "a"+times("0", 59)+times("a0000", 59)),
		create(`(/a/ /0*/"" "0000")*`, full, times("a0000", 60)),
	})
}

func TestFirstErrorOfCalls(t *testing.T) {
	over := times("A", 61)
	for _, c := range []struct {
		lens string
		e    Errno
	}{
		{times(" ", 121), ErrLong},
		{`/a*/ /a?/` + times(" ", 112), ErrLong},
		{``, ErrForm},
		{`/a`, ErrForm},
		{`/a*/ /a?/ A`, ErrForm},
		{`/a/"x""b" A`, ErrForm},
		{`/a/"x""b"`, ErrDefault},
		{`/a*/ /a?/ /a/"x""b"`, ErrDefault},
		{`/a*/ /a?/`, ErrType},
		{`~(/a*/, /a*/)`, ErrType},
		{`/a/ | /a/`, ErrType},
		{`(/a/"" "a")*`, ErrType},
	} {
		for _, text := range []string{"", "a", "A", over} {
			checkCalls(t, []call{noGet(c.lens, text, c.e), noPut(c.lens, text, text, c.e), noCreate(c.lens, text, c.e)})
		}
	}
	checkCalls(t, []call{
		noGet(`/a/`, over, ErrLong),
		noCreate(`/a/`, over, ErrLong),
		noPut(`/a/`, over, "A", ErrLong),
		noPut(`/a/`, "A", over, ErrLong),
		noPut(`/a/`, "A", "A", ErrView),
		noPut(`/a/`, "a", "A", ErrSource),
	})
}

// TestNoSigns has texts with bytes that no pattern tells.
func TestNoSigns(t *testing.T) {
	for _, text := range []string{" ", "a ", " a", "a\n", "A", "é", "\x00", "a\x00", "\xff", "-", "^", "[", "<", "+", "\"", "/"} {
		lens := `/[,-z]*/`
		checkCalls(t, []call{
			noGet(lens, text, ErrSource),
			noPut(lens, text, "a", ErrView),
			noPut(lens, "a", text, ErrSource),
			noCreate(lens, text, ErrView),
		})
	}
}

// TestAnswersAreNew holds where an answer lies against where the arguments do.
func TestAnswersAreNew(t *testing.T) {
	within := func(part, whole string) bool {
		at := uintptr(unsafe.Pointer(unsafe.StringData(part)))
		first := uintptr(unsafe.Pointer(unsafe.StringData(whole)))
		return at >= first && at < first+uintptr(len(whole))
	}
	for _, c := range []call{
		get(`/a*/`, "aaa", "aaa"),
		put(`/a*/`, "aa", "aaa", "aa"),
		create(`/a*/`, "aa", "aa"),
		get(`/a*/"bcd""aa"`, "a", "bcd"),
		put(`/a*/"bcd""aa"`, "bcd", "a", "a"),
		create(`/a*/"bcd""aa"`, "bcd", "aa"),
		get(`// /a*/ //`, "aaa", "aaa"),
		put(`(/a/ | /b/)*`, "b", "a", "b"),
	} {
		text, e := c.answer()
		if e != OK || within(text, c.lens) || within(text, c.view) || within(text, c.source) {
			t.Errorf("%s of %q: %q, %d shares memory", c.promise, c.lens, text, e)
		}
	}
}
