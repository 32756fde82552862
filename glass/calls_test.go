package glass

import (
	"math/rand"
	"testing"
)

// answer holds what all the calls answer for one choice of arguments.
type answer struct {
	print    string
	printErr Errno
	printAt  int

	checkErr Errno
	checkAt  int
	witness  string

	get       string
	getErr    Errno
	put       string
	putErr    Errno
	create    string
	createErr Errno
}

func callAll(lens, view, source string) answer {
	var a answer
	a.print, a.printErr, a.printAt = Print(lens)
	a.checkErr, a.checkAt, a.witness = Check(lens)
	a.get, a.getErr = Get(lens, source)
	a.put, a.putErr = Put(lens, view, source)
	a.create, a.createErr = Create(lens, view)
	return a
}

// zeros tells whether all results that an error or OK leaves empty are so.
func (a answer) zeros() bool {
	return (a.printErr == OK || a.print == "") &&
		(a.printErr == ErrForm || a.printErr == ErrDefault || a.printAt == 0) &&
		(a.checkErr == ErrType || a.witness == "") &&
		(a.checkErr != OK && a.checkErr != ErrLong || a.checkAt == 0) &&
		(a.getErr == OK || a.get == "") &&
		(a.putErr == OK || a.put == "") &&
		(a.createErr == OK || a.create == "")
}

// wild are strings of all sorts; each is taken as a lens and as a text.
func wild() []string {
	all := []string{
		"", " ", "\n", "\x00", "\xff", "\x80\x80", "é", "日本", "\xf0\x9f", "A", "a", "0", "\t", "\r\n",
		"/a/\x00", "/\xff/", "/a/\"\xff\"\"a\"", "/[\x80-\xff]/", "/[a-\xff]/", "//\xc3",
		"a1b22c3", "ab=12;", "abc", entry, counted, crossed, "/a/", "/a/*", "//*", "/a*/ /a?/", `(/a/"" "a")*`, "~(/a/, /b/)", `/a/"x""b"`,
		// Brackets as deep as the limit lets them be.
		times("(", 120), times("(", 58) + "/ab/" + times(")", 58), times("(", 38) + "/ab/" + times(")*", 38),
		times("~(", 60), times("~(//,", 19) + "//" + times(")", 19), times("~(", 19) + "//" + times(",//)", 19),
		"/" + times("(", 119), "/" + times("(", 58) + "ab" + times(")", 58) + "/", "/" + times("(", 59) + times(")", 60),
		"/" + times("[", 119), times("/", 120), times("\"", 120), times("|", 120), times("*", 120), times("//|", 39) + "//",
		// Repeats within repeats, with defaults that such a pattern can read in many ways.
		"/" + times("(", 20) + "a" + times("*)", 20) + `*/"""` + times("a", 45) + `b"`,
		"/" + times("(", 20) + "a" + times("+)", 20) + `+/"""` + times("a", 45) + `b"`,
		"/" + times("(", 20) + "a" + times("?)", 20) + `*/"""` + times("a", 45) + `b"`,
		"/" + times("a*", 35) + `/"""` + times("a", 40) + `b"`,
		"/" + times("a?", 35) + `/"""` + times("a", 36) + `"`,
		"/" + times("(a|", 20) + times(")*", 20) + `/"""` + times("a", 10) + `"`,
		times("(", 30) + "/a*/" + times(")*", 30),
	}
	for _, length := range []int{59, 60, 61, 119, 120, 121, 1000, 100000} {
		all = append(all, times("a", length), times(" ", length), times("(", length), times("\xff", length))
	}
	return all
}

// muddle makes strings of the bytes that lenses are made of, and of others.
func muddle(random *rand.Rand) string {
	bytes := []byte(makeLens(random).loose.String())
	for range 1 + random.Intn(3) {
		at := random.Intn(len(bytes) + 1)
		switch random.Intn(3) {
		case 0:
			bytes = bytes[:at]
		case 1:
			bytes = append(bytes[:at:at], append([]byte{`/"|*~(),[]-+?a0 `[random.Intn(16)]}, bytes[at:]...)...)
		case 2:
			if at < len(bytes) {
				bytes[at] = byte(random.Intn(256))
			}
		}
	}
	return string(bytes)
}

func TestCallsEndWithZeros(t *testing.T) {
	all := wild()
	for _, lens := range all {
		for _, text := range all {
			if a := callAll(lens, text, text); !a.zeros() {
				t.Errorf("P1: with %.60q and %.60q: %#v", lens, text, a)
			}
		}
	}
	random := rand.New(rand.NewSource(3))
	for range 20000 {
		lens, view, source := muddle(random), muddle(random), muddle(random)
		if a := callAll(lens, view, source); !a.zeros() {
			t.Errorf("P1: with %q, %q and %q: %#v", lens, view, source, a)
		}
	}
}

func TestCallsForget(t *testing.T) {
	all := wild()
	random := rand.New(rand.NewSource(4))
	for range 2000 {
		all = append(all, muddle(random))
	}
	twice := func(lens string) [2]answer {
		return [2]answer{callAll(lens, "b", "a"), callAll(lens, "abc", "a1b22c3")}
	}
	first := make([][2]answer, len(all))
	for i, lens := range all {
		first[i] = twice(lens)
	}
	// The other way round, so that each call has others ahead of it.
	for i := len(all) - 1; i >= 0; i-- {
		if again := twice(all[i]); again != first[i] {
			t.Errorf("P2: with %.60q: %#v, and then %#v", all[i], first[i], again)
		}
	}
}
