package glass

import (
	"strings"
	"testing"
)

type printed struct {
	lens, want string
	e          Errno
	at         int
}

func checkPrint(t *testing.T, cases []printed) {
	t.Helper()
	for _, c := range cases {
		got, e, at := Print(c.lens)
		if got != c.want || e != c.e || at != c.at {
			t.Errorf("P3: Print(%q) = %q, %d, %d, want %q, %d, %d", c.lens, got, e, at, c.want, c.e, c.at)
		}
	}
}

func fine(lens, want string) printed      { return printed{lens, want, OK, 0} }
func noLens(lens string, at int) printed  { return printed{lens, "", ErrForm, at} }
func noText(lens string, at int) printed  { return printed{lens, "", ErrDefault, at} }
func tooLong(lens string) printed         { return printed{lens, "", ErrLong, 0} }
func times(part string, count int) string { return strings.Repeat(part, count) }

func TestPlainForm(t *testing.T) {
	checkPrint(t, []printed{
		fine(`//`, `//`),
		fine(`/a/`, `/a/`),
		fine(`/|/`, `/|/`),
		fine(`/()/`, `/()/`),
		fine(`/()*|(|)?/`, `/()*|(|)?/`),
		fine(`/(a|b*)+c?[x]/`, `/(a|b*)+c?[x]/`),
		fine(`/[a-z0-9=,;:_]/`, `/[a-z0-9=,;:_]/`),
		fine(`/[a-a]/`, `/[a-a]/`),
		fine(`/[,-0]/`, `/[,-0]/`),
		fine(`/[0-_]/`, `/[0-_]/`),
		fine(`/[_-a]/`, `/[_-a]/`),
		fine(`/=,;:_/`, `/=,;:_/`),
		fine(`/a//b/`, `/a/ /b/`),
		fine(`/a/"x""a"`, `/a/"x""a"`),
		fine(`//""""`, `//""""`),
		fine(`/a/"=,;:_""a"/b/`, `/a/"=,;:_""a" /b/`),
		fine(`/a/*/b/*`, `/a/* /b/*`),
		fine(`/a/"x""a"*`, `/a/"x""a"*`),
		fine(`/a/|/b/`, `/a/ | /b/`),
		fine(`/a|b/|/c/|/d/`, `/a|b/ | /c/ | /d/`),
		fine(`~(/a/,/b/)`, `~(/a/, /b/)`),
		fine(`~(/a,b/,/b/)*`, `~(/a,b/, /b/)*`),
		fine(`((/a/))`, `((/a/))`),
		fine(`(/a/)(/b/)*~(/c/,/d/)(/e/)`, `(/a/) (/b/)* ~(/c/, /d/) (/e/)`),
		fine(`~(/a//b/|/c/,~((/d/),/e/*))`, `~(/a/ /b/ | /c/, ~((/d/), /e/*))`),
		fine(`/[a-z]+/ /=/":""=" /[0-9]*/ /;/"" ";"`, `/[a-z]+/ /=/":""=" /[0-9]*/ /;/""";"`),
	})
}

func TestBlanks(t *testing.T) {
	checkPrint(t, []printed{
		fine(" /a/ ", `/a/`),
		fine("\n\n/a/\n \n", `/a/`),
		fine("/a/   /b/", `/a/ /b/`),
		fine("/a/\n/b/", `/a/ /b/`),
		fine("/a/\n*\n|\n/b/ *", `/a/* | /b/*`),
		fine("/a/ \n\"x\" \n\"a\" \n* \n", `/a/"x""a"*`),
		fine(" ~ ( /a/ , /b/ ) * ", `~(/a/, /b/)*`),
		fine("\n~\n(\n/a/\n|\n/b/\n,\n/c/\n/d/\n)\n", `~(/a/ | /b/, /c/ /d/)`),
		fine(" ( ( /a/ ) * ) ", `((/a/)*)`),
		noLens("/ a/", 1),
		noLens("/a /", 2),
		noLens("/a\n/", 2),
		noLens("/a *b/", 2),
		noLens("/[ a]/", 2),
		noLens("/[a -c]/", 3),
		noLens("/[a- c]/", 4),
		noLens("/[a ]/", 3),
		noLens("/( a)/", 2),
		noLens("/(a )/", 3),
		noLens("/a/\" x\"\"a\"", 4),
		noLens("/a/\"x \"\"a\"", 5),
		noLens("/a/\"x\"\"a\n\"", 8),
		noLens("\t/a/", 0),
		noLens("/a/\r\n", 3),
		noLens("/a/\v/b/", 3),
	})
}

func TestLong(t *testing.T) {
	row := times("/a/", 40)
	checkPrint(t, []printed{
		fine(row, strings.TrimSpace(times("/a/ ", 40))),
		tooLong(row + " "),
		fine("/a/"+times(" ", 117), `/a/`),
		tooLong("/a/" + times(" ", 118)),
		fine("/"+times("a", 118)+"/", "/"+times("a", 118)+"/"),
		tooLong("/" + times("a", 119) + "/"),
		noLens(times("(", 120), 120),
		tooLong(times("(", 121)),
		noLens(times("A", 120), 0),
		tooLong(times("A", 121)),
		tooLong(times("é", 61)),
		noLens(times(" ", 120), 120),
		tooLong(times(" ", 121)),
	})
}

func TestEndsTooEarly(t *testing.T) {
	for _, lens := range []string{
		"", " ", "\n \n", "/", "/a", "/a|", "/a*", "/(", "/(a", "/(a)", "/(a|", "/[", "/[a", "/[a-", "/[a-c",
		`/a/"`, `/a/"x`, `/a/"x"`, `/a/"x" `, `/a/"x""`, `/a/"x""a`,
		"/a/|", "/a/ | ", "(", "(/a/", "(/a/ ", "(/a/*", "(/a/|", "((/a/)",
		"~", "~ ", "~(", "~(/a/", "~(/a/ ", "~(/a/,", "~(/a/, ", "~(/a/,/b/", "~(/a/,/b/ ",
	} {
		checkPrint(t, []printed{noLens(lens, len(lens))})
	}
}

func TestCannotStand(t *testing.T) {
	checkPrint(t, []printed{
		// In a pattern.
		noLens("/*/", 1), noLens("/+/", 1), noLens("/?/", 1), noLens("/)/", 1), noLens("/]/", 1), noLens("/-/", 1),
		noLens(`/"/`, 1), noLens("/~/", 1), noLens("/A/", 1), noLens("/./", 1), noLens("/\x00/", 1),
		noLens("/a**/", 3), noLens("/a*+/", 3), noLens("/a+?/", 3), noLens("/a??/", 3), noLens("/a|*/", 3),
		noLens("/(*)/", 2), noLens("/(a|+)/", 4), noLens("/(a)*?/", 5), noLens("/(a))/", 4), noLens("/(a/)", 3),
		noLens("/(a]/", 3), noLens("/a-b/", 2), noLens("/a]/", 2),
		// In spans.
		noLens("/[]/", 2), noLens("/[]a]/", 2), noLens("/[-a]/", 2), noLens("/[a--]/", 4), noLens("/[a-]/", 4),
		noLens("/[a-b-c]/", 5), noLens("/[[a]]/", 2), noLens("/[a[]/", 3), noLens("/[a/", 3), noLens("/[a|b]/", 3),
		noLens("/[a*]/", 3), noLens("/[(a)]/", 2), noLens("/[^a]/", 2), noLens("/[A-Z]/", 2), noLens("/[a-Z]/", 4),
		// In texts.
		noLens(`/a/"A""a"`, 4), noLens(`/a/"x-""a"`, 5), noLens(`/a/"x""a*"`, 8), noLens(`/a/"(""a"`, 4),
		noLens(`/a/"x"/b/`, 6), noLens(`/a/"x"*`, 6), noLens(`/a/"x" | /b/`, 7), noLens(`(/a/"x")`, 7),
		noLens(`/a/"x""a""b"`, 9), noLens(`/a/*"x""a"`, 4), noLens(`(/a/)"x""a"`, 5), noLens(`"x""a"`, 0),
		// In lenses.
		noLens("a", 0), noLens("*", 0), noLens("|", 0), noLens(",", 0), noLens(")", 0), noLens("()", 1), noLens(" ]", 1),
		noLens("/a/a", 3), noLens("/a/+", 3), noLens("/a/?", 3), noLens("/a/**", 4), noLens("/a/* *", 5),
		noLens("/a/||/b/", 4), noLens("/a/|*", 4), noLens("|/a/", 0), noLens("(/a/|)", 5), noLens("(|/a/)", 1),
		noLens("/a/)", 3), noLens("(/a/))", 5), noLens("/a/,/b/", 3), noLens("(/a/,/b/)", 4),
		noLens("~/a/", 1), noLens("~~(/a/,/b/)", 1), noLens("~(,/b/)", 2), noLens("~(/a/)", 5), noLens("~(/a/,)", 6),
		noLens("~(/a/,/b/,/c/)", 9), noLens("~((/a/,/b/))", 6), noLens("~(~(/a/,/b/))", 12), noLens("~*(/a/,/b/)", 1),
		// Bytes, not letters, are counted.
		noLens("/aé/", 2), noLens("/a/\xff", 3), noLens("é", 0), noLens("/a/ é", 4),
	})
}

func TestSpanBelow(t *testing.T) {
	checkPrint(t, []printed{
		noLens("/[b-a]/", 4),
		noLens("/[a-cz-y]/", 7),
		noLens("/[1-0]/", 4),
		noLens("/[a-9]/", 4),
		noLens("/[a-_]/", 4),
		noLens("/[0-,]/", 4),
		noLens("/[=-;]/", 4),
		noLens("/[;-:]/", 4),
		noLens("/[b-a", 4),
		noLens("/[b-a*+", 4),
		noLens("/[b-A]/", 4),
	})
}

func TestDefault(t *testing.T) {
	checkPrint(t, []printed{
		noText(`/a/"x""b"`, 6),
		noText(`/a/"x"""`, 6),
		noText("/a/ \"x\" \n\"\"", 9),
		noText(`/a/"a""aa"`, 6),
		noText(`//"""a"`, 4),
		fine(`//"a"""`, `//"a"""`),
		fine(`/|b/"a"""`, `/|b/"a"""`),
		fine(`/a*/"b"""`, `/a*/"b"""`),
		noText(`/a+/"b"""`, 7),
		fine(`/a+/"b""aaa"`, `/a+/"b""aaa"`),
		fine(`/a?/"b"""`, `/a?/"b"""`),
		noText(`/a?/"b""aa"`, 7),
		noText(`/(ab)*/"b""aba"`, 10),
		fine(`/(ab|c)*/"""cabab"`, `/(ab|c)*/"""cabab"`),
		fine(`/a*a/"""aaa"`, `/a*a/"""aaa"`),
		fine(`/[b-d]/"""b"`, `/[b-d]/"""b"`),
		fine(`/[b-d]/"""d"`, `/[b-d]/"""d"`),
		noText(`/[b-d]/"""a"`, 9),
		noText(`/[b-d]/"""e"`, 9),
		fine(`/[0-a]/"""="`, `/[0-a]/"""="`),
		noText(`/[0-a]/""","`, 9),
		// The first one that is wrong, wherever it stands.
		noText(`/a/"""b"/a/"""b"`, 5),
		noText(`/a/"""a"/a/"""b"`, 13),
		noText(`/a/ | /a/"""b" | /c/"""d"`, 11),
		noText(`~(/a/"""a",/b/"""a")`, 16),
		noText(`~(/a/"""b",/b/"""a")`, 7),
		noText(`((/a/"""b")*)*/b/`, 7),
	})
}

func TestDeep(t *testing.T) {
	repeats := func(sign string) string {
		return "/" + times("(", 20) + "a" + times(sign+")", 20) + sign + "/"
	}
	checkPrint(t, []printed{
		fine(times("(", 58)+"/ab/"+times(")", 58), times("(", 58)+"/ab/"+times(")", 58)),
		fine(times("(", 38)+"/a/"+times(")*", 38), times("(", 38)+"/a/"+times(")*", 38)),
		fine(times("~(", 19)+"//"+times(",//)", 19), times("~(", 19)+"//"+times(", //)", 19)),
		fine("/"+times("(", 59)+times(")", 59)+"/", "/"+times("(", 59)+times(")", 59)+"/"),
		noLens("/"+times("(", 59)+times(")", 60), 119),
		noLens(times("~(", 60), 120),
		noLens("/"+times("(", 119), 120),
		fine(repeats("*")+`"""`+times("a", 50)+`"`, repeats("*")+`"""`+times("a", 50)+`"`),
		noText(repeats("*")+`"""`+times("a", 49)+`b"`, 66),
		noText(repeats("+")+`"""`+times("a", 49)+`b"`, 66),
		noText(repeats("?")+`"""`+times("a", 50)+`"`, 66),
		noText("/"+times("a*", 35)+`/"""`+times("a", 40)+`b"`, 74),
		fine("/"+times("a?", 35)+`/"""`+times("a", 35)+`"`, "/"+times("a?", 35)+`/"""`+times("a", 35)+`"`),
		noText("/"+times("a?", 35)+`/"""`+times("a", 36)+`"`, 74),
	})
}

func TestFirstError(t *testing.T) {
	checkPrint(t, []printed{
		tooLong(`/a/"x""b"` + times(" ", 112)),
		tooLong("A" + times(" ", 120)),
		noLens(`/a/"x""b" A`, 10),
		noLens(`/a/"x""b"/[b-a]/`, 13),
		noLens(`/a/"x""b"(`, 10),
		noLens(`/a/"x""b""`, 9),
		noLens("/[b-a]/ A", 4),
		noLens("A /[b-a]/", 0),
	})
}
