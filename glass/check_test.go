package glass

import (
	"math/rand"
	"slices"
	"testing"
)

type checked struct {
	lens      string
	e         Errno
	at        int
	witnesses []string // all that may be told
}

func checkCheck(t *testing.T, cases []checked) {
	t.Helper()
	for _, c := range cases {
		e, at, witness := Check(c.lens)
		if e != c.e || at != c.at || !slices.Contains(c.witnesses, witness) {
			t.Errorf("P4: Check(%q) = %d, %d, %q, want %d, %d, one of %q", c.lens, e, at, witness, c.e, c.at, c.witnesses)
		}
	}
}

func right(lens string) checked { return checked{lens, OK, 0, []string{""}} }

func wrong(lens string, at int, witnesses ...string) checked {
	return checked{lens, ErrType, at, witnesses}
}

func refused(lens string, e Errno, at int) checked { return checked{lens, e, at, []string{""}} }

func TestCheckOfPrint(t *testing.T) {
	wrongRow := `/a*/ /a?/`
	checkCheck(t, []checked{
		refused(times("A", 121), ErrLong, 0),
		refused(wrongRow+times(" ", 112), ErrLong, 0),
		wrong(wrongRow+times(" ", 111), 5, "a"),
		refused("", ErrForm, 0),
		refused(wrongRow+" A", ErrForm, 10),
		refused(wrongRow+" (", ErrForm, 11),
		refused(`/a/"x"`, ErrForm, 6),
		refused("/[b-a]/ | "+wrongRow, ErrForm, 4),
		refused(`/a/"x""b"`, ErrDefault, 6),
		refused(wrongRow+` /a/"x""b"`, ErrDefault, 16),
		refused(`/a/"x""b" | `+wrongRow, ErrDefault, 6),
		refused(`(/a/"""b")*`, ErrDefault, 6),
	})
	random := rand.New(rand.NewSource(6))
	for range 5000 {
		lens := muddle(random)
		if _, e, at := Print(lens); e != OK {
			checkCheck(t, []checked{refused(lens, e, at)})
		}
	}
}

func TestCheckPieces(t *testing.T) {
	checkCheck(t, []checked{
		right(`//`),
		right(`/a/`),
		right(`/a/"x""a"`),
		right(`(((/a/)))`),
		// However a pattern reads its texts, it is but a set of them.
		right(`/(a|a)*(a*)*/`),
		right(`/((a*)*a?)*/"x""aaa"`),
	})
}

func TestCheckRows(t *testing.T) {
	checkCheck(t, []checked{
		right(`/a*/ /a/`),
		right(`/a/ /a*/`),
		right(`// // //`),
		right(`/a*/ /b*/ /c*a/`),
		wrong(`/a*/ /b*/ /a*b/`, 10, "ab"),
		right(`/(aaa)*/ /aa|a|/`),
		right(`/a*/"x""" /b/`),
		wrong(`/a*/ /a?/`, 5, "a"),
		wrong(`/a*//a?/`, 4, "a"),
		wrong("/a*/ \n /a?/", 7, "a"),
		wrong(`/a/ /b*/ /b/ /b*/`, 13, "abb"),
		wrong(`/(a|ab)/ /(c|bc)/`, 9, "abc"),
		wrong(`/[0-9]*/ /[5-z]*/`, 9, "5", "6", "7", "8", "9"),
		wrong(`/[,-0]*/ (/[0-_]/)*`, 9, "0"),
		// The row ahead is all the items ahead.
		right(`/a?/ /b/ /a?/ /b?/ /a/ /b*/`),
		wrong(`/a*/ // /a?/`, 8, "a"),
		wrong(`/a*/ /b?/ /a?/`, 10, "a"),
		// A row in brackets is an item of its own.
		wrong(`/a/ (/b*/ /b*/)`, 10, "b"),
		wrong(`(/a*/) (/b*/ /a*/)`, 7, "a"),
		right(`(/a*/) (/b+/ /a*/)`),
		// Sources or views alone.
		wrong(`/a*/"""" /a*/""""`, 9, "a"),
		wrong(`(/a/"""a"|/b/"x""b") /x?/`, 21, "x"),
		wrong(`(/a/"x""a" | /b/"xy""b") (/c/"yz""c" | /d/"z""d")`, 25, "xyz"),
		right(`(/a/"x""a" | /b/"xy""b") (/c/"yz""c" | /d/"y""d")`),
		right(`/a*/"x""" /b*/"x""" /c*/`),
		right(`/a/"x""a" /x*/ /x/`),
	})
}

func TestCheckSwaps(t *testing.T) {
	checkCheck(t, []checked{
		right(`~(/a*/, /b/)`),
		right(`~(/a*/, /a/)`),
		right(`~(/a|ab/, /c/)`),
		right(`~(/x*/, /a/"x""a")`),
		right(`~(//, //)`),
		right(`~(~(/a*/, /b/), /c/)`),
		wrong(`~(/a*/, /a?/)`, 0, "a"),
		wrong("\n ~ (/a*/, /a?/)", 2, "a"),
		wrong(`/b/ ~(/a*/, /a?/)`, 4, "a"),
		wrong(`(~(/a*/, /a?/))*`, 1, "a"),
		// Sources stand in one order, views in the other.
		wrong(`~(/a|ab/, /c|bc/)`, 0, "abc"),
		wrong(`~(/c|bc/, /a|ab/)`, 0, "abc"),
		wrong(`~(/a|ab/"x""a", /c|bc/"y""c")`, 0, "abc"),
		right(`~(/c|bc/"x""c", /a|ab/"y""a")`),
		wrong(`~(/x*/,/a/"b""a"|/b/"bx""b")`, 0, "bx"),
		right(`~(/a/"b""a"|/b/"bx""b", /x*/)`),
		wrong(`~(/x*/, /[ab]*/ /x*/)`, 0, "x"),
		wrong(`~(/a/, ~(/b/ /c*/ /c*/, /d/))`, 18, "bc"),
		// Both a ~ and the item that begins with it are at that place.
		wrong(`/a/ /b*/ ~(/b*/, /c/)`, 9, "abc"),
	})
}

func TestCheckChoices(t *testing.T) {
	checkCheck(t, []checked{
		right(`/a/ | /b/ | /c/`),
		right(`/a+/ | /b*/`),
		right(`/a/ /b/ | /a/`),
		wrong(`/a/ | /a/`, 4, "a"),
		wrong(`/a/|/a/`, 3, "a"),
		wrong("/a/\n|\n/a/", 4, "a"),
		wrong(`/a*/ | /b*/`, 5, ""),
		wrong(`/a+/ | /b/ | /[a-c]/`, 11, "a", "b"),
		wrong(`/a/ | /b/ | /c/ | /b/`, 16, "b"),
		wrong(`/a/ | /b/ | /c/ | /a/ | /d/`, 16, "a"),
		wrong(`/a/"""a" /b/ | /ab/ `, 13, "ab"),
		wrong(`(/a/)* | /b/* /aaa/`, 7, "aaa"),
		// Rows ahead of it in other lenses are not held against it.
		right(`/a/ (/b/ | /c/) | /b/`),
		right(`(/a/ | /b/) (/b/ | /a/)`),
		right(`~(/a/ | /b/, /b/ | /a/)`),
		wrong(`(/a/ | /b/) | /b/`, 12, "b"),
		wrong(`/b/ | (/a/ | /b/)`, 4, "b"),
		wrong(`~(/a/, /b/ | /b/)`, 11, "b"),
		wrong(`~(/a/, /b/) | /ab/`, 12, "ab"),
		right(`~(/a/, /b/) | /ba/`),
		// Views may be those of several rows.
		right(`/a/ "x" "a" | /b/ "x" "b"`),
		right(`/a/ "b" "a" | /b/`),
		right(`/a/ | /b/ "a" "b"`),
		wrong(`/a/"x""a" | /[ab]/"y""b"`, 10, "a"),
	})
}

func TestCheckMany(t *testing.T) {
	checkCheck(t, []checked{
		right(`/a/*`),
		right(`(/ab|a/ /b/)*`),
		right(`(/a|ba/)*`),
		right(`(/ab|abb/)*`),
		right(`((/a/ /b/)* /c/)*`),
		right(`/[a-c]*/ (/;/ /[a-c]*/)*`),
		right(`(/[a-z]/ /[0-9]+/"" "0")*`),
		right(`/(aa)*a/"x""a"`),
		// The empty text.
		wrong(`//*`, 2, ""),
		wrong(`/a*/*`, 4, ""),
		wrong("/a?/ \n*", 6, ""),
		wrong(`(/a*/)*`, 6, ""),
		wrong(`(/a/* /b/*)*`, 11, ""),
		wrong(`(/a/ | //)*`, 10, ""),
		wrong(`((/a/)*)*`, 8, ""),
		wrong(`~(/a*/, /b*/)*`, 13, ""),
		wrong(`(/a/"" "a")*`, 11, ""),
		wrong(`/|a/"x"""*`, 9, ""),
		wrong(`(/a/"""a" | /b/)*`, 16, ""),
		right(`(/a/"""a" /b/)*`),
		// The empty text goes ahead of others that are read in two ways.
		wrong(`/(a|aa)?/*`, 9, ""),
		// Rows in two ways.
		wrong(`(/a|aa/)*`, 8, "aa"),
		wrong(`/a+/*`, 4, "aa"),
		wrong(`(/ab|a|b/)*`, 10, "ab"),
		wrong(`(/a|abc|bcd|da/)*`, 16, "abcda"),
		wrong(`(/aa|aaa/)*`, 10, "aaaaa"),
		wrong(`/b/ (/a|aa/)* /c/`, 12, "aa"),
		wrong(`(/a/"a""a" | /b/"aa""b")*`, 24, "aa"),
		wrong(`(/a/"x""a" | /b/"xx""b")*`, 24, "xx"),
		right(`(/a/"x""a" | /b/"x""b")*`),
		wrong(`(/a|aa/"x""a")*`, 14, "aa"),
		right(`(~(/a/, /b?/) | /c/"a""c")*`),
		wrong(`(~(/a/, /b?/) | /c/"ab""c")*`, 27, "aba"),
	})
}

func TestCheckFirstPlace(t *testing.T) {
	checkCheck(t, []checked{
		wrong(`/a*/ /a*/ | /a/ | /b*/ /b*/`, 5, "a"),
		wrong(`/a/ | /a/ | /a*/ /a*/`, 4, "a"),
		wrong(`(/a*/)* /a*/`, 6, ""),
		wrong(`~(/a*/, /b/ | /b/) (/a*/)*`, 12, "b"),
		wrong(`((/a/ | /a/)* /a*/)*`, 6, "a"),
		wrong(`/a/ /a*/ ~(/b/ | /b/, /a?/)`, 9, "aab"),
		wrong(`/a/ /c*/ ~(/b/ | /b/, /a?/)`, 15, "b"),
	})
}

// TestCheckLongWitness has lenses whose shortest witness is longer than a text
// may be.
func TestCheckLongWitness(t *testing.T) {
	checkCheck(t, []checked{
		wrong(`/(`+times("a", 8)+`)*/ /(`+times("a", 9)+`)*/`, 14, times("a", 72)),
		wrong(`/(`+times("a", 40)+`)*/ /(`+times("a", 41)+`)*/`, 46, times("a", 1640)),
		wrong(`/(`+times("a", 40)+`)+/ | /(`+times("a", 41)+`)+/`, 46, times("a", 1640)),
		wrong(`(/`+times("a", 40)+`|`+times("a", 41)+`/)*`, 86, times("a", 81)),
		right(`/(` + times("a", 40) + `)*b/ /(` + times("a", 41) + `)*/`),
	})
}

// TestCheckLarge has lenses with as many pairs of states as there can be.
func TestCheckLarge(t *testing.T) {
	checkCheck(t, []checked{
		right(`(/` + times("a?", 55) + `b/)*`),
		right(`(/` + times("a*", 55) + `b/)*`),
		right(`(/` + times("(a|b)*", 18) + `;/)*`),
		right(`/(` + times("|", 55) + `)*` + times("a*", 25) + `;/ /b/`),
		right(times("/a*b/", 24)),
		right(times("//", 60)),
		right(times("/a/*/b/", 17)),
		wrong(times("(", 38)+"/ab/"+times(")*", 38), 45, ""),
		wrong(times("//|", 39)+"//", 2, ""),
		right(times("~(", 19) + "//" + times(",//)", 19)),
	})
}
