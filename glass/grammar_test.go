package glass

import (
	"math/rand"
	"testing"
)

// rule is one way to write a name; its parts are names of rules or single bytes.
type rule struct {
	name  string
	parts []string
}

// item is a rule read up to a part, begun at a place.
type item struct {
	rule, dot, from int
}

// earley tells by the grammar alone, and by no means of the program's, which
// bytes may stand behind a text.
type earley struct {
	rules []rule
	byOf  map[string][]int
	sets  []map[item]bool
}

func (g *earley) add(name string, ways ...[]string) {
	for _, parts := range ways {
		g.byOf[name] = append(g.byOf[name], len(g.rules))
		g.rules = append(g.rules, rule{name, parts})
	}
}

func newEarley() *earley {
	g := &earley{byOf: map[string][]int{}}
	way := func(parts ...string) []string { return parts }
	g.add("whole", way("gap", "lens", "gap"))
	g.add("gap", way(), way("gap", " "), way("gap", "\n"))
	g.add("lens", way("row"), way("lens", "gap", "|", "gap", "row"))
	g.add("row", way("item"), way("row", "gap", "item"))
	g.add("item", way("piece"), way("piece", "gap", "*"))
	g.add("piece",
		way("/", "pattern", "/"),
		way("/", "pattern", "/", "gap", `"`, "text", `"`, "gap", `"`, "text", `"`),
		way("~", "gap", "(", "gap", "lens", "gap", ",", "gap", "lens", "gap", ")"),
		way("(", "gap", "lens", "gap", ")"))
	g.add("text", way(), way("text", "sign"))
	g.add("pattern", way("branch"), way("pattern", "|", "branch"))
	g.add("branch", way(), way("branch", "base"),
		way("branch", "base", "*"), way("branch", "base", "+"), way("branch", "base", "?"))
	g.add("base", way("sign"), way("[", "spans", "]"), way("(", "pattern", ")"))
	g.add("spans", way("span"), way("spans", "span"))
	for b := range 256 {
		if !isSignByte(byte(b)) {
			continue
		}
		first := string([]byte{byte(b)})
		g.add("sign", way(first))
		g.add("span", way(first), way(first, "-", "from "+first))
		for c := b; c < 256; c++ {
			if isSignByte(byte(c)) {
				g.add("from "+first, way(string([]byte{byte(c)})))
			}
		}
	}
	g.sets = []map[item]bool{g.closed(map[item]bool{{g.byOf["whole"][0], 0, 0}: true}, 0)}
	return g
}

func isSignByte(b byte) bool {
	switch b {
	case '=', ',', ';', ':', '_':
		return true
	}
	return b >= 'a' && b <= 'z' || b >= '0' && b <= '9'
}

// closed adds to a set, until nothing is new, what its items foresee and end.
func (g *earley) closed(set map[item]bool, at int) map[item]bool {
	todo := make([]item, 0, len(set))
	for it := range set {
		todo = append(todo, it)
	}
	put := func(it item) {
		if !set[it] {
			set[it] = true
			todo = append(todo, it)
		}
	}
	ended := map[string]bool{} // the names that are empty here
	for len(todo) > 0 {
		it := todo[len(todo)-1]
		todo = todo[:len(todo)-1]
		r := g.rules[it.rule]
		if it.dot < len(r.parts) {
			for _, next := range g.byOf[r.parts[it.dot]] {
				put(item{next, 0, at})
			}
			if ended[r.parts[it.dot]] {
				put(item{it.rule, it.dot + 1, it.from})
			}
			continue
		}
		waiting := set
		if it.from < at {
			waiting = g.sets[it.from]
		} else {
			ended[r.name] = true
		}
		var found []item
		for w := range waiting {
			if parts := g.rules[w.rule].parts; w.dot < len(parts) && parts[w.dot] == r.name {
				found = append(found, item{w.rule, w.dot + 1, w.from})
			}
		}
		for _, f := range found {
			put(f)
		}
	}
	return set
}

// may tells which bytes may stand next, and whether the text may end.
func (g *earley) may() (bytes [256]bool, ends bool) {
	for it := range g.sets[len(g.sets)-1] {
		r := g.rules[it.rule]
		if it.dot == len(r.parts) {
			ends = ends || r.name == "whole"
		} else if part := r.parts[it.dot]; g.byOf[part] == nil {
			bytes[part[0]] = true
		}
	}
	return bytes, ends
}

func (g *earley) push(b byte) {
	next := map[item]bool{}
	for it := range g.sets[len(g.sets)-1] {
		if parts := g.rules[it.rule].parts; it.dot < len(parts) && parts[it.dot] == string([]byte{b}) {
			next[item{it.rule, it.dot + 1, it.from}] = true
		}
	}
	at := len(g.sets)
	g.sets = append(g.sets, g.closed(next, at))
}

func (g *earley) pop() { g.sets = g.sets[:len(g.sets)-1] }

// compare holds Print against the grammar at a text that may stand so far, and
// at that text with each byte that may not stand behind it.
func compare(t *testing.T, g *earley, text string) [256]bool {
	t.Helper()
	bytes, ends := g.may()
	_, e, at := Print(text)
	if ends != (e == OK || e == ErrDefault) || !ends && (e != ErrForm || at != len(text)) {
		t.Fatalf("P3: Print(%q) = _, %d, %d; by the grammar it ends: %v", text, e, at, ends)
	}
	if len(text) == maxLens {
		return bytes
	}
	for b := range 256 {
		more := text + string([]byte{byte(b)})
		_, e, at := Print(more)
		if stands := e != ErrForm || at > len(text); stands != bytes[b] {
			t.Fatalf("P3: Print(%q) = _, %d, %d; by the grammar the last byte may stand: %v", more, e, at, bytes[b])
		}
		if more := more + "/"; !bytes[b] && len(more) <= maxLens {
			if _, e, at := Print(more); e != ErrForm || at != len(text) {
				t.Fatalf("P3: Print(%q) = _, %d, %d, want ErrForm, %d", more, e, at, len(text))
			}
		}
	}
	return bytes
}

func TestGrammarShort(t *testing.T) {
	const deep = 5
	g := newEarley()
	var try func(text string)
	try = func(text string) {
		bytes := compare(t, g, text)
		if len(text) == deep {
			return
		}
		// Of the signs these tell all the others apart.
		for _, b := range []byte("/|*~(),\"[]-+?b \n") {
			if bytes[b] {
				g.push(b)
				try(text + string([]byte{b}))
				g.pop()
			}
		}
	}
	try("")
}

func TestGrammarAlongWalks(t *testing.T) {
	random := rand.New(rand.NewSource(1))
	for far := 0; far <= maxLens; far += 4 {
		g := newEarley()
		text := ""
		for len(text) < far {
			bytes := compare(t, g, text)
			b := pick(random, bytes)
			g.push(b)
			text += string([]byte{b})
		}
		compare(t, g, text)
	}
}

// pick takes one of the bytes that may stand: signs and blanks less often than
// their number would make it.
func pick(random *rand.Rand, bytes [256]bool) byte {
	var marks, signs, all []byte
	for b := range 256 {
		switch {
		case !bytes[b]:
			continue
		case isSignByte(byte(b)):
			signs = append(signs, byte(b))
		case b != ' ' && b != '\n':
			marks = append(marks, byte(b))
		}
		all = append(all, byte(b))
	}
	from := all
	if n := random.Intn(8); n < 5 && len(marks) > 0 {
		from = marks
	} else if n < 7 && len(signs) > 0 {
		from = signs
	}
	return from[random.Intn(len(from))]
}
