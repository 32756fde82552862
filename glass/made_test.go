package glass

import (
	"math/rand"
	"regexp"
	"strings"
	"testing"
)

// maker makes lenses at random: in plain form, and with other blanks.
type maker struct {
	random       *rand.Rand
	plain, loose strings.Builder
	wrongAt      int // the place of the first wrong default in loose, or -1
}

func (m *maker) part(text string) {
	m.plain.WriteString(text)
	m.loose.WriteString(text)
}

// gap writes what the plain form has between two parts, and any blanks.
func (m *maker) gap(plain string) {
	m.plain.WriteString(plain)
	for range max(0, m.random.Intn(5)-2) {
		m.loose.WriteByte(" \n"[m.random.Intn(2)])
	}
}

func (m *maker) lens(deep int) {
	m.row(deep)
	for m.random.Intn(4) == 0 {
		m.gap(" ")
		m.part("|")
		m.gap(" ")
		m.row(deep)
	}
}

func (m *maker) row(deep int) {
	m.item(deep)
	for m.random.Intn(3) == 0 {
		m.gap(" ")
		m.item(deep)
	}
}

func (m *maker) item(deep int) {
	m.piece(deep)
	if m.random.Intn(3) == 0 {
		m.gap("")
		m.part("*")
	}
}

func (m *maker) piece(deep int) {
	kind := m.random.Intn(4)
	if deep == 0 {
		kind %= 2
	}
	switch kind {
	case 0:
		m.part("/" + m.pattern(2) + "/")
	case 1:
		m.fixed()
	case 2:
		m.bracket("(", deep)
		m.part(")")
	case 3:
		m.part("~")
		m.gap("")
		m.bracket("(", deep)
		m.bracket(",", deep)
		m.part(")")
	}
}

// bracket writes a sign and the lens behind it, with the gaps around that lens.
func (m *maker) bracket(sign string, deep int) {
	m.part(sign)
	m.gap(map[string]string{",": " "}[sign])
	m.lens(deep - 1)
	m.gap("")
}

func (m *maker) fixed() {
	pattern := m.pattern(2)
	m.part("/" + pattern + "/")
	m.gap("")
	m.part(`"` + m.text() + `"`)
	m.gap("")
	text := m.text()
	if m.wrongAt < 0 && !regexp.MustCompile(`\A(?:`+pattern+`)\z`).MatchString(text) {
		m.wrongAt = m.loose.Len()
	}
	m.part(`"` + text + `"`)
}

func (m *maker) text() string {
	var text strings.Builder
	for range m.random.Intn(4) {
		text.WriteByte("abc"[m.random.Intn(3)])
	}
	return text.String()
}

func (m *maker) pattern(deep int) string {
	var text strings.Builder
	for m.random.Intn(6) > 0 && text.Len() < 12 {
		switch m.random.Intn(6) {
		case 0:
			text.WriteString("|")
			continue
		case 1:
			text.WriteString([]string{"[a-c]", "[ac]", "[b-c]", "[,-a]", "[bb-b]"}[m.random.Intn(5)])
		case 2:
			if deep == 0 {
				continue
			}
			text.WriteString("(" + m.pattern(deep-1) + ")")
		default:
			text.WriteByte("abc"[m.random.Intn(3)])
		}
		text.WriteString([]string{"", "", "*", "+", "?"}[m.random.Intn(5)])
	}
	return text.String()
}

func makeLens(random *rand.Rand) *maker {
	m := &maker{random: random, wrongAt: -1}
	m.gap("")
	m.lens(2)
	m.gap("")
	return m
}

func TestMadeLenses(t *testing.T) {
	random := rand.New(rand.NewSource(2))
	seen := map[Errno]int{}
	for range 20000 {
		m := makeLens(random)
		want := printed{m.loose.String(), m.plain.String(), OK, 0}
		if m.wrongAt >= 0 {
			want = noText(m.loose.String(), m.wrongAt)
		}
		if m.loose.Len() > maxLens {
			want = tooLong(m.loose.String())
		}
		seen[want.e]++
		checkPrint(t, []printed{want})
		if want.e == OK && m.plain.Len() <= maxLens {
			checkPrint(t, []printed{fine(m.plain.String(), m.plain.String())})
		}
	}
	for _, e := range []Errno{OK, ErrLong, ErrDefault} {
		if seen[e] < 500 {
			t.Errorf("too few lenses made with the answer %d: %d", e, seen[e])
		}
	}
}
