package syntax

import (
	"slices"
	"testing"
)

const twoFixed = `~((/a/"x""b")*,/c/|/d/"y""e")`

func TestAllInOrder(t *testing.T) {
	lens, at := Read(twoFixed)
	if lens == nil {
		t.Fatalf("Read(%q) ends at %d", twoFixed, at)
	}
	var kinds []Kind
	for l := range lens.all() {
		kinds = append(kinds, l.Kind)
	}
	if want := []Kind{Swap, Many, Group, Fixed, Choice, Same, Fixed}; !slices.Equal(kinds, want) {
		t.Errorf("the kinds are %v, want %v", kinds, want)
	}
}

func TestAllStopsEarly(t *testing.T) {
	lens, _ := Read(twoFixed)
	for stop := range 7 {
		count := 0
		for range lens.all() {
			if count == stop {
				break
			}
			count++
		}
		if count != stop {
			t.Errorf("%d lenses were given out, want %d", count, stop)
		}
	}
}

func TestWrongDefault(t *testing.T) {
	for _, c := range []struct {
		text  string
		at    int
		wrong bool
	}{
		{twoFixed, 9, true},
		{`/a/"b""a"`, 0, false},
		{`/a/"b""a" /a/"a" "b"`, 17, true},
		{`/a/`, 0, false},
	} {
		lens, _ := Read(c.text)
		if at, wrong := lens.WrongDefault(); at != c.at || wrong != c.wrong {
			t.Errorf("the wrong default of %s: %d, %v, want %d, %v", c.text, at, wrong, c.at, c.wrong)
		}
	}
}

func TestJoints(t *testing.T) {
	lens, _ := Read("\n~ ( /a/ | /b/\n| /c/ ,\n/d/ * /e/(/f/) ) *")
	var joints [][]int
	for l := range lens.all() {
		joints = append(joints, l.Joints)
	}
	want := [][]int{{40}, {1}, {9, 15}, nil, nil, nil, {29, 32}, {27}, nil, nil, nil, nil}
	if !slices.EqualFunc(joints, want, slices.Equal[[]int]) {
		t.Errorf("the joints are %v, want %v", joints, want)
	}
}
