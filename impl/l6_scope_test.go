package impl

import (
	"maps"
	"testing"
)

// Names that go out of scope are deleted, and what they hid is there again.
func TestScopesAreUndone(t *testing.T) {
	s := scopes{meant: map[string]int64{}}
	s.bind("x", 1)
	outer := len(s.undo)
	s.bind("y", 2)
	s.bind("x", 3)
	inner := len(s.undo)
	s.bind("x", 4)
	s.bind("x", 5)
	s.bind("z", 6)
	for _, step := range []struct {
		begun int
		want  map[string]int64
	}{
		{len(s.undo), map[string]int64{"x": 5, "y": 2, "z": 6}},
		{inner, map[string]int64{"x": 3, "y": 2}},
		{outer, map[string]int64{"x": 1}},
		{0, map[string]int64{}},
	} {
		s.leave(step.begun)
		if !maps.Equal(s.meant, step.want) || len(s.undo) != step.begun {
			t.Errorf("%d scopes: %v, want %v", step.begun, s.meant, step.want)
		}
	}
}

func TestNothingIsInScopeAtTheEnd(t *testing.T) {
	program, code, _ := Parse("val x = 1 fun f x = let val y = x fun f x = y in fn x => case f of (x, z) => x end val x = f handle y => y")
	if code != ParseOk {
		t.Fatal("code", code)
	}
	all := []span{}
	for s := range spans(program) {
		all = append(all, s)
	}
	w := numbering{t: program, all: all, scopes: scopes{meant: map[string]int64{}}}
	w.walk(all[len(all)-1])
	if len(w.meant) != 0 || len(w.undo) != 0 {
		t.Errorf("%v is left, and %d to undo", w.meant, len(w.undo))
	}
}
