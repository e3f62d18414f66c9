package impl

import (
	"slices"
	"testing"
)

func inferring(t *testing.T, src string) *inference {
	t.Helper()
	program, code, _ := Parse(src)
	resolved, code2, _ := Resolve(program)
	d, code3, _ := declarationsOf(resolved)
	if code != ParseOk || code2 != ScOk || code3 != DtOk {
		t.Fatalf("%s: codes %d, %d and %d", src, code, code2, code3)
	}
	return begin(d)
}

// Every kind that stands in a program has a rule.
func TestRulesOfAllKinds(t *testing.T) {
	for kind, its := range rules() {
		if (its == nil) != (kind < KProgram) {
			t.Errorf("kind %d: %v", kind, its == nil)
		}
	}
}

// Types that were made before are found by their kind, name and parts.
func TestShapes(t *testing.T) {
	w := inferring(t, "val x = 1")
	a, b := w.fresh(w.level), w.fresh(w.level)
	same := [][2]*cell{
		{w.tcon("int"), w.tcon("int")},
		{w.tuple(), w.tuple()},
		{w.arrow(a, b), w.arrow(a, b)},
		{w.tcon("list", w.tuple(a, b)), w.tcon("list", w.tuple(a, b))},
	}
	for i, two := range same {
		if two[0] != two[1] {
			t.Errorf("%d is made twice", i)
		}
	}
	all := []*cell{
		a, b, w.tcon("int"), w.tcon("bool"), w.tcon("list", a), w.tcon("list", b), w.tcon("ref", a), w.tcon("two", a, b), w.tcon("two", b, a), w.tcon("two", a, a),
		w.arrow(a, b), w.arrow(b, a), w.tuple(a, b), w.tuple(b, a), w.tuple(a, b, a), w.tuple(), w.tcon("list"), w.arrow(w.arrow(a, b), a), w.arrow(a, w.arrow(b, a)),
	}
	ids := []int64{}
	for i, c := range all {
		for k, other := range all[:i] {
			if c == other {
				t.Errorf("%d and %d are one", k, i)
			}
		}
		ids = append(ids, c.id)
	}
	slices.Sort(ids)
	if len(slices.Compact(ids)) != len(all) {
		t.Error("two cells have one number")
	}
	// Parts that have become the same since are one part.
	w.state(a, b)
	if w.tcon("new", a) != w.tcon("new", b) || w.fault != nil {
		t.Error("a part goes by its first name")
	}
}

// A type has the level of the highest unknown in it, one without unknowns the lowest.
func TestLevelsOfTypes(t *testing.T) {
	w := inferring(t, "val x = 1")
	low, high := w.fresh(levelOpen), w.fresh(levelOpen+3)
	for _, c := range []struct {
		ty   *cell
		want int
	}{
		{w.tcon("int"), levelFixed}, {w.tuple(w.tcon("int"), w.tuple()), levelFixed}, {w.tcon("list", low), levelOpen}, {w.arrow(low, high), levelOpen + 3}, {w.arrow(high, low), levelOpen + 3},
		{w.tcon("list", w.arrow(low, high)), levelOpen + 3},
	} {
		if c.ty.level != c.want {
			t.Errorf("%v has level %d, want %d", c.ty.node, c.ty.level, c.want)
		}
	}
}

// What is generalised is what has the level of the dec; an instance has all else in common with it.
func TestInstances(t *testing.T) {
	w := inferring(t, "val x = 1")
	w.level = levelDec
	outer, inner, ground := w.fresh(levelOpen), w.fresh(levelDec), w.tcon("list", w.tcon("int"))
	kept := w.tuple(outer, ground)
	b := &binding{ty: w.arrow(inner, w.tuple(kept, w.tcon("list", inner)))}
	w.generalise([]*binding{b})
	if w.fault != nil || !b.general || b.from != 1 || len(b.vars) != 1 || b.vars[0] != inner.head() || inner.head().node != (Node{Kind: TNum, Num: 1}) || !outer.head().isOpen() {
		t.Fatalf("%v: %d from %d", w.fault, len(b.vars), b.from)
	}
	for range 2 {
		its := instance{inference: w, from: b.from, types: make([]*cell, 1)}
		ty := its.copied(b.ty)
		fresh := its.all()[0]
		if ty == b.ty || !fresh.isOpen() || fresh == inner.head() || ty.kids[0] != fresh || ty.kids[1].kids[0] != kept.head() || ty.kids[1].kids[1].kids[0] != fresh {
			t.Error("an instance has a new unknown where the variable stands, and nothing else that is new")
		}
	}
	its := instance{inference: w, from: 1, types: make([]*cell, 3)}
	its.copied(b.ty)
	if all := its.all(); all[0] == w.untold || all[1] != w.untold || all[2] != w.untold {
		t.Error("variables that stand elsewhere are told by nobody")
	}
}
