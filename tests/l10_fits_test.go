package tests

import (
	"math/rand"
	"slices"
	"strings"
	"testing"

	"loop.example/s02665/impl"
)

// fitsAgain tells whether a pattern fits a value, both being bare.
func fitsAgain(p []impl.Node, v []impl.Node) bool {
	if isWild(p) {
		return true
	}
	kids := impl.Kids(v)
	for i, kid := range impl.Kids(p) {
		if i >= len(kids) || !fitsAgain(kid, kids[i]) {
			return false
		}
	}
	return rootOf(p) == rootOf(v)
}

func apartAgain(p []impl.Node, q []impl.Node) bool {
	if isWild(p) || isWild(q) {
		return false
	}
	if rootOf(p) != rootOf(q) {
		return true
	}
	kids := impl.Kids(q)
	for i, kid := range impl.Kids(p) {
		if apartAgain(kid, kids[i]) {
			return true
		}
	}
	return false
}

func fitsIs(t *testing.T, p string, v string, want bool) {
	t.Helper()
	pats := patsOf(t, p, v)
	if got := impl.Fits(pats[0], pats[1]); got != want {
		t.Errorf("%s fits %s: %v", p, v, got)
	}
}

func apartIs(t *testing.T, p string, q string, want bool) {
	t.Helper()
	pats := patsOf(t, p, q)
	if there, back := impl.Apart(pats[0], pats[1]), impl.Apart(pats[1], pats[0]); there != want || back != want {
		t.Errorf("%s is apart from %s: %v, the other way round %v", p, q, there, back)
	}
}

// Values, no two of which are the same.
func differentValues() []string {
	return []string{"1", "2", "~1", "0", `""`, `"1"`, `"A"`, `"a"`, "()", "(1, 2)", "(2, 1)", "(1, 2, 3)", "((), ())",
		"A", "B", "A 1", "A 2", "B 1", "A ()", "A (1, 2)", "A (A 1)", "A A", "nil", "true", "false", "[1]", "[1, 2]", "op :: 1",
		"(1, (2, 3))", "((1, 2), 3)", `("1", 2)`, "Some None", "Unknown'", "Unknown' 1"}
}

func TestFitsValues(t *testing.T) {
	for i, p := range differentValues() {
		for k, v := range differentValues() {
			fitsIs(t, p, v, i == k)
			apartIs(t, p, v, i != k)
		}
		for _, wild := range []string{"_", "x", "x as _", "_ : int", "x as (y : int)"} {
			fitsIs(t, wild, p, true)
			fitsIs(t, p, wild, false)
			fitsIs(t, wild, wild, false)
			apartIs(t, wild, p, false)
			apartIs(t, wild, wild, false)
		}
		for _, around := range []string{"x as §", "(§ : t)", "x as (y as § : t)"} {
			in := strings.ReplaceAll(around, "§", "("+p+")")
			fitsIs(t, in, p, true)
			fitsIs(t, in, "("+p+", 1)", false)
			fitsIs(t, p, in, false)
			apartIs(t, in, p, false)
			apartIs(t, in, in, false)
			apartIs(t, in, "("+p+", 1)", true)
		}
	}
}

func TestFitsParts(t *testing.T) {
	fitsIs(t, "(x, Some _)", `(1, Some "s")`, true)
	fitsIs(t, "(x, Some _)", "(1, None)", false)
	fitsIs(t, "(_, 2)", "(1, 2)", true)
	fitsIs(t, "(_, 2)", "(2, 1)", false)
	fitsIs(t, "(1, _)", "(1, A)", true)
	fitsIs(t, "(1, 2, _)", "(1, 2)", false)
	fitsIs(t, "(_, _)", "(1, 2, 3)", false)
	fitsIs(t, "x :: y :: z", "[1, 2, 3]", true)
	fitsIs(t, "x :: y :: nil", "[1, 2, 3]", false)
	fitsIs(t, "A _", "A", false)
	fitsIs(t, "A", "A 1", false)
	fitsIs(t, "A _", "B 1", false)
	fitsIs(t, "A (B (C _))", "A (B (C 1))", true)
	fitsIs(t, "A (B (C 2))", "A (B (C 1))", false)
	fitsIs(t, "x as (y as 1, z : int)", "(1, 2)", true)
	fitsIs(t, "x as (y as 2, z : int)", "(1, 2)", false)
	// A name stands for anything each time.
	fitsIs(t, "(x, x)", "(1, 2)", true)
}

// What is no value, at the root and deep inside.
func TestFitsNoValues(t *testing.T) {
	for _, v := range []string{"_", "x", "x as 1", "1 : int", "_ : int", "x as _"} {
		for _, around := range []string{"§", "(1, §)", "(§, 1)", "A (§)", "[1, §]", "A (1, (2, §), 3)", "((), B (C (§)))"} {
			in := strings.ReplaceAll(around, "§", v)
			fitsIs(t, "_", in, false)
			fitsIs(t, in, in, false)
			fitsIs(t, strings.ReplaceAll(around, "§", "_"), in, false)
			apartIs(t, in, in, false)
		}
	}
}

func TestFitsNoPatterns(t *testing.T) {
	lists := badLists()
	for name, it := range map[string][]impl.Node{
		"an exp":            made(impl.EInt, 1, ""),
		"a type":            tcon("int"),
		"a program":         parsed(t, ""),
		"a tuple of one":    unplaced(impl.PTuple, 0, "", unplaced(impl.PInt, 1, "")),
		"an exp inside":     unplaced(impl.PTuple, 0, "", unplaced(impl.PInt, 1, ""), unplaced(impl.EInt, 1, "")),
		"a number and text": unplaced(impl.PInt, 1, "a"),
		"no constructor":    unplaced(impl.PCon, 0, "a"),
		"a con of two":      unplaced(impl.PCon, 0, "A", unplaced(impl.PInt, 1, ""), unplaced(impl.PInt, 1, "")),
		"too deep":          raised(impl.MaxDeep, unplaced(impl.PInt, 1, "")),
	} {
		lists[name] = it
	}
	for name, it := range lists {
		for _, other := range append(patsOf(t, "_", "1", "x", "(1, 2)", "A 1", `""`, "x as 1"), it) {
			if impl.Fits(it, other) || impl.Fits(other, it) || impl.Apart(it, other) || impl.Apart(other, it) {
				t.Errorf("%s and %s", name, impl.Print(other))
			}
		}
	}
}

func TestApartParts(t *testing.T) {
	apartIs(t, "(1, _)", "(_, 2)", false)
	apartIs(t, "(1, _)", "(2, _)", true)
	apartIs(t, "(_, 1)", "(_, 2)", true)
	apartIs(t, "(1, _)", "(2, _, _)", true)
	apartIs(t, "(_, _)", "(_, _, _)", true)
	apartIs(t, "Some (1, x)", "Some (_, 2)", false)
	apartIs(t, "Some (1, x)", "Some (2, _)", true)
	apartIs(t, "Some _", "None", true)
	apartIs(t, "A _", "A", true)
	apartIs(t, "A _", "A 1", false)
	apartIs(t, "A _", "B _", true)
	apartIs(t, "x :: nil", "x :: y :: z", true)
	apartIs(t, "x :: y", "[1, 2]", false)
	apartIs(t, "((1, _), _)", "((_, 2), (3, 4))", false)
	apartIs(t, "((1, _), (_, 5))", "((_, 2), (3, 4))", true)
	apartIs(t, "x as 1", "y as 2", true)
	apartIs(t, "x as 1", "2 : int", true)
	apartIs(t, "x as 1", "1 : int", false)
	apartIs(t, "(x as 1, y)", "(_, 2 : int)", false)
	apartIs(t, "(x as (1, 2), y)", "((_, 3) : t, _)", true)
	apartIs(t, "(1, _) : t", "x as (y as _, z as 1)", false)
}

// Patterns that are drawn, and values that are made of them.
func TestFitsDrawnPatterns(t *testing.T) {
	counts := map[bool]int{}
	drawnPats(3000, func(d patDrawer, ty []impl.Node, pats [][]impl.Node) {
		for _, p := range pats {
			q := pats[d.rnd.Intn(len(pats))]
			v := d.valueIn(bare(q))
			if got, want := impl.Fits(p, v), fitsAgain(bare(p), v); got != want {
				t.Fatalf("%s fits %s: %v", impl.Print(p), impl.Print(v), got)
			}
			if !impl.Fits(q, v) || impl.Apart(q, v) {
				t.Fatalf("%s does not fit %s", impl.Print(q), impl.Print(v))
			}
			got := impl.Apart(p, q)
			if got != apartAgain(bare(p), bare(q)) || got != impl.Apart(q, p) || got && impl.Fits(p, v) {
				t.Fatalf("%s is apart from %s: %v", impl.Print(p), impl.Print(q), got)
			}
			// Of a value a pattern is apart if it does not fit it.
			if impl.Apart(p, v) == impl.Fits(p, v) {
				t.Fatalf("%s and %s", impl.Print(p), impl.Print(v))
			}
			counts[got]++
		}
	})
	if counts[true] < 1000 || counts[false] < 1000 {
		t.Errorf("apart and not: %v", counts)
	}
}

// valueIn is a value that a bare pattern fits.
func (d patDrawer) valueIn(p []impl.Node) []impl.Node {
	if isWild(p) {
		return d.anyValue(2)
	}
	root, kids := rootOf(p), impl.Kids(p)
	for i, kid := range kids {
		kids[i] = d.valueIn(kid)
	}
	return unplaced(root.Kind, root.Num, root.Text, kids...)
}

func (d patDrawer) anyValue(deep int) []impl.Node {
	return d.valueOf(d.matchType(deep), deep)
}

// valueOf draws a value of a type.
func (d patDrawer) valueOf(ty []impl.Node, deep int) []impl.Node {
	shapes := shapesOf(ty)
	if deep <= 0 {
		small := slices.DeleteFunc(slices.Clone(shapes), func(n impl.Node) bool { return n.Kind == impl.PCon && n.Kids > 0 })
		if len(small) > 0 {
			shapes = small
		}
	}
	n := shapes[d.rnd.Intn(len(shapes))]
	kids := [][]impl.Node{}
	for _, part := range partsOf(ty)[n] {
		kids = append(kids, d.valueOf(part, deep-1))
	}
	return unplaced(n.Kind, n.Num, n.Text, kids...)
}

// Terms as deep and as long as they may be.
func TestFitsLimits(t *testing.T) {
	one := unplaced(impl.PInt, 1, "")
	deep, other := one, unplaced(impl.PInt, 2, "")
	for range impl.MaxDeep - 1 {
		deep, other = unplaced(impl.PCon, 0, "A", deep), unplaced(impl.PCon, 0, "A", other)
	}
	rnd := rand.New(rand.NewSource(1))
	kids := [][]impl.Node{}
	for range impl.MaxNodes - 1 {
		kids = append(kids, unplaced(impl.PInt, int64(rnd.Intn(9)), ""))
	}
	wide := unplaced(impl.PTuple, 0, "", kids...)
	kids[len(kids)-1] = unplaced(impl.PInt, 9, "")
	differs := unplaced(impl.PTuple, 0, "", kids...)
	long := unplaced(impl.PStr, 0, strings.Repeat("x", impl.MaxString))
	for _, c := range []struct {
		p, v []impl.Node
		fits bool
	}{
		{deep, deep, true}, {other, deep, false}, {wide, wide, true}, {differs, wide, false}, {long, long, true}, {wide, deep, false},
		{unplaced(impl.PTuple, 0, "", wilds(impl.MaxNodes-1)...), wide, true},
		{unplaced(impl.PTuple, 0, "", wilds(impl.MaxNodes-2)...), wide, false},
	} {
		soon(t, "Fits", func() {
			if impl.Fits(c.p, c.v) != c.fits || impl.Apart(c.p, c.v) == c.fits {
				t.Errorf("%d nodes and %d nodes: not %v", len(c.p), len(c.v), c.fits)
			}
		})
		if impl.Fits(unplaced(impl.PCon, 0, "A", c.p), unplaced(impl.PCon, 0, "A", c.v)) && len(c.p) == impl.MaxNodes {
			t.Errorf("more nodes than a term may have")
		}
	}
}
