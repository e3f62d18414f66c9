package tests

import (
	"math"
	"slices"
	"testing"

	"loop.example/s02665/impl"
)

func schemeIs(t *testing.T, from int64, count int, ty string, want string) {
	t.Helper()
	b := impl.Binder{Num: 5, Name: "x", Node: 7, From: from, Count: count, Type: plainOf(t, ty)}
	if got := impl.Scheme(b); plainShown(got) != want {
		t.Errorf("%s with %d from %d: %s, want %s", ty, count, from, plainShown(got), want)
	}
	if plainShown(b.Type) != ty {
		t.Errorf("%s was changed", ty)
	}
}

func TestScheme(t *testing.T) {
	schemeIs(t, 0, 0, "int", "int")
	schemeIs(t, 0, 0, "[#1, #2]", "[#1, #2]")
	schemeIs(t, 1, 0, "[#1, #2]", "[#1, #2]")
	schemeIs(t, 1, 1, "#1", "?1")
	schemeIs(t, 1, 1, "[#1, #2]", "[?1, #2]")
	schemeIs(t, 2, 1, "[#1, #2]", "[#1, ?1]")
	schemeIs(t, 1, 2, "[#1, #2]", "[?1, ?2]")
	schemeIs(t, 1, 2, "[#2, #1]", "[?1, ?2]")
	schemeIs(t, 4, 2, "[#5, [#3, #4]]", "[?1, [#3, ?2]]")
	schemeIs(t, 4, 3, "(#3, #7, #6, #5, #4, #5, #6)", "(#3, #7, ?1, ?2, ?3, ?2, ?1)")
	schemeIs(t, 3, 5, "list((#5, ref(#5), t(#3, #5), ()))", "list((?1, ref(?1), t(?2, ?1), ()))")
	// Variables of its own that do not stand in it count for nothing.
	schemeIs(t, 1, 100, "[#50, #7]", "[?1, ?2]")
	schemeIs(t, 1, 100, "[int, #101]", "[int, #101]")
	schemeIs(t, 0, 2, "[#1, #2]", "[?1, #2]")
}

func TestSchemeLimits(t *testing.T) {
	const most = 1000000
	schemeIs(t, most, 0, "#1000000", "#1000000")
	schemeIs(t, most, 1, "#1000000", "?1")
	schemeIs(t, most, most, "(#999999, #1999999, #2000000, #1000000)", "(#999999, ?1, #2000000, ?2)")
	schemeIs(t, 0, most, "(#999999, #1000000)", "(?1, #1000000)")
	schemeIs(t, most+1, 0, "int", "nothing")
	schemeIs(t, most+1, 1, "#1000001", "nothing")
	schemeIs(t, 1, most+1, "#1", "nothing")
	schemeIs(t, -1, 1, "#1", "nothing")
	schemeIs(t, -1, 0, "int", "nothing")
	schemeIs(t, 0, -1, "int", "nothing")
	schemeIs(t, 1, -1, "int", "nothing")
	for _, from := range []int64{math.MinInt64, math.MaxInt64} {
		schemeIs(t, from, 0, "int", "nothing")
		schemeIs(t, from, 5, "#1", "nothing")
		schemeIs(t, 1, int(from), "#1", "nothing")
	}
	// Types that are not Ground.
	schemeIs(t, 0, 0, "?1", "nothing")
	schemeIs(t, 1, 1, "[#1, ?1]", "nothing")
	for _, ty := range [][]impl.Node{nil, {}, tcon("int")[:0], {{Kind: impl.TCon, Text: "int", At: 1}}, typeTuple(intType), made(impl.TVar, 0, "a"), {{Kind: impl.TNum}},
		wideOf(impl.MaxType+1, typeNum(1)), sized(impl.MaxType+1, typeNum(1)), slices.Concat(intType, intType), evar("x")} {
		if got := impl.Scheme(impl.Binder{From: 1, Count: 1, Type: ty}); len(got) != 0 {
			t.Errorf("%v: %s", ty, plainShown(got))
		}
	}
	for _, ty := range [][]impl.Node{wideOf(impl.MaxType, typeNum(1)), sized(impl.MaxType, typeNum(1))} {
		if got := impl.Scheme(impl.Binder{From: 1, Count: 1, Type: ty}); len(got) != impl.MaxType || got[0] != typeMeta(1)[0] {
			t.Errorf("%s", plainShown(got))
		}
	}
	if got := impl.Scheme(impl.Binder{}); len(got) != 0 {
		t.Errorf("nothing: %s", plainShown(got))
	}
}

// canBe wants an answer for a type that is written in short.
func canBe(t *testing.T, program []impl.Node, name string, want bool, types ...string) {
	t.Helper()
	for _, ty := range types {
		if got := impl.CanBe(program, name, plainOf(t, ty)); got != want {
			t.Errorf("%s\n%s can be %s: %v", impl.Print(program), name, ty, got)
		}
	}
}

func TestCanBe(t *testing.T) {
	p := resolved(t, "fun id x = x fun k x y = x val n = 1 val e = nil fun o f g x = f (g x) val (a, b) = (1, nil) val c as d = true fun p x = q x and q y = y + 1")
	canBe(t, p, "id", true, "[int, int]", "[#1, #1]", "[list(#7), list(#7)]", "[[int, bool], [int, bool]]", "[(), ()]", "[zork(int, #2), zork(int, #2)]")
	canBe(t, p, "id", false, "int", "[int, bool]", "[#1, #2]", "(int, int)", "[list(int), list(#1)]", "list([int, int])")
	canBe(t, p, "k", true, "[int, [bool, int]]", "[#1, [#2, #1]]", "[#2, [#2, #2]]")
	canBe(t, p, "k", false, "[int, [bool, bool]]", "[int, int]", "[#1, [#2, #2]]")
	canBe(t, p, "n", true, "int")
	canBe(t, p, "n", false, "bool", "#1", "list(int)", "int(int)")
	canBe(t, p, "e", true, "list(int)", "list(#1)", "list(list(()))")
	canBe(t, p, "e", false, "int", "ref(int)", "list(int, int)")
	canBe(t, p, "o", true, "[[int, bool], [[string, int], [string, bool]]]")
	canBe(t, p, "o", false, "[[int, bool], [[string, bool], [string, bool]]]")
	canBe(t, p, "a", true, "int")
	canBe(t, p, "b", true, "list(())")
	canBe(t, p, "b", false, "list(int)", "list(#1)")
	canBe(t, p, "c", true, "bool")
	canBe(t, p, "d", true, "bool")
	canBe(t, p, "p", true, "[int, int]")
	canBe(t, p, "q", true, "[int, int]")
	canBe(t, p, "q", false, "[#1, int]")
	// Names that there are not, of binders inside, of constructors and given values.
	for _, name := range []string{"", "x", "y", "f", "g", "print", "ref", "nil", "zork", "ID", "id "} {
		canBe(t, p, name, false, "int", "#1", "[int, int]", "[string, ()]", "list(int)", "()")
	}
	// Types that are not Ground.
	canBe(t, p, "id", false, "[?1, ?1]", "[list(?1), list(?1)]", "?1")
	canBe(t, p, "n", false, "?1")
	for _, ty := range [][]impl.Node{nil, {}, made(impl.TVar, 0, "a"), {{Kind: impl.TCon, Text: "int", At: 1}}, {{Kind: impl.TNum}}, evar("x"), slices.Concat(intType, intType)} {
		if impl.CanBe(p, "id", ty) || impl.CanBe(p, "n", ty) {
			t.Errorf("%v", ty)
		}
	}
	big := func(n int) []impl.Node { return typeArrow(sized(n, typeNum(1)), sized(n, typeNum(1))) }
	if !impl.CanBe(p, "id", big(149)) || impl.CanBe(p, "id", big(150)) {
		t.Error("types of MaxType nodes and more")
	}
}

func TestCanBeOfBindersInside(t *testing.T) {
	p := resolved(t, "fun f x = (x, x) val y = 1 val y = true fun g z = let val f = 1 in z end")
	canBe(t, p, "f", true, "[int, (int, int)]", "[#8, (#8, #8)]")
	canBe(t, p, "f", false, "int", "[int, (int, bool)]")
	canBe(t, p, "y", true, "bool")
	canBe(t, p, "y", false, "int")
	canBe(t, p, "g", true, "[string, string]")
	canBe(t, p, "z", false, "string")
	canBe(t, p, "x", false, "int", "#1")
	// The last one of several: of a fun and a val, of patterns and in one DFun.
	p = resolved(t, "val f = 1 fun f x = x val (g, f) = (1, true) fun g f = g f val h = let val h = 1 in nil end val k = fn k => let fun h x = 1 in k end")
	canBe(t, p, "f", true, "bool")
	canBe(t, p, "f", false, "int", "[int, int]")
	canBe(t, p, "g", true, "[int, bool]")
	canBe(t, p, "g", false, "int")
	canBe(t, p, "h", true, "list(())")
	canBe(t, p, "h", false, "int", "list(int)", "[int, int]")
	canBe(t, p, "k", true, "[int, int]")
	canBe(t, p, "k", false, "int")
	p = resolved(t, "val x = case 1 of y => fn z => y val w as (v, 1) = raise Div val u : int = 1 val [s] = [1]")
	canBe(t, p, "y", false, "int")
	canBe(t, p, "z", false, "()")
	canBe(t, p, "w", true, "((), int)")
	canBe(t, p, "v", true, "()")
	canBe(t, p, "u", true, "int")
	canBe(t, p, "s", true, "int")
}

func TestCanBeOfProgramsWithACode(t *testing.T) {
	for _, src := range []string{"val x = 1 val y = 1 1", "val x = 1 fun f x = x x", "val x = 1 val y = " + ones(impl.MaxType+1), "val x = 1 datatype t = A of t"} {
		if impl.CanBe(resolved(t, src), "x", intType) {
			t.Errorf("%.100s", src)
		}
	}
	for _, src := range []string{"val x = 1", "val x = y", "val x = 1 val (y, y) = 1"} {
		if impl.CanBe(parsed(t, src), "x", intType) {
			t.Errorf("%s", src)
		}
	}
	for _, it := range badLists() {
		if impl.CanBe(it, "x", intType) {
			t.Errorf("%v", it)
		}
	}
	for _, it := range goodTerms() {
		if impl.CanBe(it, "x", intType) || impl.CanBe(it, "", intType) {
			t.Errorf("%.100v", it)
		}
	}
	if impl.CanBe(programOf(), "x", intType) {
		t.Error("the empty program")
	}
}
