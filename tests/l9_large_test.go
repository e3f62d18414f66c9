package tests

import (
	"strconv"
	"strings"
	"testing"

	"loop.example/s02665/impl"
)

// ones is the text of a tuple whose type has so many nodes.
func ones(n int) string {
	return "(1" + strings.Repeat(", 1", n-2) + ")"
}

// largeFails wants that a type is too large at a node.
func largeFails(t *testing.T, src string, kind int, text string, which int) {
	t.Helper()
	program := resolved(t, src)
	failsAt(t, program, impl.TyLarge, nodeOf(t, program, kind, text, which))
}

// largeFrom fills a source's "$" with the largest tuple that does it no harm, and with one that is
// larger by one.
func largeFrom(t *testing.T, src string, size int, kind int, text string, which int) {
	t.Helper()
	typesFound(t, strings.ReplaceAll(src, "$", ones(size)))
	largeFails(t, strings.ReplaceAll(src, "$", ones(size+1)), kind, text, which)
}

// At a DFun or DVal, where something is generalised.
func TestLargeGeneral(t *testing.T) {
	max := impl.MaxType
	largeFrom(t, "val a = $", max, impl.DVal, "", 1)
	largeFrom(t, "val a = 1 val b = $ val c = 1", max, impl.DVal, "", 2)
	largeFrom(t, "val a = fn x => $", max-2, impl.DVal, "", 1)
	largeFrom(t, "val a = [$]", max-1, impl.DVal, "", 1)
	largeFrom(t, "fun f x = $", max-2, impl.DFun, "", 1)
	largeFrom(t, "fun f x y = $", max-4, impl.DFun, "", 1)
	largeFrom(t, "fun f 1 = 2 | f _ = 3 and g x = $ and h x = x", max-2, impl.DFun, "", 1)
	largeFrom(t, "fun f x = (x, $)", max-4, impl.DFun, "", 1)
	largeFrom(t, "fun f x = (x = $; 1)", max-2, impl.DFun, "", 1)
	largeFrom(t, "fun f x = let val y = $ in 1 end", max, impl.DVal, "", 1)
	largeFrom(t, "fun f x = let fun g y = $ in 1 end", max-2, impl.DFun, "", 1)
	largeFrom(t, "fun f x = let val k = x in (x = $; 1) end", max-2, impl.DFun, "", 1)
	// Unknowns are nodes as others are.
	names := strings.Join(numberedNames("x", max/2-1), ", ")
	largeFails(t, "fun f ("+names+", z) = ("+names+", z)", impl.DFun, "", 1)
	typesFound(t, "fun f ("+names+") = 1")
	// The function's type counts, not the types of what stands in it: those do at the end.
	largeFails(t, "fun f x = let val y = (fn z => z) "+ones(max+1)+" in 1 end", impl.PVar, "y", 1)
}

// At the end, at the first node of a binder or a use.
func TestLargeAtTheEnd(t *testing.T) {
	max := impl.MaxType
	front := "datatype 'a opt = None | Some of 'a datatype ('a, 'b) two = Two of 'a * 'b fun id x = x fun k _ _ = 1 "
	for _, c := range []struct {
		src   string
		size  int
		kind  int
		text  string
		which int
	}{
		{"val a = id $", max, impl.PVar, "a", 1},
		{"val (a, b) = (1, $)", max - 2, impl.DVal, "", 1},
		{"val (_, a) = id (1, $)", max - 2, impl.EVar, "id", 1},
		{"val _ = $", max, impl.DVal, "", 1},
		{"val _ = id $", max, impl.EVar, "id", 1},
		{"val _ = (id $; 1)", max, impl.EVar, "id", 1},
		{"val _ = ((id, $); id $; 1)", max, impl.EVar, "id", 2},
		{"val a as b = $", max, impl.PVar, "b", 1},
		{"val _ = (Some $; 1)", max, impl.ECon, "Some", 1},
		{"val _ = (None = Some $; 1)", max, impl.ECon, "None", 1},
		{"val _ = (case Some $ of Some _ => 1)", max, impl.ECon, "Some", 1},
		{"val _ = (fn None => 1 | Some _ => 2) (Some $)", max - 1, impl.EFn, "", 1},
		{"val _ = (ref $; 1)", max, impl.EVar, "ref", 1},
		{"val _ = (Two (1, $); 1)", max, impl.ECon, "Two", 1},
		{"val _ = (Two ($, 1); 1)", max, impl.ECon, "Two", 1},
		{"val _ = k 1 $", max, impl.EVar, "k", 1},
		{"val _ = k $ 1", max, impl.EVar, "k", 1},
		{"val _ = ((raise Div) = $)", max, impl.ERaise, "", 1},
		{"val _ = (fn _ => 1) $", max, impl.EFn, "", 1},
		{"val _ = (fn x => 1) $", max, impl.PVar, "x", 2},
		{"val _ = (fn (x as _) => 1) $", max, impl.PAs, "x", 1},
		{"val _ = let fun f (x : 'a) = 1 in f $ end", max - 2, impl.FBind, "f", 1},
		{"val _ = case $ of (x as y) => 1", max, impl.PVar, "y", 1},
	} {
		largeFrom(t, front+c.src, c.size, c.kind, c.text, c.which)
	}
	// Types that no binder and no use has may be as large as they like.
	for _, src := range []string{"val _ = ($; 1)", "val _ = case $ of _ => 1", "val _ = $ = $", "val _ = if $ = $ then 1 else 2", "fun f x = ($; 1)", "val _ = while true do $", "val _ = ((($ ; $), $); 1)"} {
		typesFound(t, front+strings.ReplaceAll(src, "$", ones(max+1)))
	}
	// The first of several, whatever it is.
	largeFails(t, front+"val _ = (ref "+ones(max+1)+"; Some "+ones(max+1)+"; 1)", impl.EVar, "ref", 1)
	largeFails(t, front+"val _ = (Some "+ones(max+1)+"; ref "+ones(max+1)+"; 1)", impl.ECon, "Some", 1)
	largeFails(t, front+"val _ = (Some "+ones(max+1)+"; 1) val x = id "+ones(max+1), impl.ECon, "Some", 1)
	largeFails(t, front+"val y = id "+ones(max+1)+" val x = id y", impl.PVar, "y", 1)
}

// A type that was small when its binder was generalised, and grows by what is told later.
func TestLargeLater(t *testing.T) {
	max := impl.MaxType
	src := "val a = (fn x => let fun k y = (x, y) in (k 1; x = $) end) (raise Div)"
	typesFound(t, strings.ReplaceAll(src, "$", ones(max-4)))
	largeFails(t, strings.ReplaceAll(src, "$", ones(max-3)), impl.FBind, "k", 1)
	largeFails(t, strings.ReplaceAll(src, "$", ones(max+1)), impl.PVar, "x", 1)
	src = "val r = ref nil fun f x = (!r, x) val a = (f 1; r := [$])"
	typesFound(t, strings.ReplaceAll(src, "$", ones(max-5)))
	largeFails(t, strings.ReplaceAll(src, "$", ones(max-4)), impl.FBind, "f", 1)
}

// Clashes in front of what is too large are told, those behind it are not.
func TestLargeAndClashes(t *testing.T) {
	big := ones(impl.MaxType + 1)
	front := "fun id x = x "
	clashAt(t, "val b = 1 1 val a = "+big, impl.EApp, "", 1)
	largeFails(t, "val a = "+big+" val b = 1 1", impl.DVal, "", 1)
	clashAt(t, front+"val a = id "+big+" val b = 1 1", impl.EApp, "", 2)
	clashAt(t, "val a = fn x => x x val b = "+big, impl.EApp, "", 1)
	largeFails(t, "val b = "+big+" val a = fn x => x x", impl.DVal, "", 1)
	clashAt(t, front+"val b = id "+big+" val a = fn x => x x", impl.EApp, "", 2)
	clashAt(t, "val a = (fn x => x = [x], "+big+")", impl.EBin, "=", 1)
	clashAt(t, "val a = ("+big+", fn x => x = [x])", impl.EBin, "=", 1)
	clashAt(t, "fun f x = "+big+" and g y = y y", impl.EApp, "", 1)
	largeFails(t, "fun f x = "+big+" fun g y = y y", impl.DFun, "", 1)
	clashAt(t, "fun f x = (x x, "+big+")", impl.EApp, "", 1)
	clashAt(t, front+"fun f x = let val y = id "+big+" in x x end", impl.EApp, "", 2)
	// A type that would stand in itself is no large one.
	clashAt(t, "fun f x = (f, f)", impl.FBind, "f", 1)
	clashAt(t, "val f = fn x => (x = (x, x), x)", impl.EBin, "=", 1)
	clashAt(t, "fun f x = let val g = fn y => (y = [x], x = [y]) in g end", impl.EBin, "=", 2)
}

// doubled is a chain of decs, each with a type twice as large as the one in front.
func doubled(n int, dec func(next string, last string) string) string {
	src := "fun p x = (x, x) val a0 = 1 "
	for i := range n {
		src += dec("a"+strconv.Itoa(i+1), "a"+strconv.Itoa(i)) + " "
	}
	return src
}

// inferSoon is Infer's answer, without anything that is done by hand.
func inferSoon(t *testing.T, name string, program []impl.Node) impl.Typed {
	t.Helper()
	typed := impl.Typed{}
	soon(t, name, func() { typed = impl.Infer(program) })
	return typed
}

func soonFails(t *testing.T, src string, code int, kind int, text string, which int) {
	t.Helper()
	program := resolved(t, src)
	typed := inferSoon(t, src[:60], program)
	if node := nodeOf(t, program, kind, text, which); typed.Code != code || typed.Node != node || len(typed.Binders)+len(typed.Uses) != 0 {
		t.Errorf("%.300s: code %d at node %d, want code %d at node %d", src, typed.Code, typed.Node, code, node)
	}
}

func TestLargeDoubledTypes(t *testing.T) {
	apply := func(next string, last string) string { return "val " + next + " = p " + last }
	tuple := func(next string, last string) string { return "val " + next + " = (" + last + ", " + last + ")" }
	fun := func(next string, last string) string { return "fun " + next + " x = " + last }
	for _, n := range []int{8, 9, 20, 64, 400, 650} {
		soonFails(t, doubled(n, apply), impl.TyLarge, impl.PVar, "a8", 1)
		soonFails(t, doubled(n, tuple), impl.TyLarge, impl.DVal, "", 9)
		if n > 400 {
			continue
		}
		// A clash at the end, and types that are the same, however large.
		soonFails(t, doubled(n, apply)+"val z = 1 1", impl.TyClash, impl.EApp, "", n+1)
		soonFails(t, doubled(n, apply)+"val z = fn x => x x", impl.TyClash, impl.EApp, "", n+1)
		again := strings.ReplaceAll(doubled(n, apply), "a", "b")
		again = strings.ReplaceAll(again, "vbl", "val")
		last := strconv.Itoa(n)
		soonFails(t, doubled(n, apply)+again+"val z = a"+last+" = b"+last, impl.TyLarge, impl.PVar, "a8", 1)
		soonFails(t, doubled(n, apply)+again+"val z = a"+last+" = b"+strconv.Itoa(n-1), impl.TyClash, impl.EBin, "=", 1)
	}
	typesFound(t, doubled(7, apply))
	typesFound(t, doubled(7, tuple))
	typesFound(t, doubled(100, fun))
	soonFails(t, doubled(298, func(next string, last string) string { return "fun " + next + " x = " + last }), impl.TyLarge, impl.DFun, "", 151)
}

// A function that makes types larger by as much as can be, used again and again.
func TestLargeGrowing(t *testing.T) {
	front := "type 'a d = 'a" + strings.Repeat(" list", 290) + " fun f (x : 'a) = ((raise Div) : 'a d) val x = f 1 "
	long := front
	for range 20 {
		long += "val x = " + strings.Repeat("f (", 100) + "x" + strings.Repeat(")", 100) + " "
	}
	soonFails(t, long, impl.TyLarge, impl.PVar, "x", 3)
	soonFails(t, long+"val b = fn x => x x", impl.TyClash, impl.EApp, "", 2002)
	soonFails(t, "val b = fn x => x x "+long, impl.TyClash, impl.EApp, "", 1)
	soonFails(t, long+"val b = x + 1", impl.TyClash, impl.EBin, "+", 1)
	soonFails(t, front+"val r = ref nil val a = (r := "+strings.Repeat("f (", 250)+"r"+strings.Repeat(")", 250)+", 1 1)", impl.TyClash, impl.EBin, ":=", 1)
}
