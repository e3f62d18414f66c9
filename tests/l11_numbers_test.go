package tests

import (
	"slices"
	"strconv"
	"strings"
	"testing"

	"loop.example/s02665/impl"
)

// lamsAre wants the numbers of the CLams of a source's code, in the order of the code's list.
func lamsAre(t *testing.T, src string, want ...int64) {
	t.Helper()
	c := checkCode(t, resolved(t, src))
	got := []int64{}
	for _, n := range c {
		if n.Kind == impl.CLam {
			got = append(got, n.Num)
		}
	}
	if !slices.Equal(got, want) {
		t.Errorf("%s: %v, want %v", src, got, want)
	}
	// Each number is bound once: binders have the first ones, parameters all behind them.
	bound := []int64{}
	for _, n := range c {
		if isOneOf(n.Kind, impl.CLam, impl.CLet, impl.CBnd, impl.QVar, impl.QAs) {
			bound = append(bound, n.Num)
		}
	}
	slices.Sort(bound)
	for i, num := range bound {
		if num != int64(i+1) {
			t.Errorf("%s: numbers %v", src, bound)
			return
		}
	}
}

// The last parameter's CLam of a function stands first in the list of the code.
func TestElaborateParameters(t *testing.T) {
	lamsAre(t, "")
	lamsAre(t, "val _ = 1")
	lamsAre(t, "val _ = fn _ => 1", 1)
	lamsAre(t, "val _ = fn _ => (fn _ => 1, fn _ => 2)", 1, 2, 3)
	lamsAre(t, "val f = fn _ => 1", 2)
	lamsAre(t, "val f = fn x => fn y => fn z => 1", 5, 6, 7)
	lamsAre(t, "fun f x = 1", 3)
	lamsAre(t, "fun f 1 = 2 | f _ = 3", 2)
	lamsAre(t, "fun f 1 2 = 3 | f _ _ = 4", 3, 2)
	lamsAre(t, "fun f x y z = 1", 7, 6, 5)
	lamsAre(t, "fun f x = fn y => x", 4, 5)
	lamsAre(t, "fun f x y = fn z => x", 5, 7, 6)
	lamsAre(t, "val g = fn x => let fun h a b = a in h end", 7, 6, 8)
	lamsAre(t, "fun f a b = 1 and g c d e = 2 val k = fn z => z", 11, 10, 14, 13, 12, 15)
	lamsAre(t, "fun f 1 = (fn 2 => 3) | f _ = (fn 4 => 5) and g _ _ = fn _ => 6", 3, 4, 5, 6, 8, 7)
	lamsAre(t, "val _ = (fn _ => 1) 2 val _ = (fn _ => 3) 4 fun f _ = 5 val _ = fn _ => 6", 2, 3, 4, 5)
	lamsAre(t, "fun f _ _ = let fun g _ _ = fn _ => 1 in g end", 3, 5, 4, 7, 6)
	lamsAre(t, "val _ = case fn _ => 1 of f => (fn _ => f 2) handle _ => fn _ => 3", 2, 3, 4)
	lamsAre(t, "val _ = if (fn _ => true) 1 andalso (fn _ => true) 2 then (fn _ => 1) 1 else (fn _ => 2) 2", 1, 2, 3, 4)
}

// The node of the source tells the number, also where the code has it in another place: a DVal's
// pattern stands behind its exp there.
func TestElaborateParametersOfTheSource(t *testing.T) {
	codeIs(t, "val (f, 1) = (fn x => x, 2)", `CCase "Bind"(CTuple(CLam 3((), CCase "Match"(CVar 3, CRule(QVar 2(()), CVar 2))), CInt 2), CRule(PTuple(QVar 1([(), ()]), PInt 1), CTuple(CTuple, CVar 1)))`)
	codeIs(t, "fun f 1 g = g (fn x => x)", `CFix(CBnd 3(TAll 1(TAll 2([int, [[[#1, #1], #2], #2]])), CAll 1(CAll 2(CLam 5(int, CLam 6([[#1, #1], #2], CCase "Match"(CTuple(CVar 5, CVar 6), `+
		`CRule(PTuple(PInt 1, QVar 1([[#1, #1], #2])), CApp(CVar 1, CLam 4(#1, CCase "Match"(CVar 4, CRule(QVar 2(#1), CVar 2))))))))))), CTuple(CTuple, CInst(CInst(CVar 3, ()), ())))`)
}

// endsIn wants what a program ends in.
func endsIn(t *testing.T, src string, want string) {
	t.Helper()
	c := checkCode(t, resolved(t, src))
	u, at := treeOf(c), len(c)-1
	for isOneOf(c[at].Kind, impl.CLet, impl.CFix, impl.CRule) || c[at].Kind == impl.CCase && c[at].Text == "Bind" {
		at = u.kids[at][len(u.kids[at])-1]
	}
	if got := codeShown(c[u.from[at] : at+1]); got != want {
		t.Errorf("%s: %s, want %s", src, got, want)
	}
}

func TestElaborateEnds(t *testing.T) {
	endsIn(t, "", "CTuple")
	endsIn(t, "exception E datatype t = A type s = t", "CTuple")
	endsIn(t, "val _ = 1 val () = () val (1, _) = (1, 2)", "CTuple")
	endsIn(t, "val _ = let val x = 1 fun f y = y in f x end", "CTuple")
	endsIn(t, "val _ = fn x => case x of y => y", "CTuple")
	endsIn(t, "val x = 1", "CTuple(CTuple, CVar 1)")
	endsIn(t, "val x = 1 val x = 2 val x = x", "CTuple(CTuple, CVar 1, CVar 2, CVar 3)")
	endsIn(t, "val x = let val y = 1 in y end val z = (fn w => w) 2", "CTuple(CTuple, CVar 1, CVar 3)")
	endsIn(t, "fun f x = 1", "CTuple(CTuple, CInst(CVar 2, ()))")
	endsIn(t, "fun f 1 x = x | f y z = z", "CTuple(CTuple, CInst(CVar 4, ()))")
	endsIn(t, "fun f x y = 1 and g z = g z", "CTuple(CTuple, CInst(CInst(CInst(CInst(CVar 3, ()), ()), ()), ()), CInst(CInst(CInst(CInst(CVar 5, ()), ()), ()), ()))")
	// In the order of their numbers: a name around a pattern is behind those in it.
	endsIn(t, "val x as (y, z as _) = (1, 2) val w = 3", "CTuple(CTuple, CVar 1, CVar 2, CVar 3, CVar 4)")
	endsIn(t, "val (x : int) :: y = [1]", "CTuple(CTuple, CVar 1, CVar 2)")
	endsIn(t, "val f = fn x => let val y = x in y end val (a, b) = (f 1, f 2)", "CTuple(CTuple, CInst(CVar 1, ()), CVar 4, CVar 5)")
}

// cvars are those with the numbers from one on to another.
func cvars(from int, to int) string {
	out := []string{"CTuple"}
	for num := from; num <= to; num++ {
		out = append(out, "CVar "+strconv.Itoa(num))
	}
	return "CTuple(" + strings.Join(out, ", ") + ")"
}

func TestElaborateMostShown(t *testing.T) {
	max := impl.MaxShown
	vals := func(n int) string {
		out := ""
		for range n {
			out += "val x = 1 "
		}
		return out
	}
	tuple := func(n int) string {
		return "val (" + strings.Join(numberedNames("x", n), ", ") + ") = " + ones(n+1) + " "
	}
	for _, n := range []int{1, 2, max - 1, max, max + 1, max + 2, 2*max + 1} {
		endsIn(t, vals(n), cvars(max0(n-max)+1, n))
		if n > 1 {
			endsIn(t, tuple(n), cvars(max0(n-max)+1, n))
		}
		endsIn(t, vals(n)+"val _ = let val y = 1 in y end", cvars(max0(n-max)+1, n))
	}
	// A dec may have some of its binders shown, and others not.
	endsIn(t, tuple(max)+"val y = 2 val z = 3", cvars(3, max+2))
	endsIn(t, "fun f 1 = 2 and g 1 = 3 and h 1 = 4 "+vals(max-1), cvars(3, max+2))
	// Others are not counted.
	endsIn(t, "val f = fn 1 => let val a = 1 val b = 2 in a end "+vals(max-1), "CTuple(CTuple, CVar 1, "+strings.TrimPrefix(cvars(4, max+2), "CTuple(CTuple, "))
	endsIn(t, "val f = fn 1 => let val a = 1 val b = 2 in a end "+vals(max), cvars(4, max+3))
}

func max0(n int) int {
	return max(0, n)
}
