package tests

import (
	"slices"
	"strconv"
	"strings"
	"testing"

	"loop.example/s02665/impl"
)

// namesShown are the binders and EVars of a term in the order of the list: x:1 is a binder and its
// number, x>1 an EVar and the number of what it means.
func namesShown(it []impl.Node) string {
	out := []string{}
	for _, n := range it {
		switch {
		case n.Kind == impl.EVar:
			out = append(out, n.Text+">"+strconv.FormatInt(n.Num, 10))
		case isOneOf(n.Kind, impl.PVar, impl.PAs, impl.FBind):
			out = append(out, n.Text+":"+strconv.FormatInt(n.Num, 10))
		}
	}
	return strings.Join(out, " ")
}

// resolved wants a source to have no wrong node.
func resolved(t *testing.T, src string) []impl.Node {
	t.Helper()
	got, code, node := impl.Resolve(parsed(t, src))
	if code != impl.ScOk || node != 0 {
		t.Fatalf("%s: code %d at node %d", src, code, node)
	}
	return got
}

func namesAre(t *testing.T, src string, want string) {
	t.Helper()
	got, code, node := impl.Resolve(parsed(t, src))
	if code != impl.ScOk || node != 0 || namesShown(got) != want {
		t.Errorf("%s: code %d at node %d, %s, want %s", src, code, node, namesShown(got), want)
		return
	}
	if !impl.Resolved(got) {
		t.Errorf("%s: is not resolved by %s", src, want)
	}
}

// varsMean looks at the EVars alone.
func varsMean(t *testing.T, src string, want ...int64) {
	t.Helper()
	got := []int64{}
	for _, n := range resolved(t, src) {
		if n.Kind == impl.EVar {
			got = append(got, n.Num)
		}
	}
	if !slices.Equal(got, want) {
		t.Errorf("%s: %d, want %d", src, got, want)
	}
}

func isWrong(t *testing.T, it []impl.Node, code int, node int) {
	t.Helper()
	got, c, n := impl.Resolve(it)
	if len(got) != 0 || c != code || n != node {
		t.Errorf("%s: %d nodes, code %d at node %d, want code %d at node %d", impl.Print(it), len(got), c, n, code, node)
	}
	if impl.Resolved(it) {
		t.Errorf("%s: is resolved", impl.Print(it))
	}
}

// nodeOf is the index of a node that is told by its kind, its Text and how many such ones there are up
// to it.
func nodeOf(t *testing.T, it []impl.Node, kind int, text string, which int) int {
	t.Helper()
	for i, n := range it {
		if n.Kind == kind && n.Text == text {
			if which--; which == 0 {
				return i
			}
		}
	}
	t.Fatalf("%s: no such %s %s", impl.Print(it), kindName(kind), text)
	return 0
}

func wrongAt(t *testing.T, src string, code int, kind int, text string, which int) {
	t.Helper()
	it := parsed(t, src)
	isWrong(t, it, code, nodeOf(t, it, kind, text, which))
}

func allRight(t *testing.T, sources ...string) {
	t.Helper()
	for _, src := range sources {
		got, code, node := impl.Resolve(parsed(t, src))
		if code != impl.ScOk || node != 0 || !impl.Resolved(got) {
			t.Errorf("%s: code %d at node %d", src, code, node)
		}
	}
}

func TestNamesConstants(t *testing.T) {
	codes := []int{
		impl.ScOk, impl.ScProgram, impl.ScUnbound, impl.ScCon, impl.ScArity, impl.ScTwice, impl.ScVar, impl.ScType, impl.ScKind,
	}
	if !slices.Equal(codes, []int{0, 1, 2, 3, 4, 5, 6, 7, 8}) {
		t.Error("codes", codes)
	}
}

func TestNamesExamples(t *testing.T) {
	namesAre(t, "fun f x = g x and g y = f y", "x:1 g>4 x>1 f:2 y:3 f>2 y>3 g:4")
	namesAre(t, "val x = 1 val y = x val x = x val z = x", "x:1 y:2 x>1 x:3 x>1 z:4 x>3")
	namesAre(t, "fun not x = not x", "x:1 not>2 x>1 not:2")
	for src, want := range map[string][2]int{
		"val x = x":                  {impl.ScUnbound, 1},
		"val (x, (y, x)) = 1":        {impl.ScTwice, 2},
		"fun f x x = 1":              {impl.ScTwice, 1},
		"datatype t = A val A _ = 1": {impl.ScArity, 4},
		"val a = A datatype t = A":   {impl.ScCon, 1},
		"datatype 'a t = A of 'b":    {impl.ScVar, 1},
		"val x : list = 1":           {impl.ScKind, 1},
	} {
		isWrong(t, parsed(t, src), want[0], want[1])
	}
}

var givenNumbers = map[string]int64{
	"print": -1, "size": -2, "sub": -3, "cut": -4, "chr": -5, "show": -6, "not": -7, "ref": -8,
}

func TestNamesGiven(t *testing.T) {
	for name, number := range givenNumbers {
		varsMean(t, strings.ReplaceAll("val a = @ val b = fn x => @ fun f y = @", "@", name), number, number, number)
		for src, want := range map[string][]int64{
			"val @ = 1 val a = @":                      {1},
			"val @ = @ val a = @":                      {number, 1},
			"val @ as _ = @ val a = @":                 {number, 1},
			"fun @ x = @ val a = @":                    {2, 2},
			"fun f x = @ and @ y = f":                  {4, 2},
			"fun f @ = @ | f _ = @ val a = @":          {1, number, number},
			"val a = (fn @ => @, @)":                   {2, number},
			"val a = case @ of @ => @ | _ => @":        {number, 2, number},
			"val a = @ handle @ => @ | x => @":         {number, 2, number},
			"val a = let val @ = @ in @ end val b = @": {number, 2, number},
			"val a = (let fun @ x = @ in @ end, @)":    {3, 3, number},
		} {
			varsMean(t, strings.ReplaceAll(src, "@", name), want...)
		}
	}
	for name := range givenNumbers {
		for _, other := range []string{name + "'", name + "s", name[:len(name)-1], "_" + name} {
			wrongAt(t, "val a = "+other, impl.ScUnbound, impl.EVar, other, 1)
		}
	}
}

// What is a word of the given constructors, exceptions and types is none of the values.
func TestNamesOfOtherThingsAreNoValues(t *testing.T) {
	for _, name := range strings.Fields("int string exn bool list unit x f it op_") {
		wrongAt(t, "val a = "+name, impl.ScUnbound, impl.EVar, name, 1)
	}
	wrongAt(t, "datatype t = A val a = t", impl.ScUnbound, impl.EVar, "t", 1)
	wrongAt(t, "type t = int val a = t", impl.ScUnbound, impl.EVar, "t", 1)
	allRight(t, "val int = 1 val list = int type t = int list", "val t = 1 datatype t = A val a = t")
}

func TestNamesOfVals(t *testing.T) {
	wrongAt(t, "val x = x", impl.ScUnbound, impl.EVar, "x", 1)
	wrongAt(t, "val x = fn y => x", impl.ScUnbound, impl.EVar, "x", 1)
	wrongAt(t, "val (y, x) = (1, fn () => y)", impl.ScUnbound, impl.EVar, "y", 1)
	wrongAt(t, "val y = x val x = 1", impl.ScUnbound, impl.EVar, "x", 1)
	wrongAt(t, "val a = let val x = x in 1 end", impl.ScUnbound, impl.EVar, "x", 1)
	wrongAt(t, "val a = let val y = x val x = 1 in 1 end", impl.ScUnbound, impl.EVar, "x", 1)
	namesAre(t, "val x = 1 val x = x", "x:1 x:2 x>1")
	namesAre(t, "val x = 1 val y = 2 val z = (x, y)", "x:1 y:2 z:3 x>1 y>2")
	namesAre(t, "val x = 1 exception E type t = int datatype u = A val y = x", "x:1 y:2 x>1")
	namesAre(t, "val x = 1 fun f y = x and g y = x", "x:1 y:2 x>1 f:3 y:4 x>1 g:5")
	namesAre(t, "exception A of int val ((a, b as (c :: d : int list)), A e) = 1 val z = (a, b, c, d, e)",
		"a:1 c:2 d:3 b:4 e:5 z:6 a>1 b>4 c>2 d>3 e>5")
	namesAre(t, "val x as (y as z) = 1 val a = (x, y, z)", "z:1 y:2 x:3 a:4 x>3 y>2 z>1")
}

func TestNamesOfLets(t *testing.T) {
	namesAre(t, "val a = let val x = 1 in x end", "a:1 x:2 x>2")
	namesAre(t, "val a = let val x = 1 val x = x val y = x in (x, y) end", "a:1 x:2 x:3 x>2 y:4 x>3 x>3 y>4")
	namesAre(t, "val a = let fun f x = f x in f end", "a:1 x:2 f>3 x>2 f:3 f>3")
	namesAre(t, "val x = 1 val a = let val x = x in x end val b = x", "x:1 a:2 x:3 x>1 x>3 b:4 x>1")
	namesAre(t, "val x = 1 val a = (let val x = 2 in x end, x)", "x:1 a:2 x:3 x>3 x>1")
	namesAre(t, "val x = 1 val a = let val y = let val x = 2 in x end in x end", "x:1 a:2 y:3 x:4 x>4 x>1")
	namesAre(t, "val a = let val x = 1 in let val x = x in x end end", "a:1 x:2 x:3 x>2 x>3")
	namesAre(t, "val a = let val x = 1 fun x y = x val x = x in x end", "a:1 x:2 y:3 x>4 x:4 x:5 x>4 x>5")
	namesAre(t, "val a = let fun x y = x val x = x in x end", "a:1 y:2 x>3 x:3 x:4 x>3 x>4")
	wrongAt(t, "val a = let val x = 1 in x end val b = x", impl.ScUnbound, impl.EVar, "x", 2)
	wrongAt(t, "val a = (let val x = 1 in x end, x)", impl.ScUnbound, impl.EVar, "x", 2)
	wrongAt(t, "val a = (x, let val x = 1 in x end)", impl.ScUnbound, impl.EVar, "x", 1)
	wrongAt(t, "val a = let fun f x = f in f end val b = f", impl.ScUnbound, impl.EVar, "f", 3)
	wrongAt(t, "val a = let val y = let val x = 1 in x end in x end", impl.ScUnbound, impl.EVar, "x", 2)
	wrongAt(t, "val a = let val b = 1 in b end val c = a val d = b", impl.ScUnbound, impl.EVar, "b", 2)
	// What a dec in front of the let binds is not in scope in its own exp, in which the let stands.
	wrongAt(t, "val a = let val x = a in x end", impl.ScUnbound, impl.EVar, "a", 1)
}

func TestNamesOfFuns(t *testing.T) {
	namesAre(t, "fun f x = f", "x:1 f>2 f:2")
	namesAre(t, "fun f x = f and g x = (f, g) and h x = (f, g, h)", "x:1 f>2 f:2 x:3 f>2 g>4 g:4 x:5 f>2 g>4 h>6 h:6")
	namesAre(t, "fun f x = (g, h) and g x = (f, h) and h x = f", "x:1 g>4 h>6 f:2 x:3 f>2 h>6 g:4 x:5 f>2 h:6")
	namesAre(t, "fun f x = g | f y = (f, g) and g z = f", "x:1 g>5 y:2 f>3 g>5 f:3 z:4 f>3 g:5")
	namesAre(t, "fun f x = f fun f y = f val z = f", "x:1 f>2 f:2 y:3 f>4 f:4 z:5 f>4")
	namesAre(t, "val f = 1 fun f x = f val g = f", "f:1 x:2 f>3 f:3 g:4 f>3")
	namesAre(t, "fun f x = 1 val f = f val g = f", "x:1 f:2 f:3 f>2 g:4 f>3")
	namesAre(t, "val a = let fun f x = f and g y = f in (f, g) end", "a:1 x:2 f>3 f:3 y:4 f>3 g:5 f>3 g>5")
	namesAre(t, "fun f x = let fun f y = f in f end val g = f", "x:1 y:2 f>3 f:3 f>3 f:4 g:5 f>4")
	wrongAt(t, "fun f x = g fun g x = f", impl.ScUnbound, impl.EVar, "g", 1)
	wrongAt(t, "val a = f fun f x = x", impl.ScUnbound, impl.EVar, "f", 1)
	wrongAt(t, "val a = let val b = f fun f x = x in f end", impl.ScUnbound, impl.EVar, "f", 1)
}

func TestNamesOfClauses(t *testing.T) {
	namesAre(t, "fun f x y = (x, y) | f y x = (x, y)", "x:1 y:2 x>1 y>2 y:3 x:4 x>4 y>3 f:5")
	namesAre(t, "val x = 1 fun f x = x | f y = x and g z = x", "x:1 x:2 x>2 y:3 x>1 f:4 z:5 x>1 g:6")
	wrongAt(t, "fun f x = x | f y = x", impl.ScUnbound, impl.EVar, "x", 2)
	wrongAt(t, "fun f y = x | f x = x", impl.ScUnbound, impl.EVar, "x", 1)
	wrongAt(t, "fun f x = x and g y = x", impl.ScUnbound, impl.EVar, "x", 2)
	wrongAt(t, "fun f y = x and g x = x", impl.ScUnbound, impl.EVar, "x", 1)
	wrongAt(t, "fun f x = x val a = x", impl.ScUnbound, impl.EVar, "x", 2)
	wrongAt(t, "val a = let fun f x = x in x end", impl.ScUnbound, impl.EVar, "x", 2)
	// A pattern of a fun that has its name, or the name of another fun of the dec.
	namesAre(t, "fun f f = f", "f:1 f>1 f:2")
	namesAre(t, "fun f f = f | f _ = f val a = f", "f:1 f>1 f>2 f:2 a:3 f>2")
	namesAre(t, "fun f g = (f, g) and g f = (f, g)", "g:1 f>2 g>1 f:2 f:3 f>3 g>4 g:4")
	namesAre(t, "fun f (g as _) h = (f, g, h) and g x = (f, g, h) and h x = 1", "g:1 h:2 f>3 g>1 h>2 f:3 x:4 f>3 g>5 h>7 g:5 x:6 h:7")
}

func TestNamesOfRules(t *testing.T) {
	for _, around := range []string{"val a = fn @", "val a = case 0 of @", "val a = 0 handle @"} {
		in := func(rules string) string { return strings.Replace(around, "@", rules, 1) }
		namesAre(t, in("x => x"), "a:1 x:2 x>2")
		namesAre(t, in("x => x | y => y"), "a:1 x:2 x>2 y:3 y>3")
		namesAre(t, in("x => x | x => x"), "a:1 x:2 x>2 x:3 x>3")
		namesAre(t, in("(x, y as z :: _) => (x, y, z)"), "a:1 x:2 z:3 y:4 x>2 y>4 z>3")
		namesAre(t, "val x = 1 "+in("x => x | y => x")+" val b = x", "x:1 a:2 x:3 x>3 y:4 x>1 b:5 x>1")
		namesAre(t, in("x => fn x => x"), "a:1 x:2 x:3 x>3")
		namesAre(t, in("x => (fn x => x, x)"), "a:1 x:2 x:3 x>3 x>2")
		namesAre(t, in("x => let val x = x in x end"), "a:1 x:2 x:3 x>2 x>3")
		wrongAt(t, in("x => x | y => x"), impl.ScUnbound, impl.EVar, "x", 2)
		wrongAt(t, in("y => x | x => x"), impl.ScUnbound, impl.EVar, "x", 1)
		wrongAt(t, in("x => x")+" val b = x", impl.ScUnbound, impl.EVar, "x", 2)
		wrongAt(t, in("x => a"), impl.ScUnbound, impl.EVar, "a", 1)
	}
	wrongAt(t, "val a = case x of x => x", impl.ScUnbound, impl.EVar, "x", 1)
	wrongAt(t, "val a = x handle x => x", impl.ScUnbound, impl.EVar, "x", 1)
	namesAre(t, "val x = 1 val a = case x of x => x", "x:1 a:2 x>1 x:3 x>3")
	namesAre(t, "val x = 1 val a = x handle x => x", "x:1 a:2 x>1 x:3 x>3")
	namesAre(t, "val f = fn x => fn y => (x, y, fn x => x)", "f:1 x:2 y:3 x>2 y>3 x:4 x>4")
}

// An EVar below each kind of exp that binds nothing means what it means beside it.
func TestNamesBelowOtherExps(t *testing.T) {
	for _, exp := range []string{
		"(x, x)", "(x; x)", "x x", "x + x", "~ x", "!x", "if x then x else x", "raise x", "while x do x", "x : int",
		"x andalso x", "x orelse x", "[x, x]", "x := x", "x :: x",
	} {
		for _, n := range resolved(t, "val x = 1 val y = fn x => "+exp) {
			if n.Kind == impl.EVar && n.Num != 3 {
				t.Errorf("%s: %s means %d", exp, n.Text, n.Num)
			}
		}
		wrongAt(t, "val x = "+exp, impl.ScUnbound, impl.EVar, "x", 1)
	}
}
