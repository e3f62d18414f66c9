package tests

import (
	"strings"
	"testing"

	"loop.example/s02665/impl"
)

// Each kind of exp that is plain: what it binds can be used with several types.
func TestGeneralPlainExps(t *testing.T) {
	front := "datatype 'a opt = None | Some of 'a fun id x = x "
	for _, c := range [][2]string{
		{"nil", "'a list"},
		{"None", "'a opt"},
		{"id", "'a -> 'a"},
		{"ref", "'a -> 'a ref"},
		{"Some", "'a -> 'a opt"},
		{"op ::", "'a * 'a list -> 'a list"},
		{"fn x => x", "'a -> 'a"},
		{"fn x => ref x", "'a -> 'a ref"},
		{"fn x => raise x", "exn -> 'a"},
		{"fn 1 => nil | _ => nil", "int -> 'a list"},
		{"(nil, nil)", "'a list * 'b list"},
		{"(1, nil, \"\", id)", "int * 'a list * string * ('b -> 'b)"},
		{"((nil, 1), fn x => x)", "('a list * int) * ('b -> 'b)"},
		{"Some nil", "'a list opt"},
		{"Some (Some nil)", "'a list opt opt"},
		{"[nil, nil]", "'a list list"},
		{"[fn x => x]", "('a -> 'a) list"},
		{"nil : 'a list", "'a list"},
		{"(fn x => x) : 'a -> 'b", "'a -> 'a"},
		{"Some (nil : 'a)", "'a list opt"},
		{"(Some (nil, 1) : 'a, id)", "('a list * int) opt * ('b -> 'b)"},
	} {
		schemesAre(t, front+"val a = "+c[0], "a", c[1])
		if strings.Contains(c[0], "'") {
			continue
		}
		schemesAre(t, front+"val a = ("+c[0]+", "+c[0]+") val b = a", "b", "("+c[1]+") * ("+strings.NewReplacer("'a", "'y", "'b", "'z").Replace(c[1])+")")
	}
	// Where there is nothing open, nothing is generalised.
	bindersAre(t, "val a = 1 val b = \"\" val c = () val d = (1, true) val e = fn x => x + 1 val f = [1]",
		"a: int", "b: string", "c: ()", "d: (int, bool)", "e: [int, int]", "x: int", "f: list(int)")
}

// Exps that are not plain: an unknown stays one, and can be told once.
func TestGeneralOtherExps(t *testing.T) {
	front := "datatype 'a opt = None | Some of 'a fun id x = x val some = Some "
	for _, c := range [][2]string{
		{"id nil", "unit list"},
		{"ref nil", "unit list ref"},
		{"some nil", "unit list opt"},
		{"(Some : 'a list -> 'a list opt) nil", "unit list opt"},
		{"Some (id nil)", "unit list opt"},
		{"(nil, id nil)", "unit list * unit list"},
		{"((id nil, 1), nil)", "(unit list * int) * unit list"},
		{"id nil : 'a list", "unit list"},
		{"(fn x => x) (fn x => x)", "unit -> unit"},
		{"if true then nil else nil", "unit list"},
		{"case 1 of _ => nil", "unit list"},
		{"let val x = nil in x end", "unit list"},
		{"(1; nil)", "unit list"},
		{"raise Div", "unit"},
		{"nil handle _ => nil", "unit list"},
		{"!(ref nil)", "unit list"},
		{"[id nil]", "unit list list"},
		{"nil :: id nil", "unit list list"},
	} {
		schemesAre(t, front+"val a = "+c[0], "a", c[1])
		schemesAre(t, front+"val a = "+c[0]+" val b = a", "a", c[1], "b", c[1])
	}
	for _, exp := range []string{"id nil", "!(ref nil)", "if true then nil else nil", "case 1 of _ => nil", "let val x = nil in x end", "(1; nil)", "nil handle _ => nil", "raise Div", "id (nil : 'a list)", "id nil : 'a list"} {
		schemesAre(t, front+"val a = "+exp+" val b = [1] = a", "a", "int list")
		clashAt(t, front+"val a = "+exp+" val b = ([1] = a, [true] = a)", impl.EBin, "=", 2)
	}
	// Operators give nothing open but by their kids; they are no plain exps all the same.
	bindersAre(t, "val a = 1 + 1 val b = true andalso false val c = not true val d = while false do nil", "a: int", "b: bool", "c: bool", "d: ()")
}

// Patterns other than a PVar are not generalised, whatever the exp is.
func TestGeneralOtherPatterns(t *testing.T) {
	bindersAre(t, "val (a, b) = (nil, fn x => x)", "a: list(())", "b: [(), ()]", "x: ()")
	bindersAre(t, "val a as b = nil", "b: list(())", "a: list(())")
	bindersAre(t, "val (a : 'a list) = nil", "a: list(())")
	bindersAre(t, "val a : 'a = nil", "a: list(())")
	bindersAre(t, "val [a] = [nil]", "a: list(())")
	bindersAre(t, "val (a, _) = (nil, 1) val b = [1] = a", "a: list(int)", "b: bool")
	bindersAre(t, "val _ = nil")
	bindersAre(t, "datatype 'a t = A of 'a val A f = A (fn x => x) val b = f 1", "f: [int, int]", "x: int", "b: int")
	clashAt(t, "val (f, g) = (fn x => x, 1) val a = (f 1, f true)", impl.EApp, "", 2)
	clashAt(t, "val f as g = fn x => x val a = (f 1, g true)", impl.EApp, "", 2)
	clashAt(t, "val (f : 'a -> 'a) = fn x => x val a = (f 1, f true)", impl.EApp, "", 2)
	clashAt(t, "val f = fn x => x val (g as h) = f val a = (f 1, f true, g 1, h true)", impl.EApp, "", 4)
	// Those of functions and rules have one type inside.
	clashAt(t, "fun f g = (g 1, g true)", impl.EApp, "", 2)
	clashAt(t, "val a = case fn x => x of g => (g 1, g true)", impl.EApp, "", 2)
	clashAt(t, "val a = (fn g => (g 1, g true)) (fn x => x)", impl.EApp, "", 2)
	clashAt(t, "val a = raise Div handle g => (g 1, g true)", impl.EApp, "", 2)
}

func TestGeneralFuns(t *testing.T) {
	bindersAre(t, "fun f x = x", "x: #1", "f 1 from 1: [#1, #1]")
	bindersAre(t, "fun f x y = y", "x: #1", "y: #2", "f 2 from 1: [#1, [#2, #2]]")
	bindersAre(t, "fun f (x, y) z = (z, y)", "x: #1", "y: #2", "z: #3", "f 3 from 1: [(#1, #2), [#3, (#3, #2)]]")
	bindersAre(t, "fun f g x = g x", "g: [#1, #2]", "x: #1", "f 2 from 1: [[#1, #2], [#1, #2]]")
	bindersAre(t, "fun f x = 1", "x: #1", "f 1 from 1: [#1, int]")
	bindersAre(t, "fun f 1 = 1", "f: [int, int]")
	bindersAre(t, "fun f x = ref x", "x: #1", "f 1 from 1: [#1, ref(#1)]")
	bindersAre(t, "fun f x = raise x", "x: exn", "f 1 from 1: [exn, #1]")
	// Several functions have one list of variables for all, in the order of their types.
	bindersAre(t, "fun f x = 1 and g y = 2 and h (z, w) = w", "x: #1", "f 4 from 1: [#1, int]", "y: #2", "g 4 from 1: [#2, int]", "z: #3", "w: #4", "h 4 from 1: [(#3, #4), #4]")
	bindersAre(t, "fun f x = g x and g y = (f y; y)", "x: #1", "f 1 from 1: [#1, #1]", "y: #1", "g 1 from 1: [#1, #1]")
	bindersAre(t, "fun f x = g true and g y = f 1", "x: int", "f 1 from 1: [int, #1]", "y: bool", "g 1 from 1: [bool, #1]")
	bindersAre(t, "fun f x = x + 1 and g y = f y", "x: int", "f: [int, int]", "y: int", "g: [int, int]")
	bindersAre(t, "fun f x = x + 1 and g y = y", "x: int", "f 1 from 1: [int, int]", "y: #1", "g 1 from 1: [#1, #1]")
	bindersAre(t, "fun f x y = h (y, x) and h (a, b) = (b, a)", "x: #1", "y: #2", "f 2 from 1: [#1, [#2, (#1, #2)]]", "a: #2", "b: #1", "h 2 from 1: [(#2, #1), (#1, #2)]")
	// Inside of it a function has one type, behind it as many as are asked for.
	clashAt(t, "fun f x = (f 1, f true)", impl.EApp, "", 2)
	clashAt(t, "fun f x = x and g y = (f 1, f true)", impl.EApp, "", 2)
	clashAt(t, "fun g y = (f 1, f true) and f x = x", impl.EApp, "", 2)
	bindersAre(t, "fun f x = x fun g y = (f 1, f true)", "x: #1", "f 1 from 1: [#1, #1]", "y: #2", "g 1 from 2: [#2, (int, bool)]")
	bindersAre(t, "fun len nil = 0 | len (_ :: xs) = 1 + len xs val a = (len [1], len [true])", "xs: list(#1)", "len 1 from 1: [list(#1), int]", "a: (int, int)")
	bindersAre(t, "fun f x = x val f = f val a = (f 1, f true)", "x: #1", "f 1 from 1: [#1, #1]", "f 1 from 2: [#2, #2]", "a: (int, bool)")
}

// Variables are numbered from 1 on, none twice, in the order in which decs end.
func TestGeneralNumbers(t *testing.T) {
	bindersAre(t, "fun f x = x val a = nil fun g x y = x val b = 1 val c = (nil, nil)",
		"x: #1", "f 1 from 1: [#1, #1]", "a 1 from 2: list(#2)", "x: #3", "y: #4", "g 2 from 3: [#3, [#4, #3]]", "b: int", "c 2 from 5: (list(#5), list(#6))")
	bindersAre(t, "fun f x = let fun g y = let fun h z = z in y end in x end", "x: #3", "y: #2", "z: #1", "h 1 from 1: [#1, #1]", "g 1 from 2: [#2, #2]", "f 1 from 3: [#3, #3]")
	bindersAre(t, "fun f x = let val a = nil val b = nil in (x, a, b) end",
		"x: #3", "a 1 from 1: list(#1)", "b 1 from 2: list(#2)", "f 3 from 3: [#3, (#3, list(#4), list(#5))]")
	// In the order in which they first stand in a type: of a list that has a node's kids in front of it.
	bindersAre(t, "fun f a b c d = (d, (c, a), [b])", "a: #1", "b: #2", "c: #3", "d: #4", "f 4 from 1: [#1, [#2, [#3, [#4, (#4, (#3, #1), list(#2))]]]]")
	bindersAre(t, "datatype ('a, 'b) t = T of 'b * 'a fun f (T (x, y)) = x", "x: #2", "y: #1", "f 2 from 1: [t(#1, #2), #2]")
	bindersAre(t, "val p = fn x => (fn y => (x, y))", "p 2 from 1: [#1, [#2, (#1, #2)]]", "x: #1", "y: #2")
}

// What stands in the type of a binder in scope that has not been generalised stays as it is.
func TestGeneralKept(t *testing.T) {
	bindersAre(t, "fun o x = let fun k y = (x, y) in (k 1, k true) end", "x: #2", "y: #1", "k 1 from 1: [#1, (#2, #1)]", "o 1 from 2: [#2, ((#2, int), (#2, bool))]")
	bindersAre(t, "fun o x = let val k = fn y => (x, y) in (k 1, k true) end", "x: #2", "k 1 from 1: [#1, (#2, #1)]", "y: #1", "o 1 from 2: [#2, ((#2, int), (#2, bool))]")
	bindersAre(t, "fun o x = let val y = x in y end", "x: #1", "y: #1", "o 1 from 1: [#1, #1]")
	bindersAre(t, "fun o x = let val y = x in y + 1 end", "x: int", "y: int", "o: [int, int]")
	clashAt(t, "fun o x = let val y = x in (y 1, y true) end", impl.EApp, "", 2)
	clashAt(t, "fun o x = let fun k y = [x, y] in (k 1, k true) end", impl.EApp, "", 4)
	clashAt(t, "fun o x = let fun k y = x y in (k 1, k true) end", impl.EApp, "", 3)
	clashAt(t, "val o = fn (x, _) => let fun k y = x = y in (k 1, k true) end", impl.EApp, "", 2)
	clashAt(t, "fun o z = case z of (x, _) => let fun k y = x = y in (k 1, k true) end", impl.EApp, "", 2)
	clashAt(t, "val a = raise Div handle x => let fun k y = x = y in (k Div, k 1) end", impl.EApp, "", 2)
	clashAt(t, "fun o (x as _ :: _) = let fun k y = [y] = x in (k 1, k true) end", impl.EApp, "", 3)
	// The function that it is in, and those beside it.
	clashAt(t, "fun o x = let fun k y = o y in (k 1, k true) end", impl.EApp, "", 3)
	clashAt(t, "fun o x = let fun k y = p y in (k 1, k true) end and p z = z", impl.EApp, "", 3)
	clashAt(t, "fun p z = z and o x = let fun k y = p y in (k 1, k true) end", impl.EApp, "", 3)
	// By way of what is known of it only inside.
	bindersAre(t, "fun o x = let fun k y = (x = [y], y) in k end", "x: list(#1)", "y: #1", "k: [#1, (bool, #1)]", "o 1 from 1: [list(#1), [#1, (bool, #1)]]")
	clashAt(t, "fun o x = let fun k y = x = [y] in (k 1, k true) end", impl.EApp, "", 3)
	// A val that was not generalised, in the program and in a let.
	bindersAre(t, "val r = ref nil fun f x = (r := [x], x)", "r: ref(list(()))", "x: ()", "f: [(), ((), ())]")
	bindersAre(t, "val r = ref nil fun f x y = (r := [x], y) val a = f 1 true", "r: ref(list(int))", "x: int", "y: #1", "f 1 from 1: [int, [#1, ((), #1)]]", "a: ((), bool)")
	bindersAre(t, "fun o () = let val r = ref nil fun f x y = (r := [x], y) in (f, r) end",
		"r: ref(list(#2))", "x: #2", "y: #1", "f 1 from 1: [#2, [#1, ((), #1)]]", "o 2 from 2: [(), ([#2, [#3, ((), #3)]], ref(list(#2)))]")
	clashAt(t, "val r = ref nil fun f x = r := [x] val a = (f 1, f true)", impl.EApp, "", 4)
	clashAt(t, "val a = let val r = ref nil fun f x = r := [x] in (f 1, f true) end", impl.EApp, "", 4)
	clashAt(t, "val a = let val r = ref nil in let fun f x = r := [x] in (f 1, f true) end end", impl.EApp, "", 4)
	clashAt(t, "val (q, _) = (ref nil, 1) fun f x = q := [x] val a = (f 1, f true)", impl.EApp, "", 4)
	// One that is hidden by another with its name is in scope still.
	bindersAre(t, "val r = ref nil val s = fn x => r := x val r = 1 val a = (s [1], r + 1)", "r: ref(list(int))", "s: [list(int), ()]", "x: list(int)", "r: int", "a: ((), int)")
	clashAt(t, "val r = ref nil val s = fn x => r := [x] val r = 1 fun f y = s y val a = (f 1, f true)", impl.EApp, "", 5)
	// One that was generalised counts for nothing, but for what it keeps of others.
	bindersAre(t, "val n = nil fun f x = x :: n val a = (f 1, f true)", "n 1 from 1: list(#1)", "x: #2", "f 1 from 2: [#2, list(#2)]", "a: (list(int), list(bool))")
	clashAt(t, "fun o x = let val k = fn y => x = y val j = fn z => k z in (j 1, j true) end", impl.EApp, "", 3)
	bindersAre(t, "fun o x = let val k = fn y => (x, y) fun j z = k z in (j 1, j true) end",
		"x: #3", "k 1 from 1: [#1, (#3, #1)]", "y: #1", "z: #2", "j 1 from 2: [#2, (#3, #2)]", "o 1 from 3: [#3, ((#3, int), (#3, bool))]")
}

// Binders that are out of scope keep nothing.
func TestGeneralOutOfScope(t *testing.T) {
	schemesAre(t, "val a = ((fn x => x) 1, let fun k y = y in (k 1, k true) end)", "a", "int * (int * bool)")
	schemesAre(t, "fun f (x, 1) = x | f (y, _) = let fun k z = z in (k (); k y) end", "f", "'a * int -> 'a")
	schemesAre(t, "fun f x = let val u = (let val r = ref nil in r := [1] end) fun k y = y in (k 1, k true) end", "f", "'a -> int * bool")
	bindersAre(t, "fun f x = let val r = ref nil in x end", "x: #1", "r: ref(list(()))", "f 1 from 1: [#1, #1]")
}

// Decs inside of decs: in fn, in rules and in clauses.
func TestGeneralInside(t *testing.T) {
	for _, c := range []struct{ front, behind string }{
		{"val a = ", ""},
		{"fun a () = ", ""},
		{"fun a 1 = (0, 0) | a _ = let val (x, y) = ", " in (size \"\", 0) end"},
		{"val a = fn z => ", ""},
		{"val a = fn 1 => (0, true) | z => ", ""},
		{"fun a z = case z of 1 => (0, true) | w => ", ""},
		{"fun a z = (0, true) handle _ => ", ""},
		{"fun a z = if z then (0, true) else ", ""},
		{"val a = (1; ", ")"},
		{"val (a, b) = ", ""},
		{"val a = let val u = 1 in ", " end"},
		{"val a = let val u = ", " in u end"},
		{"val a = let fun u z = ", " in u 1 end"},
	} {
		for _, dec := range []string{"fun k y = y", "val k = fn y => y", "fun k y = y and j z = (k z; z)", "val j = fn y => y val k = j"} {
			typesFound(t, c.front+"let "+dec+" in (k 1, k true) end"+c.behind)
		}
		for _, dec := range []string{"val k = (fn y => y) (fn y => y)", "val (k, j) = (fn y => y, 1)", "fun k (y : 'a) = y"} {
			program := resolved(t, c.front+"let "+dec+" in (k 1, k true) end"+c.behind)
			if typed := checkInfer(t, program); typed.Code != impl.TyClash || program[typed.Node].Kind != impl.EApp {
				t.Errorf("%s%s%s: %s", c.front, dec, c.behind, typedShown(typed))
			}
		}
	}
}
