package tests

import (
	"strings"
	"testing"

	"loop.example/s02665/impl"
)

const nodesFront = "datatype 'a opt = None | Some of 'a datatype ('a, 'b) two = Two of 'b * 'a | No datatype t = A | B of int * t exception Stop exception Num of int "

func TestTypesOfPatterns(t *testing.T) {
	for _, c := range [][2]string{
		{"_", "'a"},
		{"x", "'a"},
		{"1", "int"},
		{"~9223372036854775808", "int"},
		{`"s"`, "string"},
		{`""`, "string"},
		{"()", "unit"},
		{"(x, y)", "'a * 'b"},
		{"(x, 1, _, \"\")", "'a * int * 'b * string"},
		{"((1, x), (y, true))", "(int * 'a) * ('b * bool)"},
		{"true", "bool"},
		{"false", "bool"},
		{"nil", "'a list"},
		{"(x :: y)", "'a list"},
		{"[1, x]", "int list"},
		{"[x, [y]]", "'a list list"},
		{"(x as y)", "'a"},
		{"(x as (1, y))", "int * 'a"},
		{"(x as y as nil)", "'a list"},
		{"(x : int)", "int"},
		{"(_ : 'b)", "'a"},
		{"(x : int, y : 'a, z : 'a)", "int * 'b * 'b"},
		{"((x, y) : 'a)", "'b * 'c"},
		{"((x, y) : 'a * int)", "'b * int"},
		{"Match", "exn"},
		{"Stop", "exn"},
		{"(Num x)", "exn"},
		{"(Num 1, Div)", "exn * exn"},
		{"None", "'a opt"},
		{"(Some x)", "'a opt"},
		{"(Some (Some 1))", "int opt opt"},
		{"(Some (None, None))", "('a opt * 'b opt) opt"},
		{"No", "('a, 'b) two"},
		{"(Two (x, 1))", "(int, 'a) two"},
		{"(Two x)", "('a, 'b) two"},
		{"A", "t"},
		{"(B (1, B (_, x)))", "t"},
	} {
		schemesAre(t, nodesFront+"fun f "+c[0]+" = 0", "f", "("+c[1]+") -> int")
		schemesAre(t, nodesFront+"val f = fn "+c[0]+" => 0", "f", "("+c[1]+") -> int")
		schemesAre(t, nodesFront+"fun f z = case z of "+c[0]+" => 0", "f", "("+c[1]+") -> int")
	}
}

// What a pattern's binders have when its type becomes known.
func TestTypesOfBindersInPatterns(t *testing.T) {
	bindersAre(t, "val x as (y, z :: _) = (1, [true])", "y: int", "z: bool", "x: (int, list(bool))")
	bindersAre(t, nodesFront+"val Two (x, y) = Two (1, \"\") val Some z = Some [x] val Num n = Num 3",
		"x: int", "y: string", "z: list(int)", "n: int")
	bindersAre(t, nodesFront+"fun f (Two (x, y)) = (y, x) | f (z as No) = raise Stop",
		"x: #2", "y: #1", "z: two(#1, #2)", "f 2 from 1: [two(#1, #2), (#1, #2)]")
	bindersAre(t, "val ((a, b), c : int, (d, ())) = (((1, true), 2, (\"\", ())))", "a: int", "b: bool", "c: int", "d: string")
	bindersAre(t, "val g = fn b => fn c => (b, c)", "g 2 from 1: [#1, [#2, (#1, #2)]]", "b: #1", "c: #2")
}

func TestTypesOfExps(t *testing.T) {
	for _, c := range [][2]string{
		{"1", "int"},
		{`"s"`, "string"},
		{"()", "unit"},
		{"(1, \"\")", "int * string"},
		{"(1, (), (true, nil))", "int * unit * (bool * 'a list)"},
		{"true", "bool"},
		{"nil", "'a list"},
		{"op ::", "'a * 'a list -> 'a list"},
		{"1 :: nil", "int list"},
		{"[[], [1]]", "int list list"},
		{"Stop", "exn"},
		{"Num", "int -> exn"},
		{"Num 1", "exn"},
		{"None", "'a opt"},
		{"Some", "'a -> 'a opt"},
		{"Some None", "'a opt opt"},
		{"No", "('a, 'b) two"},
		{"Two", "'a * 'b -> ('b, 'a) two"},
		{"Two (1, true)", "(bool, int) two"},
		{"(A, B)", "t * (int * t -> t)"},
		{"fn x => x", "'a -> 'a"},
		{"fn x => 1", "'a -> int"},
		{"fn 1 => true | x => false", "int -> bool"},
		{"fn (x, y) => x | (z, 1) => z", "'a * int -> 'a"},
		{"fn nil => None | x :: _ => Some x", "'a list -> 'a opt"},
		{"fn f => fn x => f (f x)", "('a -> 'a) -> 'a -> 'a"},
		{"fn f => f 1", "(int -> 'a) -> 'a"},
		{"(fn x => (x, x)) 1", "int * int"},
		{"fn x => x + 1", "int -> int"},
		{"1 - 2 * 3 / 4 % 5", "int"},
		{"fn x => fn y => (x < y, x <= 1, 1 > y, x >= y)", "int -> int -> bool * bool * bool * bool"},
		{"fn x => fn y => (x = y, x <> y)", "'a -> 'a -> bool * bool"},
		{"fn x => x = nil", "'a list -> bool"},
		{"fn x => fn y => x ^ y", "string -> string -> string"},
		{"fn x => fn y => x := y", "'a ref -> 'a -> unit"},
		{"fn x => ~ x", "int -> int"},
		{"fn x => !x", "'a ref -> 'a"},
		{"fn x => !(!x)", "'a ref ref -> 'a"},
		{"fn x => fn y => fn z => if x then y else z", "bool -> 'a -> 'a -> 'a"},
		{"if true then nil else [1]", "int list"},
		{"case 1 of 2 => true | _ => false", "bool"},
		{"fn x => case x of (y, 1) => y | (z, w) => z", "'a * int -> 'a"},
		{"case nil of nil => nil | x :: y => y", "'a list"},
		{"let val x = 1 in x end", "int"},
		{"let val x = 1 val y = (x, x) in (y, x) end", "(int * int) * int"},
		{"let fun f x = x in (f, f 1) end", "('a -> 'a) * int"},
		{"(1; true; \"\")", "string"},
		{"fn x => (x; x)", "'a -> 'a"},
		{"raise Stop", "'a"},
		{"fn x => raise x", "exn -> 'a"},
		{"raise raise Stop", "'a"},
		{"1 handle Stop => 2", "int"},
		{"nil handle Num 1 => [true] | Div => nil | x => raise x", "bool list"},
		{"(raise Stop) handle x => x", "exn"},
		{"fn x => while x do x", "bool -> unit"},
		{"while true do 1", "unit"},
		{"1 : int", "int"},
		{"nil : int list", "int list"},
		{"fn x => (x : 'a)", "'a -> 'a"},
		{"(fn x => x) : 'a -> 'b", "'a -> 'a"},
		{"fn x => fn y => (x andalso y, x orelse y)", "bool -> bool -> bool * bool"},
	} {
		schemesAre(t, nodesFront+"fun f () = "+c[0], "f", "unit -> ("+c[1]+")")
	}
}

func TestTypesOfGivenValues(t *testing.T) {
	for _, c := range [][3]string{
		{"print", "string -> unit", "1"},
		{"size", "string -> int", "1"},
		{"sub", "string * int -> int", "(1, 1)"},
		{"cut", "string * int * int -> string", `("", 1)`},
		{"chr", "int -> string", `""`},
		{"show", "int -> string", "true"},
		{"not", "bool -> bool", "0"},
		{"ref", "'a -> 'a ref", ""},
	} {
		schemesAre(t, "val f = "+c[0], "f", c[1])
		schemesAre(t, "fun f () = "+c[0], "f", "unit -> "+c[1])
		if c[2] != "" {
			clashAt(t, "val a = "+c[0]+" "+c[2], impl.EApp, "", 1)
		}
		clashAt(t, "val a = "+c[0]+" + 1", impl.EBin, "+", 1)
		// A binder with such a name has nothing to do with it.
		schemesAre(t, "fun "+c[0]+" x = [x] val f = "+c[0], "f", "'a -> 'a list")
	}
	schemesAre(t, `val a = (print "", size "", sub ("", 1), cut ("", 1, 2), chr 1, show 1, not true, ref 1)`, "a",
		"unit * int * int * string * string * string * bool * int ref")
	clashAt(t, `val a = cut ("", 1, true)`, impl.EApp, "", 1)
	clashAt(t, `val a = sub ("", "")`, impl.EApp, "", 1)
	clashAt(t, "val a = (ref 1, !(ref 1) ^ \"\")", impl.EBin, "^", 1)
	schemesAre(t, "val a = (ref 1, ref true, ref ref)", "a", "int ref * bool ref * (unit -> unit ref) ref")
	schemesAre(t, "val r = ref val a = (r 1, r true)", "a", "int ref * bool ref")
	schemesAre(t, "fun f x = (ref x, ref [x])", "f", "'a -> 'a ref * 'a list ref")
	clashAt(t, "fun f r = (r 1, r true) val a = f ref", impl.EApp, "", 2)
}

// Each equation of each kind of node, left and right, that does not hold.
func TestTypesClashAtEachEquation(t *testing.T) {
	for _, c := range []struct {
		exp   string
		kind  int
		text  string
		which int
	}{
		{"case Some true of Some 1 => 1 | _ => 1", impl.ECase, "", 1},
		{"fn Num true => 1", impl.PCon, "Num", 1},
		{"fn (true :: 1 :: nil) => 1", impl.PCon, "::", 2},
		{"fn B (1, A, A) => 1", impl.PCon, "B", 1},
		{"fn B 1 => 1", impl.PCon, "B", 1},
		{"fn (1 : bool) => 1", impl.PType, "", 1},
		{"fn ((x, y) : int) => 1", impl.PType, "", 1},
		{"fn ((x, 1) : 'a * 'a, (\"\" : 'a)) => 1", impl.PType, "", 2},
		{"fn 1 => 1 | true => 1", impl.EFn, "", 1},
		{"fn 1 => 1 | 2 => true", impl.EFn, "", 1},
		{"1 2", impl.EApp, "", 1},
		{"size 2", impl.EApp, "", 1},
		{"(fn (x, y) => x) (1, 2, 3)", impl.EApp, "", 1},
		{"B 1", impl.EApp, "", 1},
		{"Stop 1", impl.EApp, "", 1},
		{"true + 1", impl.EBin, "+", 1},
		{"1 + true", impl.EBin, "+", 1},
		{`"" - 1`, impl.EBin, "-", 1},
		{`1 - ""`, impl.EBin, "-", 1},
		{"() * 1", impl.EBin, "*", 1},
		{"1 * ()", impl.EBin, "*", 1},
		{"nil / 1", impl.EBin, "/", 1},
		{"1 / nil", impl.EBin, "/", 1},
		{"Stop % 1", impl.EBin, "%", 1},
		{"1 % Stop", impl.EBin, "%", 1},
		{"true < 1", impl.EBin, "<", 1},
		{"1 < true", impl.EBin, "<", 1},
		{`"" <= 1`, impl.EBin, "<=", 1},
		{`1 <= ""`, impl.EBin, "<=", 1},
		{`"a" > "b"`, impl.EBin, ">", 1},
		{"1 > ref 1", impl.EBin, ">", 1},
		{"(1, 1) >= 1", impl.EBin, ">=", 1},
		{"1 >= (1, 1)", impl.EBin, ">=", 1},
		{"1 = true", impl.EBin, "=", 1},
		{"nil = (1, 1)", impl.EBin, "=", 1},
		{`"" <> 1`, impl.EBin, "<>", 1},
		{"[1] <> [[]]", impl.EBin, "<>", 1},
		{`1 ^ ""`, impl.EBin, "^", 1},
		{`"" ^ 1`, impl.EBin, "^", 1},
		{"1 := 1", impl.EBin, ":=", 1},
		{"ref 1 := true", impl.EBin, ":=", 1},
		{"ref 1 := ref 1", impl.EBin, ":=", 1},
		{"~ true", impl.EUn, "~", 1},
		{"!1", impl.EUn, "!", 1},
		{"!(1, ref 1)", impl.EUn, "!", 1},
		{"if 1 then 2 else 3", impl.EIf, "", 1},
		{"if true then 2 else true", impl.EIf, "", 1},
		{"if true then \"\" else 3", impl.EIf, "", 1},
		{"case 1 of true => 1", impl.ECase, "", 1},
		{"case 1 of 1 => 1 | 2 => true", impl.ECase, "", 1},
		{"1 handle Stop => true", impl.EHandle, "", 1},
		{"1 handle 1 => 1", impl.EHandle, "", 1},
		{"raise 1", impl.ERaise, "", 1},
		{"raise Num", impl.ERaise, "", 1},
		{"while 1 do 2", impl.EWhile, "", 1},
		{"1 : bool", impl.EType, "", 1},
		{"(1, true) : 'a * 'a", impl.EType, "", 1},
		{"1 andalso true", impl.EAnd, "", 1},
		{"true andalso 1", impl.EAnd, "", 1},
		{"\"\" orelse true", impl.EOr, "", 1},
		{"true orelse \"\"", impl.EOr, "", 1},
		{"let val 1 = true in 1 end", impl.DVal, "", 1},
		{"let val (x, y) = 1 in 1 end", impl.DVal, "", 1},
		{"let fun g 1 = 2 | g true = 3 in 1 end", impl.FBind, "g", 1},
		{"let fun g 1 = 2 | g 2 = true in 1 end", impl.FBind, "g", 1},
		{"let fun g x = g in 1 end", impl.FBind, "g", 1},
	} {
		clashAt(t, nodesFront+"val a = "+c.exp, c.kind, c.text, c.which)
		clashAt(t, nodesFront+"fun f () = ("+c.exp+", 1 + 1)", c.kind, c.text, c.which)
		clashAt(t, nodesFront+"fun f () = let val (x, y) = (0, "+c.exp+") in y end", c.kind, c.text, c.which)
	}
}

// The same nodes with their equations held: no clash where nothing is wrong.
func TestTypesEquationsHeld(t *testing.T) {
	for _, exp := range []string{
		"case Some 2 of Some 1 => 1 | _ => 1", "fn Num 3 => 1", "fn (true :: false :: nil) => 1", "fn B (1, A) => 1", "fn B x => 1", "fn (1 : int) => 1",
		"fn ((x, y) : int * 'a) => 1", "fn 1 => 1 | 2 => 1", "size \"\"", "(fn (x, y) => x) (1, 2)", "B (1, A)", "1 + 1", "1 - 1", "1 * 1", "1 / 1", "1 % 1",
		"1 < 2", "1 <= 2", "1 > 2", "1 >= 2", "1 = 2", "nil = [1]", "\"\" <> \"\"", "[[1]] <> [[]]", "\"\" ^ \"\"", "ref 1 := 1", "ref (ref 1) := ref 1", "~ 1", "!(ref 1)",
		"if true then 2 else 3", "case 1 of 1 => 1", "1 handle Stop => 2", "1 handle x => 1", "raise Num 1", "while true do 2", "1 : int", "(1, 2) : 'a * 'a",
		"true andalso true", "false orelse true", "let val 1 = 2 in 1 end", "let val (x, y) = (1, 2) in 1 end", "let fun f 1 = 2 | f 2 = 3 in 1 end",
	} {
		typesFound(t, nodesFront+"val a = "+exp)
		typesFound(t, nodesFront+"fun f () = "+exp)
	}
}

// Of rules and clauses the first, one in the middle or the last is wrong.
func TestTypesClashInMatches(t *testing.T) {
	for k := range 5 {
		pats, exps := []string{"1", "2", "3", "4", "_"}, []string{"1", "2", "3", "4", "5"}
		pats[k] = "true"
		for range 2 {
			rules, clauses := []string{}, []string{}
			for i, pat := range pats {
				rules = append(rules, pat+" => "+exps[i])
				clauses = append(clauses, "f "+pat+" = "+exps[i])
			}
			all := strings.Join(rules, " | ")
			clashAt(t, "val a = fn "+all, impl.EFn, "", 1)
			clashAt(t, "val a = case 1 of "+all, impl.ECase, "", 1)
			clashAt(t, "fun "+strings.Join(clauses, " | "), impl.FBind, "f", 1)
			clashAt(t, "fun "+strings.Join(clauses, " | ")+" and g x = g", impl.FBind, "f", 1)
			pats, exps = []string{"1", "2", "3", "4", "_"}, []string{"1", "2", "3", "4", "5"}
			exps[k] = "true"
		}
		exns := []string{"Div => 1", "Match => 2", "Size => 3", "Chr => 4", "_ => 5"}
		right := strings.Join(exns, " | ")
		typesFound(t, "val a = 1 handle "+right)
		exns[k] = "Bind => true"
		clashAt(t, "val a = 1 handle "+strings.Join(exns, " | "), impl.EHandle, "", 1)
		exns[k] = "1 => 1"
		clashAt(t, "val a = 1 handle "+strings.Join(exns, " | "), impl.EHandle, "", 1)
	}
	clashAt(t, "fun f 1 2 = 3 | f 1 true = 3", impl.FBind, "f", 1)
	clashAt(t, "fun f 1 2 = 3 | f true 2 = 3", impl.FBind, "f", 1)
	schemesAre(t, "fun f x 2 = 3 | f 1 x = 3 | f x y = x + y", "f", "int -> int -> int")
}

// The first node in the order of the list is told, where several are wrong.
func TestTypesFirstClash(t *testing.T) {
	clashAt(t, "val a = 1 + true val b = 1 1", impl.EBin, "+", 1)
	clashAt(t, "val b = 1 1 val a = 1 + true", impl.EApp, "", 1)
	clashAt(t, "val a = (1 1, true true, 2 2)", impl.EApp, "", 1)
	clashAt(t, "val a = (fn x => x x) (1 + true)", impl.EApp, "", 1)
	clashAt(t, "val a = (if 1 then 2 + true else 3)", impl.EBin, "+", 1)
	clashAt(t, "val (x : int, 1 : bool) = (true + 1)", impl.PType, "", 2)
	clashAt(t, "fun f x = x + true and g y = y y", impl.EBin, "+", 1)
	clashAt(t, "fun f x = let val y = x 1 in x true end val z = 1 1", impl.EApp, "", 2)
	// The kids of a node may go together with each other only, or with what comes later.
	clashAt(t, "val f = fn x => (x + 1, x ^ \"\")", impl.EBin, "^", 1)
	clashAt(t, "val f = fn x => (x ^ \"\", x + 1)", impl.EBin, "+", 1)
	clashAt(t, "val f = fn g => (g 1, g true)", impl.EApp, "", 2)
	clashAt(t, "fun f x = (f 1, f true, x)", impl.EApp, "", 2)
	clashAt(t, "fun f x = f 1 + f true", impl.EApp, "", 2)
	clashAt(t, "fun f x = if x = 1 then f true else 2", impl.FBind, "f", 1)
	clashAt(t, "fun f x = (x : bool) and g y = f 1", impl.EApp, "", 1)
	clashAt(t, "fun g y = f 1 and f x = (x : bool)", impl.FBind, "f", 1)
	clashAt(t, "fun g y = f 1 and h y = f true and f x = 2", impl.EApp, "", 2)
	clashAt(t, "val x = ref nil val y = (x := [1]; x := [true])", impl.EBin, ":=", 2)
}

// A case's exp and its rules are put together at the ECase, not before.
func TestTypesOrderOfEquations(t *testing.T) {
	clashAt(t, "val a = case 1 of x => x ^ \"\"", impl.ECase, "", 1)
	clashAt(t, "fun f x = case x of y => (y + 1, x ^ \"\")", impl.ECase, "", 1)
	clashAt(t, "val a = (fn x => x ^ \"\") 1", impl.EApp, "", 1)
	clashAt(t, "val a = 1 handle x => x + 1", impl.EHandle, "", 1)
	clashAt(t, "val a = let val x = 1 in x ^ \"\" end", impl.EBin, "^", 1)
	clashAt(t, "fun f x = 1 + f true and g x = f 1", impl.EApp, "", 2)
	clashAt(t, "fun f 1 = 2 | f x = if x then 3 else 4", impl.FBind, "f", 1)
	clashAt(t, "val f = fn 1 => 2 | x => if x then 3 else 4", impl.EFn, "", 1)
	clashAt(t, "val (x : bool) = 1 : int", impl.DVal, "", 1)
}

func TestTypesThatWouldStandInThemselves(t *testing.T) {
	for _, exp := range []string{"x x", "x (x, 1)", "x [x]", "x = [x]", "x = (1, x)", "[x] = x", "x := x", "!x = x", "x = ref x", "if true then x else [x]", "case x of [y] => x = y | _ => true"} {
		program := resolved(t, "val a = 1 val f = fn x => "+exp)
		typed := checkInfer(t, program)
		if typed.Code != impl.TyClash {
			t.Errorf("%s: code %d", exp, typed.Code)
		}
	}
	clashAt(t, "val f = fn x => fn y => (x = [y], y = [x], 1 1)", impl.EBin, "=", 2)
	clashAt(t, "val f = fn x => fn y => fn z => (x = [y], y = (1, z), z = (fn () => x), 1 1)", impl.EBin, "=", 3)
	clashAt(t, "val f = fn x => fn y => fn z => (z = (fn () => x), y = (1, z), x = [y], 1 1)", impl.EBin, "=", 3)
	clashAt(t, "val f = fn x => fn y => (x = y, x = [y])", impl.EBin, "=", 2)
	clashAt(t, "val f = fn x => fn y => (x = [y], x = y, x x)", impl.EBin, "=", 2)
	clashAt(t, "fun f x = f", impl.FBind, "f", 1)
	clashAt(t, "fun f x = [f]", impl.FBind, "f", 1)
	clashAt(t, "fun f x = g and g y = [f]", impl.FBind, "g", 1)
	clashAt(t, "fun f x = f x x", impl.FBind, "f", 1)
	clashAt(t, "fun f x = x f", impl.FBind, "f", 1)
	clashAt(t, "val f = fn x as [y] => x = y", impl.EBin, "=", 1)
	clashAt(t, "val f = fn (x : 'a, y : 'a list) => x = y", impl.EBin, "=", 1)
	clashAt(t, "val f = fn ((x : 'a) : 'a list) => x", impl.PType, "", 2)
	// A circle is told, however much stands behind it that has nothing to do with it.
	clashAt(t, "val f = fn x => x x fun g x = x val h = g g val i = (g 1, g true)", impl.EApp, "", 1)
	clashAt(t, "val f = fn x => x = [x] val h = fn x => x = [x] val i = 1 1", impl.EBin, "=", 1)
	clashAt(t, "fun id x = x val r = ref nil val a = id (id r) val b = (r := [r], r := [1])", impl.EBin, ":=", 1)
	// And no circle where a type stands twice only.
	schemesAre(t, "fun f x y = (x = (y, y), x)", "f", "'a * 'a -> 'a -> bool * ('a * 'a)")
	schemesAre(t, "fun f x = x fun g x = f f x", "g", "'a -> 'a")
	schemesAre(t, "fun f x = (x, x) fun g x = f (f x)", "g", "'a -> ('a * 'a) * ('a * 'a)")
}

func TestTypesOfExceptions(t *testing.T) {
	front := "exception Stop exception Num of int exception Two of int list * (string -> exn) "
	schemesAre(t, front+"val a = (Stop, Num 1, Two ([], fn s => Stop), Match)", "a", "exn * exn * exn * exn")
	schemesAre(t, front+"fun f (Two (x :: _, g)) = Num x | f (Two (_, g)) = g \"\" | f x = x", "f", "exn -> exn")
	schemesAre(t, front+"fun f g = (g (); 1) handle Num n => n | Two (n :: _, _) => n | Stop => 0", "f", "(unit -> 'a) -> int")
	schemesAre(t, front+"fun f x = raise (if x then Stop else Num 1)", "f", "bool -> 'a")
	schemesAre(t, front+"fun f x = (raise Stop) + (raise x)", "f", "exn -> int")
	clashAt(t, front+"val a = Num true", impl.EApp, "", 1)
	clashAt(t, front+"val a = [Num]  val b = raise Two", impl.ERaise, "", 1)
	clashAt(t, front+"fun f (Num \"\") = 1", impl.PCon, "Num", 1)
	clashAt(t, front+"val a = Stop = 1", impl.EBin, "=", 1)
	clashAt(t, front+"val a = raise Num", impl.ERaise, "", 1)
	clashAt(t, front+"val a = 1 handle Num x => x ^ \"\"", impl.EBin, "^", 1)
}

func TestTypesOfConstructors(t *testing.T) {
	front := "datatype ('a, 'b, 'c) three = Three of 'c * 'a | Fun of 'b -> 'a | Not datatype 'a rose = Rose of 'a * 'a rose list and w = W of w list | V "
	schemesAre(t, front+"val a = (Three, Fun, Not)", "a", "('a * 'b -> ('b, 'c, 'a) three) * (('d -> 'e) -> ('e, 'd, 'f) three) * ('g, 'h, 'i) three")
	schemesAre(t, front+"fun f (Three (x, y)) = x | f (Fun g) = raise Div | f Not = 1", "f", "('a, 'b, int) three -> int")
	schemesAre(t, front+"fun map f (Rose (x, xs)) = let fun each nil = nil | each (y :: ys) = map f y :: each ys in Rose (f x, each xs) end", "map", "('a -> 'b) -> 'a rose -> 'b rose")
	schemesAre(t, front+"val a = (Rose (1, []), Rose (true, [Rose (false, nil)]), W [V, W nil])", "a", "int rose * bool rose * w")
	schemesAre(t, front+"fun f x = [Rose (x, nil), Rose (1, nil)]", "f", "int -> int rose list")
	clashAt(t, front+"val a = Rose (1, [Rose (true, nil)])", impl.EApp, "", 3)
	clashAt(t, front+"fun f (Rose (1, Rose (true, _) :: _)) = 1", impl.PCon, "Rose", 2)
	clashAt(t, front+"val a = W [1]", impl.EApp, "", 2)
	clashAt(t, front+"val a = Fun (fn x => x) = Three (1, 2)  val b = Fun (fn 1 => true) = Three ((), 1)", impl.EBin, "=", 2)
	// One datatype is not another, though they have the same constructors but for names.
	clashAt(t, "datatype t = A datatype u = B val a = A = B", impl.EBin, "=", 1)
}
