package tests

import (
	"slices"
	"strings"
	"testing"

	"loop.example/s02665/impl"
)

var givenExceptions = strings.Fields("Match Bind Div Subscript Chr Size Equal")
var givenParams = map[string]int{"int": 0, "string": 0, "exn": 0, "bool": 0, "list": 1, "ref": 1}

// expsAround and patsAround are places where an exp or a pattern can stand, and typesAround such for a
// type that needs no params.
var expsAround = []string{
	"val a = @", "fun f x = @", "fun f x = 1 | f y = @ and g z = 2", "val a = fn x => @", "val a = case @ of _ => 1",
	"val a = case 1 of _ => @", "val a = @ handle _ => 1", "val a = 1 handle _ => @", "val a = let val b = @ in 1 end",
	"val a = let val b = 1 in @ end", "val a = (1, @)", "val a = 1 + @", "val a = (@; 2)", "val a = [1, @]",
}
var patsAround = []string{
	"val @ = 1", "fun f @ = 1", "fun f x @ = 1", "val a = fn @ => 1", "val a = case 1 of x => 2 | @ => 1", "val a = 1 handle @ => 1",
	"val a = let val @ = 1 in 2 end", "val (x, @) = 1", "val x :: @ = 1", "val x as @ = 1", "val (@ : int) = 1",
}
var typesAround = []string{
	"val a = 1 : @", "val (a : @) = 1", "fun f (x : @) = 1", "type tt = @", "exception EE of @", "datatype tt = AA of @",
	"datatype tt = AA and uu = BB | CC of @", "type tt = int * @", "type tt = @ list", "type tt = @ -> int", "type tt = int -> @",
}

func filled(around []string, it string) []string {
	out := []string{}
	for _, src := range around {
		out = append(out, strings.Replace(src, "@", "("+it+")", 1))
	}
	return out
}

func TestNamesUnbound(t *testing.T) {
	for _, src := range filled(expsAround, "q") {
		wrongAt(t, src, impl.ScUnbound, impl.EVar, "q", 1)
		allRight(t, "val q = 1 "+src)
		wrongAt(t, src+" val q = 1", impl.ScUnbound, impl.EVar, "q", 1)
	}
}

func TestNamesOfCons(t *testing.T) {
	for _, src := range filled(expsAround, "A") {
		wrongAt(t, src, impl.ScCon, impl.ECon, "A", 1)
		for _, dec := range []string{"datatype t = A ", "datatype t = A of int ", "exception A ", "exception A of int "} {
			allRight(t, dec+src)
			wrongAt(t, src+" "+dec, impl.ScCon, impl.ECon, "A", 1)
		}
	}
	for _, src := range filled(patsAround, "A") {
		wrongAt(t, src, impl.ScCon, impl.PCon, "A", 1)
		allRight(t, "datatype t = A "+src, "exception A "+src, "datatype u = B | A and t = C "+src)
		wrongAt(t, src+" datatype t = A", impl.ScCon, impl.PCon, "A", 1)
		wrongAt(t, "exception A of int "+src, impl.ScArity, impl.PCon, "A", 1)
		wrongAt(t, "datatype t = A of int "+src, impl.ScArity, impl.PCon, "A", 1)
	}
	for _, src := range filled(patsAround, "A 1") {
		wrongAt(t, src, impl.ScCon, impl.PCon, "A", 1)
		allRight(t, "datatype t = A of int "+src, "exception A of int "+src, "datatype u = B and t = C | A of int "+src)
		wrongAt(t, src+" exception A of int", impl.ScCon, impl.PCon, "A", 1)
		wrongAt(t, "exception A "+src, impl.ScArity, impl.PCon, "A", 1)
		wrongAt(t, "datatype t = A "+src, impl.ScArity, impl.PCon, "A", 1)
	}
	// A type of a constructor counts as its argument, whatever it is.
	allRight(t, "exception A of unit val A () = 1", "datatype t = A of int * int val A (x, y) = 1 val A z = 1")
	wrongAt(t, "exception A of unit val A = 1", impl.ScArity, impl.PCon, "A", 1)
}

func TestNamesOfGivenCons(t *testing.T) {
	for _, con := range append([]string{"true", "false", "nil"}, givenExceptions...) {
		allRight(t, filled(expsAround, con)...)
		allRight(t, filled(patsAround, con)...)
		for _, src := range filled(patsAround, con+" 1") {
			wrongAt(t, src, impl.ScArity, impl.PCon, con, 1)
		}
		if con != "true" && con != "false" && con != "nil" {
			wrongAt(t, "val a = "+con+"'", impl.ScCon, impl.ECon, con+"'", 1)
		}
	}
	allRight(t, filled(expsAround, "op ::")...)
	allRight(t, filled(patsAround, "op :: z")...)
	allRight(t, filled(patsAround, "1 :: 2")...)
	for _, src := range filled(patsAround, "op ::") {
		it := parsed(t, src)
		bare := slices.IndexFunc(it, func(n impl.Node) bool { return n.Kind == impl.PCon && n.Text == "::" && n.Kids == 0 })
		isWrong(t, it, impl.ScArity, bare)
	}
	for _, con := range strings.Fields("True Nil Cons Exn Empty Overflow Fail SOME") {
		wrongAt(t, "val a = "+con, impl.ScCon, impl.ECon, con, 1)
		wrongAt(t, "val "+con+" = 1", impl.ScCon, impl.PCon, con, 1)
	}
}

func TestNamesTwiceInPatterns(t *testing.T) {
	for _, pat := range []string{"(x, x)", "x :: x", "(x, (1, y, x : int))", "(nil, x) :: _ :: (x, _) :: nil", "(y, x, z, x)"} {
		for _, src := range filled([]string{"val @ = 1", "fun f @ = 1", "val a = fn @ => 1", "val a = case 1 of 2 => 3 | @ => 1", "val a = 1 handle @ => 1"}, pat) {
			wrongAt(t, src, impl.ScTwice, impl.PVar, "x", 2)
		}
	}
	for _, pat := range []string{"x as x", "x as (x : int)", "x as (_, x)", "(y, x as (z, x))", "(y, x as 1 :: x)"} {
		for _, src := range filled([]string{"val @ = 1", "fun f @ = 1", "val a = fn @ => 1", "val a = case 1 of @ => 1", "val a = 1 handle @ => 1"}, pat) {
			wrongAt(t, src, impl.ScTwice, impl.PAs, "x", 1)
		}
	}
	wrongAt(t, "val (x as 1, x as 2) = 1", impl.ScTwice, impl.PAs, "x", 2)
	wrongAt(t, "val (x as 1, x) = 1", impl.ScTwice, impl.PVar, "x", 1)
	wrongAt(t, "val (x, x as 2) = 1", impl.ScTwice, impl.PAs, "x", 1)
	wrongAt(t, "val (x, y, y, x) = 1", impl.ScTwice, impl.PVar, "y", 2)
	wrongAt(t, "val (x, y, x, y) = 1", impl.ScTwice, impl.PVar, "x", 2)
	wrongAt(t, "val (x, x, x) = 1", impl.ScTwice, impl.PVar, "x", 2)
	wrongAt(t, "fun f x x = 1", impl.ScTwice, impl.PVar, "x", 2)
	wrongAt(t, "fun f x y (z, x) = 1", impl.ScTwice, impl.PVar, "x", 2)
	wrongAt(t, "fun f x (x as _) = 1", impl.ScTwice, impl.PAs, "x", 1)
	wrongAt(t, "fun f x = 1 | f (x, x) = 1", impl.ScTwice, impl.PVar, "x", 3)
	wrongAt(t, "fun f x = 1 and g x x = 1", impl.ScTwice, impl.PVar, "x", 3)
	wrongAt(t, "val a = fn x => 1 | (x, x) => 2", impl.ScTwice, impl.PVar, "x", 3)
	wrongAt(t, "val a = let val (x, x) = 1 in 1 end", impl.ScTwice, impl.PVar, "x", 2)
	// Patterns that are not the same one.
	allRight(t,
		"val x = 1 val x = 2", "fun f x = 1 | f x = 2", "fun f x = 1 and g x = 2", "val x = fn x => fn x => 1",
		"val a = case 1 of x => 1 | x => 2", "val a = 1 handle x => 1 | x => 2", "val x = let val x = 1 val x = 2 in 3 end",
		"fun f x = fn x => 1", "fun f f = 1", "fun f g = 1 and g f = 2", "val (x, y) = fn (x, y) => 1", "fun f x y = 1 | f y x = 2",
		"val a = fn (x, y) => fn (x, y) => 1", "val print = 1 val (size, sub) = 2", "val (_, _, 1, 1) = 1",
	)
}

func TestNamesTwiceInFuns(t *testing.T) {
	wrongAt(t, "fun f x = 1 and f y = 2", impl.ScTwice, impl.FBind, "f", 2)
	wrongAt(t, "fun f x = 1 and g x = 2 and f x = 3", impl.ScTwice, impl.FBind, "f", 2)
	wrongAt(t, "fun f x = 1 and g x = 2 and g x = 3 and f x = 4", impl.ScTwice, impl.FBind, "g", 2)
	wrongAt(t, "fun f x = 1 and f x = 2 and f x = 3", impl.ScTwice, impl.FBind, "f", 2)
	wrongAt(t, "fun f x = f and f y = (f, f)", impl.ScTwice, impl.FBind, "f", 2)
	wrongAt(t, "val a = let fun f x = 1 and f y = 2 in f end", impl.ScTwice, impl.FBind, "f", 2)
	allRight(t, "fun f x = 1 fun f x = 2", "val f = 1 fun f x = 2 val f = 3", "fun f x = let fun f x = 1 in f end", "fun print x = 1 and size x = 2")
}

func TestNamesTwiceOfCons(t *testing.T) {
	for _, first := range []string{"datatype t = A ", "datatype t = B | A of int ", "datatype u = C and t = A | B ", "exception A ", "exception A of int "} {
		which := func(kind int) int {
			return 1 + len(slices.DeleteFunc(parsed(t, first), func(n impl.Node) bool { return n.Kind != kind || n.Text != "A" }))
		}
		for _, between := range []string{"", "val a = A ", "exception D "} {
			wrongAt(t, first+between+"exception A", impl.ScTwice, impl.DExn, "A", which(impl.DExn))
			wrongAt(t, first+between+"exception A of int", impl.ScTwice, impl.DExn, "A", which(impl.DExn))
			wrongAt(t, first+between+"datatype w = A", impl.ScTwice, impl.CBind, "A", which(impl.CBind))
			wrongAt(t, first+between+"datatype w = W | A of int and v = V", impl.ScTwice, impl.CBind, "A", which(impl.CBind))
		}
	}
	wrongAt(t, "datatype t = A | A", impl.ScTwice, impl.CBind, "A", 2)
	wrongAt(t, "datatype t = A | B | A of int", impl.ScTwice, impl.CBind, "A", 2)
	wrongAt(t, "datatype t = A and u = B | A", impl.ScTwice, impl.CBind, "A", 2)
	for _, con := range givenExceptions {
		wrongAt(t, "exception "+con, impl.ScTwice, impl.DExn, con, 1)
		wrongAt(t, "exception "+con+" of int", impl.ScTwice, impl.DExn, con, 1)
		wrongAt(t, "datatype t = A | "+con, impl.ScTwice, impl.CBind, con, 1)
		wrongAt(t, "datatype t = A | "+con+" of int", impl.ScTwice, impl.CBind, con, 1)
		// Wrong in two ways that have one code.
		wrongAt(t, "datatype t = "+con+" exception "+con, impl.ScTwice, impl.CBind, con, 1)
		allRight(t, "exception "+con+"'")
	}
	// Constructors, values and types have nothing to do with each other's names.
	allRight(t, "val x = 1 datatype x = X val x = X", "fun t x = 1 type t = int", "exception Print val print = Print")
}

func TestNamesTwiceOfTypes(t *testing.T) {
	for _, first := range []string{"datatype t = A ", "datatype u = B and 'a t = A of 'a ", "type t = int ", "type 'a t = 'a "} {
		isData := strings.HasPrefix(first, "datatype")
		which := map[bool]int{true: 2, false: 1}
		wrongAt(t, first+"type t = int", impl.ScTwice, impl.DType, "t", which[!isData])
		wrongAt(t, first+"exception C type ('a, 'b) t = 'a", impl.ScTwice, impl.DType, "t", which[!isData])
		wrongAt(t, first+"datatype t = C", impl.ScTwice, impl.TBind, "t", which[isData])
		wrongAt(t, first+"datatype v = D and 'c t = C", impl.ScTwice, impl.TBind, "t", which[isData])
	}
	wrongAt(t, "datatype t = A and t = B", impl.ScTwice, impl.TBind, "t", 2)
	wrongAt(t, "datatype t = A and u = B and 'a t = C", impl.ScTwice, impl.TBind, "t", 2)
	wrongAt(t, "datatype t = A and t = B and t = C", impl.ScTwice, impl.TBind, "t", 2)
	for name := range givenParams {
		for _, params := range []string{"", "'a ", "('a, 'b) "} {
			wrongAt(t, "type "+params+name+" = string", impl.ScTwice, impl.DType, name, 1)
			wrongAt(t, "datatype t = A and "+params+name+" = B", impl.ScTwice, impl.TBind, name, 1)
		}
		allRight(t, "type "+name+"' = int", "datatype "+name+"s = A")
	}
	wrongAt(t, "datatype int = A datatype int = B", impl.ScTwice, impl.TBind, "int", 1)
	// What is wrong was known all the same in front of it.
	wrongAt(t, "type t = int val a = 1 : t type t = int", impl.ScTwice, impl.DType, "t", 2)
}

func TestNamesTwiceOfParams(t *testing.T) {
	for _, head := range []string{"('a, 'a)", "('b, 'a, 'a)", "('a, 'b, 'c, 'a)", "('a, 'a, 'a)"} {
		wrongAt(t, "type "+head+" t = int", impl.ScTwice, impl.TVar, "a", 2)
		wrongAt(t, "type "+head+" t = 'a", impl.ScTwice, impl.TVar, "a", 2)
		wrongAt(t, "datatype "+head+" t = A", impl.ScTwice, impl.TVar, "a", 2)
		wrongAt(t, "datatype u = B and "+head+" t = A of 'a", impl.ScTwice, impl.TVar, "a", 2)
	}
	wrongAt(t, "type ('a, 'b, 'b, 'a) t = int", impl.ScTwice, impl.TVar, "b", 2)
	wrongAt(t, "datatype 'a t = A of 'a and ('a, 'a) u = B", impl.ScTwice, impl.TVar, "a", 4)
	allRight(t,
		"type 'a t = 'a type 'a u = 'a", "datatype 'a t = A of 'a and 'a u = B of 'a * 'a", "type ('a, 'aa, 'a1, 'a_) t = 'a * 'a",
		"datatype ('a, 'b, 'c, 'd, 'e, 'f, 'g, 'h) t = A of 'a * 'b * 'h", "type 'a a = 'a", "type 'a t = 'a -> 'a * 'a",
	)
}

func TestNamesOfTypeVars(t *testing.T) {
	for _, typ := range []string{"'z", "'z list", "int * 'z", "'z -> int", "int -> (int * ('z list)) list"} {
		for _, src := range filled([]string{
			"type t = @", "type 'a t = @", "type ('y, 'a) t = @", "datatype t = A of @", "datatype 'a t = A | B of @ | C", "datatype 'a t = A and u = B of @",
			"exception E of @",
		}, typ) {
			wrongAt(t, src, impl.ScVar, impl.TVar, "z", 1)
		}
		allRight(t, filled([]string{"type 'z t = @", "type ('a, 'z) t = @", "datatype ('z, 'y) t = A of @", "datatype t = A and 'z u = B | C of @"}, typ)...)
		// Elsewhere they need no params.
		allRight(t, filled([]string{"val a = 1 : @", "val (a : @) = 1", "fun f (x : @) = 1", "val a = fn (x : @) => x"}, typ)...)
	}
	wrongAt(t, "datatype 'a t = A of 'a and u = B of 'a", impl.ScVar, impl.TVar, "a", 3)
	wrongAt(t, "datatype t = A of 'a and 'a u = B of 'a", impl.ScVar, impl.TVar, "a", 1)
	wrongAt(t, "type 'a t = 'a type u = 'a", impl.ScVar, impl.TVar, "a", 3)
	wrongAt(t, "datatype 'a t = A of 'a exception E of 'a", impl.ScVar, impl.TVar, "a", 3)
	wrongAt(t, "type 'a t = 'b * 'c", impl.ScVar, impl.TVar, "b", 1)
	wrongAt(t, "type 'a t = 'aa", impl.ScVar, impl.TVar, "aa", 1)
	allRight(t, "val a = 1 : 'a val b = 2 : 'b * 'a", "fun f (x : 'a) (y : 'a) = fn (z : 'b) => (z : 'c)")
}

func TestNamesOfTypes(t *testing.T) {
	for _, src := range filled(typesAround, "t") {
		wrongAt(t, src, impl.ScType, impl.TCon, "t", 1)
		allRight(t, "type t = int "+src, "datatype t = A "+src, "datatype u = B and t = A "+src)
		wrongAt(t, src+" type t = int", impl.ScType, impl.TCon, "t", 1)
		wrongAt(t, src+" datatype t = A", impl.ScType, impl.TCon, "t", 1)
		wrongAt(t, "datatype 'a t = A "+src, impl.ScKind, impl.TCon, "t", 1)
		wrongAt(t, "type ('a, 'b) t = int "+src, impl.ScKind, impl.TCon, "t", 1)
	}
	for _, src := range filled(typesAround, "int t") {
		wrongAt(t, src, impl.ScType, impl.TCon, "t", 1)
		allRight(t, "type 'a t = int "+src, "datatype 'b t = A of 'b "+src)
		wrongAt(t, "datatype t = A "+src, impl.ScKind, impl.TCon, "t", 1)
		wrongAt(t, "datatype ('a, 'b) t = A "+src, impl.ScKind, impl.TCon, "t", 1)
		wrongAt(t, "type t = int "+src, impl.ScKind, impl.TCon, "t", 1)
	}
	for _, src := range filled(typesAround, "(int, string) t") {
		wrongAt(t, src, impl.ScType, impl.TCon, "t", 1)
		allRight(t, "type ('a, 'b) t = int "+src, "datatype ('a, 'b) t = A of 'b "+src)
		wrongAt(t, "type ('a, 'b, 'c) t = int "+src, impl.ScKind, impl.TCon, "t", 1)
		wrongAt(t, "type 'a t = int "+src, impl.ScKind, impl.TCon, "t", 1)
	}
	for n := range 9 {
		for params := range 9 {
			head := strings.TrimSuffix("("+strings.Join(strings.Fields("'a 'b 'c 'd 'e 'f 'g 'h")[:params], ", ")+") ", "() ")
			args := "(" + strings.TrimSuffix(strings.Repeat("int, ", n), ", ") + ") t"
			src := "type " + head + "t = int val a = 1 : " + strings.TrimPrefix(args, "() ")
			if n == params {
				allRight(t, src)
			} else {
				wrongAt(t, src, impl.ScKind, impl.TCon, "t", 1)
			}
		}
	}
}

func TestNamesOfGivenTypes(t *testing.T) {
	for name, params := range givenParams {
		for n, args := range []string{"", "bool ", "(bool, exn) ", "(exn, exn, exn) "} {
			for _, src := range filled(typesAround, args+name) {
				it := parsed(t, src)
				if n == params {
					allRight(t, src)
					continue
				}
				node := slices.IndexFunc(it, func(node impl.Node) bool { return node.Kind == impl.TCon && node.Text == name && node.Kids == n })
				isWrong(t, it, impl.ScKind, node)
			}
		}
	}
	for _, name := range strings.Fields("real char option array unit' lists word") {
		wrongAt(t, "val a = 1 : "+name, impl.ScType, impl.TCon, name, 1)
	}
	wrongAt(t, "val x : list = 1", impl.ScKind, impl.TCon, "list", 1)
	wrongAt(t, "val x : int int = 1", impl.ScKind, impl.TCon, "int", 2)
	wrongAt(t, "val x : (int, int) ref = 1", impl.ScKind, impl.TCon, "ref", 1)
	allRight(t, "val x : unit list ref = 1 : unit")
}

func TestNamesKnownInTheirDecs(t *testing.T) {
	allRight(t,
		"datatype t = A of t", "datatype t = A of u and u = B of t", "datatype 'a t = A of 'a t list and u = B of int t * u",
		"datatype t = A of (u, u) v and u = B and ('a, 'b) v = C of 'a", "datatype t = A of t val a = A",
		"datatype t = A of u * t and u = B type v = t * u exception E of v datatype w = C of v",
	)
	wrongAt(t, "type t = t", impl.ScType, impl.TCon, "t", 1)
	wrongAt(t, "type 'a t = 'a t list", impl.ScType, impl.TCon, "t", 1)
	wrongAt(t, "datatype t = A of u datatype u = B of t", impl.ScType, impl.TCon, "u", 1)
	wrongAt(t, "datatype 'a t = A of t", impl.ScKind, impl.TCon, "t", 1)
	wrongAt(t, "datatype t = A of int t", impl.ScKind, impl.TCon, "t", 1)
	wrongAt(t, "datatype t = A of u and 'a u = B", impl.ScKind, impl.TCon, "u", 1)
	wrongAt(t, "datatype t = A and 'a u = B of 'a t", impl.ScKind, impl.TCon, "t", 1)
	wrongAt(t, "type u = t datatype t = A", impl.ScType, impl.TCon, "t", 1)
	wrongAt(t, "exception E of t datatype t = A", impl.ScType, impl.TCon, "t", 1)
	wrongAt(t, "val a = 1 : t type t = int", impl.ScType, impl.TCon, "t", 1)
	allRight(t, "type t = int type u = t type v = u * t", "exception A of int exception B of exn val a = (A, B)")
	// Exceptions and constructors are no types, nor the other way round.
	wrongAt(t, "exception E val a = e", impl.ScUnbound, impl.EVar, "e", 1)
	wrongAt(t, "datatype a = B val b = A", impl.ScCon, impl.ECon, "A", 1)
}

// Of several types with one name the first counts, since the others are wrong themselves.
func TestNamesOfTypesThatAreDeclaredTwice(t *testing.T) {
	wrongAt(t, "datatype t = A of t and 'a t = B", impl.ScTwice, impl.TBind, "t", 2)
	wrongAt(t, "datatype t = A and 'a t = B of t", impl.ScTwice, impl.TBind, "t", 2)
	wrongAt(t, "datatype int = A of int", impl.ScTwice, impl.TBind, "int", 1)
	wrongAt(t, "datatype 'a list = A of 'a list", impl.ScTwice, impl.TBind, "list", 1)
	wrongAt(t, "type t = int datatype 'a t = A of t", impl.ScTwice, impl.TBind, "t", 1)
	wrongAt(t, "type t = int datatype u = B of t and 'a t = A", impl.ScTwice, impl.TBind, "t", 1)
}

// The first wrong node of the list is told, wherever it stands.
func TestNamesSeveralWrong(t *testing.T) {
	wrongAt(t, "val a = x val b = A", impl.ScUnbound, impl.EVar, "x", 1)
	wrongAt(t, "val a = A val b = x", impl.ScCon, impl.ECon, "A", 1)
	wrongAt(t, "val (a, a) = x", impl.ScTwice, impl.PVar, "a", 2)
	wrongAt(t, "val (A, a, a) = 1", impl.ScCon, impl.PCon, "A", 1)
	wrongAt(t, "val (a, a, A) = 1", impl.ScTwice, impl.PVar, "a", 2)
	wrongAt(t, "val (a, A, a) = 1", impl.ScCon, impl.PCon, "A", 1)
	wrongAt(t, "val (a, (a : t)) = 1", impl.ScTwice, impl.PVar, "a", 2)
	wrongAt(t, "val ((a : t), a) = 1", impl.ScType, impl.TCon, "t", 1)
	wrongAt(t, "val x as (x : t) = 1", impl.ScType, impl.TCon, "t", 1)
	// A node stands behind its kids.
	wrongAt(t, "val nil (A 1) = 1", impl.ScCon, impl.PCon, "A", 1)
	wrongAt(t, "val A (nil 1) = 1", impl.ScArity, impl.PCon, "nil", 1)
	wrongAt(t, "val x as (y, y) = x", impl.ScTwice, impl.PVar, "y", 2)
	wrongAt(t, "val a = 1 : (t, u) v", impl.ScType, impl.TCon, "t", 1)
	wrongAt(t, "val a = 1 : t list int", impl.ScType, impl.TCon, "t", 1)
	wrongAt(t, "val a = 1 : (int, int int) list", impl.ScKind, impl.TCon, "int", 3)
	wrongAt(t, "val a = 1 : (list, t) u", impl.ScKind, impl.TCon, "list", 1)
	// An FBind stands behind its clauses, and its DFun behind that.
	wrongAt(t, "fun f x = 1 and f x = y", impl.ScUnbound, impl.EVar, "y", 1)
	wrongAt(t, "fun f x = 1 and f x = 2 and g x = y", impl.ScTwice, impl.FBind, "f", 2)
	wrongAt(t, "fun f x = 1 and f x x = 2", impl.ScTwice, impl.PVar, "x", 3)
	wrongAt(t, "fun f x = y and f x = 2", impl.ScUnbound, impl.EVar, "y", 1)
	wrongAt(t, "fun f x = 1 and g x = 2 and f x = let fun h x = 3 and h x = 4 in 5 end", impl.ScTwice, impl.FBind, "h", 2)
	wrongAt(t, "fun f x = 1 | f (x, x) = A", impl.ScTwice, impl.PVar, "x", 3)
	wrongAt(t, "fun f x = A | f (x, x) = 1", impl.ScCon, impl.ECon, "A", 1)
	// So do TBinds, DTypes, CBinds and DExns.
	wrongAt(t, "datatype int = A of t", impl.ScType, impl.TCon, "t", 1)
	wrongAt(t, "datatype int = A | A", impl.ScTwice, impl.CBind, "A", 2)
	wrongAt(t, "datatype ('a, 'a) int = A of 'b | A", impl.ScTwice, impl.TVar, "a", 2)
	wrongAt(t, "datatype 'a int = A of 'b | A", impl.ScVar, impl.TVar, "b", 1)
	wrongAt(t, "datatype 'a t = A of 'b | Div of 'c", impl.ScVar, impl.TVar, "b", 1)
	wrongAt(t, "datatype 'a t = Div of 'a | B of 'c", impl.ScTwice, impl.CBind, "Div", 1)
	wrongAt(t, "datatype t = Div of t int", impl.ScKind, impl.TCon, "int", 1)
	wrongAt(t, "datatype t = A and t = B | A", impl.ScTwice, impl.CBind, "A", 2)
	wrongAt(t, "datatype t = A and t = B and u = A", impl.ScTwice, impl.TBind, "t", 2)
	wrongAt(t, "type ('a, 'a) int = 'b", impl.ScTwice, impl.TVar, "a", 2)
	wrongAt(t, "type 'a int = 'b", impl.ScVar, impl.TVar, "b", 1)
	wrongAt(t, "type 'a int = t", impl.ScType, impl.TCon, "t", 1)
	wrongAt(t, "type 'a t = 'b * u", impl.ScVar, impl.TVar, "b", 1)
	wrongAt(t, "type 'a t = u * 'b", impl.ScType, impl.TCon, "u", 1)
	wrongAt(t, "exception Div of 'a", impl.ScVar, impl.TVar, "a", 1)
	wrongAt(t, "exception Div of t", impl.ScType, impl.TCon, "t", 1)
	wrongAt(t, "exception Div of 'a t", impl.ScVar, impl.TVar, "a", 1)
	wrongAt(t, "exception Div exception Bind", impl.ScTwice, impl.DExn, "Div", 1)
	// An exp stands behind the patterns in front of it, a type behind its exp.
	wrongAt(t, "val a = x : t", impl.ScUnbound, impl.EVar, "x", 1)
	wrongAt(t, "val a = 1 : t handle A => x", impl.ScType, impl.TCon, "t", 1)
	wrongAt(t, "val a = fn A => x", impl.ScCon, impl.PCon, "A", 1)
	wrongAt(t, "val a = fn b => x | A => 1", impl.ScUnbound, impl.EVar, "x", 1)
	wrongAt(t, "val a = fn (b, b) => 1 | c => x", impl.ScTwice, impl.PVar, "b", 2)
	wrongAt(t, "val a = fn b => x | (c, c) => 1", impl.ScUnbound, impl.EVar, "x", 1)
	wrongAt(t, "val (a, a) = let val (b, b) = x in 1 end", impl.ScTwice, impl.PVar, "a", 2)
	wrongAt(t, "val a = let val b = x val (b, b) = 1 in 1 end", impl.ScUnbound, impl.EVar, "x", 1)
}
