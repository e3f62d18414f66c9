package tests

import (
	"slices"
	"strconv"
	"strings"
	"testing"

	"loop.example/s02665/impl"
)

// haveValues and haveNone ask each type as the argument of the only constructor of x. So x in it has
// no values, unless the type has without them.
func haveValues(t *testing.T, front string, types ...string) {
	t.Helper()
	for _, ty := range types {
		noneWrong(t, front+"datatype x = X of "+ty)
	}
}

func haveNone(t *testing.T, front string, types ...string) {
	t.Helper()
	for _, ty := range types {
		emptyAt(t, front+"datatype x = X of "+ty, "x")
	}
}

func TestEmptyByEachRule(t *testing.T) {
	haveValues(t, "", "int", "string", "exn", "bool", "unit", "int list", "int ref", "int * string", "int -> int", "bool ref list")
	haveValues(t, "", "x -> int", "int -> x", "x -> x", "x list", "x list list", "x ref list", "x list ref", "(x * x) list", "x list * x list", "(x -> x) ref")
	haveNone(t, "", "x", "x ref", "x ref ref", "int * x", "x * int", "int * (int * x) * int", "x * x", "(int * x) ref", "x list * x", "(x -> x) * x")
}

func TestEmptyByConstructors(t *testing.T) {
	noneWrong(t, "datatype t = A", "datatype t = A of t | B", "datatype t = A | B of t", "datatype t = A of t | B of int",
		"datatype t = A of t | B of t * int | C of t list | D of t", "datatype t = A of int * t | B of t ref | C of t -> t")
	emptyAt(t, "datatype t = A of t | B of t", "t")
	emptyAt(t, "datatype t = A of int * t | B of t ref | C of t * t list", "t")
	// Exceptions count as having always.
	noneWrong(t, "exception E of exn", "datatype t = A of exn exception E of t", "exception E of exn datatype t = A of exn * exn list")
}

func TestEmptyDatatypesThatNeedOneAnother(t *testing.T) {
	noneWrong(t, "datatype t = A of u | B and u = C of t", "datatype t = A of u and u = C of t | B", "datatype t = A of u and u = C of t list",
		"datatype t = A of u and u = B of v and v = C of w and w = D", "datatype w = D and v = C of w and u = B of v and t = A of u",
		"datatype w = D datatype v = C of w datatype u = B of v datatype t = A of u * v * w",
		"datatype t = A of u * v and u = B of t | C of v and v = D of t | E of u | F")
	emptyAt(t, "datatype t = A of u and u = C of t", "t")
	emptyAt(t, "datatype t = A of u and u = B of v and v = C of t", "t")
	emptyAt(t, "datatype t = A of u | Z and u = B of v and v = C of u", "u")
	emptyAt(t, "datatype t = A of u and u = B of v and v = C of v", "t")
	emptyAt(t, "datatype t = A and u = B of v and v = C of t * u", "u")
	emptyAt(t, "datatype t = A datatype u = B of v * t and v = C of t * u", "u")
	emptyAt(t, "datatype t = A of u * v and u = B of t | C of v and v = D of t | E of u", "t")
}

func TestEmptyFirstOfSeveral(t *testing.T) {
	emptyAt(t, "datatype a = A datatype t = B of t datatype u = C of u datatype z = Z", "t")
	emptyAt(t, "datatype a = A and u = C of u and t = B of t", "u")
	emptyAt(t, "datatype t = B of u and a = A and u = C of u", "t")
	emptyAt(t, "datatype t = B of u | D and a = A and u = C of u", "u")
	emptyAt(t, "datatype u = C of u datatype t = B of u", "u")
}

func TestEmptyParamsThatCount(t *testing.T) {
	one := "datatype 'a one = One of 'a "
	noneWrong(t, one, one+"datatype t = A of int one | B of t one", "datatype 'a t = A of 'a t | B of 'a")
	haveValues(t, one, "int one", "x list one", "x one list", "(int -> x) one one", "x one -> int")
	haveNone(t, one, "x one", "x one one", "x ref one", "(int * x) one", "int one * x one", "x list one one * x one")
	both := "datatype ('a, 'b) both = Both of 'a * 'b "
	haveValues(t, both, "(int, int) both", "(x list, int) both", "((int, int) both, int -> x) both")
	haveNone(t, both, "(int, x) both", "(x, int) both", "(x, x) both", "((int, x) both, int) both")
	either := "datatype ('a, 'b) either = Left of 'a | Right of 'b "
	haveValues(t, either, "(int, x) either", "(x, int) either", "((x, x) either, (x, int) either) either")
	haveNone(t, either, "(x, x) either", "((x, x) either, x) either", "((x, x) either, int * x) either")
	last := "datatype ('a, 'b, 'c, 'd, 'e, 'f, 'g, 'h) last = Last of 'h "
	haveValues(t, last, "(x, x, x, x, x, x, x, int) last")
	haveNone(t, last, "(int, int, int, int, int, int, int, x) last")
	first := "datatype ('a, 'b, 'c, 'd, 'e, 'f, 'g, 'h) first = First of 'a "
	haveValues(t, first, "(int, x, x, x, x, x, x, x) first")
	haveNone(t, first, "(x, int, int, int, int, int, int, int) first")
}

func TestEmptyParamsThatDoNotCount(t *testing.T) {
	haveValues(t, "datatype 'a p = P ", "x p", "x p p", "x p ref * x p")
	haveValues(t, "datatype 'a p = P of int ", "x p")
	haveValues(t, "datatype 'a p = P of 'a list ", "x p")
	haveValues(t, "datatype 'a p = P of 'a -> 'a ", "x p")
	haveValues(t, "datatype 'a p = P of 'a | Q ", "x p")
	haveValues(t, "datatype 'a p = P of 'a p | Q of 'a * int | R of 'a p list ", "x p")
	haveNone(t, "datatype 'a p = P of 'a p | Q of 'a * int | R of 'a p ref ", "x p")
}

// What a datatype needs of its params is found through others that hand them on.
func TestEmptyParamsHandedOn(t *testing.T) {
	turned := "datatype ('a, 'b) t = A of 'a | B of ('b, 'a) t "
	haveValues(t, turned, "(int, x) t", "(x, int) t")
	haveNone(t, turned, "(x, x) t")
	round := "datatype ('a, 'b, 'c, 'd) r = A of 'a * 'b | B of ('b, 'c, 'd, 'a) r "
	haveValues(t, round, "(int, int, x, x) r", "(x, int, int, x) r", "(x, x, int, int) r", "(int, x, x, int) r")
	haveNone(t, round, "(int, x, int, x) r", "(x, int, x, int) r", "(int, x, x, x) r", "(x, x, x, x) r")
	nested := "datatype 'a n = A of ('a * 'a) n | B of 'a list n | C of 'a "
	haveValues(t, nested, "x n", "int n")
	deeper := "datatype 'a n = A of ('a * int) n | B of 'a ref n | C of 'a "
	haveNone(t, deeper, "x n", "(x * int) n")
	haveValues(t, deeper, "int n", "x list n")
	through := "datatype 'a a = A of 'a b and 'a b = B of 'a c and 'a c = C of 'a | D of 'a a "
	haveValues(t, through, "int a", "x list c")
	haveNone(t, through, "x a", "x b", "x c")
	// One that gives itself to others.
	emptyAt(t, "datatype 'a t = A of 'a datatype u = B of u t", "u")
	noneWrong(t, "datatype 'a t = A of 'a | C datatype u = B of u t", "datatype ('a, 'b) t = A of 'a datatype u = B of (int, u) t")
	emptyAt(t, "datatype 'a t = A of 'a u and 'a u = B of 'a and v = C of v t", "v")
	noneWrong(t, "datatype v = C of v t and 'a t = A of 'a u and 'a u = B of 'a list")
	emptyAt(t, "datatype v = C of v t and 'a t = A of 'a u and 'a u = B of 'a ref", "v")
	emptyAt(t, turned+"datatype u = C of (u, u) t datatype w = D of (w, int) t", "u")
	noneWrong(t, turned+"datatype w = D of (w, int) t")
	// With params that all have it has, whatever is asked of it with others.
	noneWrong(t, "datatype 'a t = A of 'a and u = B of u t | C")
}

// An argument that is found to have values only later on.
func TestEmptyArgumentsThatHaveLater(t *testing.T) {
	front := "datatype ('a, 'b) both = Both of 'a * 'b "
	noneWrong(t, front+"datatype p = P of (q, r) both and q = Q of r and r = R of s and s = S",
		front+"datatype p = P of (q, r) both and q = Q of s and r = R of q * s and s = S of int",
		front+"datatype p = P of ((q, q) both, (r, q) both) both and q = Q of r and r = R of s | T of p and s = S of p | U")
	emptyAt(t, front+"datatype p = P of (q, r) both and q = Q of s and r = R of p and s = S", "p")
}

func TestEmptyThroughAbbreviations(t *testing.T) {
	front := "type 'a id = 'a type ('a, 'b) first = 'a type 'a many = 'a list type 'a pair = 'a * 'a type 'a fn1 = 'a -> 'a "
	haveValues(t, front, "int id", "x many", "x many id", "x fn1", "(int, x) first", "(int, x) first id pair", "x many pair", "(x fn1, x pair) first")
	haveNone(t, front, "x id", "x id id", "x pair", "(x, int) first", "(x id, x many) first", "x many * x id", "x ref id")
	emptyAt(t, front+"datatype 'a t = A of 'a type 'a s = 'a t datatype u = B of u s", "u")
	noneWrong(t, front+"datatype 'a t = A of 'a | B type 'a s = 'a t datatype u = C of u s")
	noneWrong(t, front+"datatype ('a, 'b) t = A of 'a type ('a, 'b) s = ('b, 'a) t datatype u = C of (u, int) s")
	emptyAt(t, front+"datatype ('a, 'b) t = A of 'a type ('a, 'b) s = ('b, 'a) t datatype u = C of (int, u) s", "u")
	emptyAt(t, "type 'a p = int * 'a * string datatype t = A of t p | B of t p p", "t")
}

func TestEmptyAndLarge(t *testing.T) {
	much := typeSized(impl.MaxType + 1)
	large := func(src string) {
		t.Helper()
		program := resolved(t, src)
		declareFails(t, program, impl.DtLarge, rootOfSize(t, program, impl.MaxType+1))
	}
	emptyAt(t, "datatype t = A of t type s = "+much, "t")
	emptyAt(t, "datatype t = A of t val x : "+much+" = 1", "t")
	emptyAt(t, "datatype t = A of t and u = B of "+much, "t")
	large("val x : " + much + " = 1 datatype t = A of t")
	large("type s = " + much + " datatype t = A of s * t")
	large("datatype t = A of " + much + " | B of t")
	large("datatype t = A of " + much + " and u = B of u")
	emptyAt(t, "datatype t = A of t and u = B of u | C of "+much, "t")
}

// A type that is too large has values or has not, like others, and TBinds in front of it are asked.
func TestEmptyByTypesThatAreLarge(t *testing.T) {
	ints := strings.Repeat("int * ", impl.MaxType)
	program := resolved(t, "datatype t = A of u and u = B of "+ints+"int")
	declareFails(t, program, impl.DtLarge, rootOfSize(t, program, impl.MaxType+2))
	emptyAt(t, "datatype t = A of u and u = B of "+ints+"u", "t")
	emptyAt(t, "datatype t = A of u and u = B of u * "+ints+"int", "t")
	doubled := "type 'a d = 'a * 'a "
	program = resolved(t, doubled+"datatype t = A of u and u = B of int"+strings.Repeat(" d", 200))
	declareFails(t, program, impl.DtLarge, nodeOf(t, program, impl.TCon, "d", 200))
	emptyAt(t, doubled+"datatype t = A of u and u = B of u"+strings.Repeat(" d", 200), "t")
	program = resolved(t, doubled+"datatype t = A of u and u = B of u list"+strings.Repeat(" d", 200))
	declareFails(t, program, impl.DtLarge, nodeOf(t, program, impl.TCon, "d", 200))
}

// chained are TBinds each of which needs the one behind it.
func chained(n int, last string) []string {
	out := []string{}
	for i := range n - 1 {
		out = append(out, "t"+strconv.Itoa(i)+" = A"+strconv.Itoa(i)+" of t"+strconv.Itoa(i+1))
	}
	return append(out, "t"+strconv.Itoa(n-1)+" = Last"+last)
}

func TestEmptyLongChains(t *testing.T) {
	binds := chained(impl.MaxData, "")
	noneWrong(t, "datatype "+strings.Join(binds, " and "))
	slices.Reverse(binds)
	noneWrong(t, "datatype "+strings.Join(binds, " and "), "datatype "+strings.Join(binds, " datatype "))
	binds = chained(impl.MaxData, " of t0")
	emptyAt(t, "datatype "+strings.Join(binds, " and "), "t0")
	slices.Reverse(binds)
	emptyAt(t, "datatype "+strings.Join(binds, " and "), "t199")
	binds = chained(impl.MaxData, " of t198")
	binds[100] += " | Other"
	emptyAt(t, "datatype "+strings.Join(binds, " and "), "t101")
}
