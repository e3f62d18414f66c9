package tests

import (
	"fmt"
	"math"
	"slices"
	"strconv"
	"strings"
	"testing"

	"loop.example/s02665/impl"
)

// typeOf is the type of a source alone.
func typeOf(t *testing.T, src string) []impl.Node {
	t.Helper()
	return impl.Kids(impl.Kids(impl.Kids(parsed(t, "val x : "+src+" = 1"))[0])[0])[1]
}

func plainIs(t *testing.T, program string, src string, want string) {
	t.Helper()
	got, ok := impl.Plain(resolved(t, program), typeOf(t, src))
	if !ok || plainShown(got) != want {
		t.Errorf("%.300s, in %s: %.300s %v, want %.300s", src, program, plainShown(got), ok, want)
	}
}

func noPlain(t *testing.T, program []impl.Node, types ...[]impl.Node) {
	t.Helper()
	for _, ty := range types {
		if got, ok := impl.Plain(program, ty); ok || len(got) != 0 {
			t.Errorf("%.300s, in %s: %.300s %v", fmt.Sprint(ty), impl.Print(program), plainShown(got), ok)
		}
	}
}

func TestPlainVars(t *testing.T) {
	plainIs(t, "", "'a", "?1")
	plainIs(t, "", "'b -> 'a", "[?1, ?2]")
	plainIs(t, "", "'c * 'a * 'b * 'a * 'c * 'd", "(?1, ?2, ?3, ?2, ?1, ?4)")
	plainIs(t, "", "('z -> 'y) -> 'y list * 'z ref", "[[?1, ?2], (list(?2), ref(?1))]")
	// Params of the program have nothing to do with them.
	plainIs(t, "type ('a, 'b) s = 'b * 'a", "('b, 'a) s", "(?2, ?1)")
	plainIs(t, "type ('a, 'b) s = 'b * 'a", "('x, 'x) s", "(?1, ?1)")
	plainIs(t, "type ('a, 'b) s = 'b * 'a", "'y list * ('x, 'y) s", "(list(?1), (?1, ?2))")
	plainIs(t, "datatype ('a, 'b) t = A", "('q, 'p) t", "t(?1, ?2)")
}

// A TVar that is dropped is counted all the same.
func TestPlainDroppedVars(t *testing.T) {
	program := "type ('a, 'b) last = 'b type 'a no = int "
	plainIs(t, program, "('x, 'y) last", "?2")
	plainIs(t, program, "'x no * 'y", "(int, ?2)")
	plainIs(t, program, "'x no", "int")
	plainIs(t, program, "('x * 'y * 'z) no -> 'w * 'y", "[int, (?4, ?2)]")
	plainIs(t, program, "(('x, 'y) last, 'x) last", "?1")
}

func TestPlainTypes(t *testing.T) {
	program := "datatype 'a t = A of 'a and u = B type i = int type ('a, 'b) s = ('b * 'a) t exception E val x = 1"
	for src, want := range map[string]string{
		"int": "int", "string": "string", "exn": "exn", "bool": "bool", "unit": "()", "int list": "list(int)", "int ref": "ref(int)",
		"u": "u", "int t": "t(int)", "u t t": "t(t(u))", "i": "int", "i -> i": "[int, int]", "(i, u) s": "t((u, int))",
		"((i, 'a) s, i) s list": "list(t((int, t((?1, int)))))", "int -> unit": "[int, ()]", "int -> int -> int": "[int, [int, int]]",
		"(int -> int) -> int": "[[int, int], int]", "(int * i) * u": "((int, int), u)", "unit * unit": "((), ())",
	} {
		plainIs(t, program, src, want)
	}
}

func TestPlainUnknownTypes(t *testing.T) {
	program := resolved(t, "type i = int type 'a no = int datatype ('a, 'b) t = A datatype u = B val x = 1")
	for _, src := range []string{
		"t", "int t", "(int, int, int) t", "int u", "int i", "no", "(int, int) no", "int int", "list", "ref", "(int, int) list", "(int, int) ref",
		"int string", "int bool", "int exn", "v", "int v", "x", "a", "no1", "i'", "int -> v", "v * int", "v list", "(int, v) t", "int no -> v",
		// dropped ones too
		"v no", "int i no", "list no", "(int -> v) no no", "(int * t) no",
	} {
		noPlain(t, program, typeOf(t, src))
	}
	for _, src := range []string{"(int, int) t", "u", "i", "int no", "(int, int) t no"} {
		if _, ok := impl.Plain(program, typeOf(t, src)); !ok {
			t.Errorf("%s has no plain type", src)
		}
	}
	// At the end of the program all is known.
	plainIs(t, "val x = 1 datatype t = A of u and u = B of t | C", "t * u", "(t, u)")
	plainIs(t, "val x = 1 type z = int", "z", "int")
}

func TestPlainOfOtherSorts(t *testing.T) {
	program := resolved(t, "datatype t = A")
	for name, it := range goodTerms() {
		if impl.SortOf(it) != impl.SortType {
			if got, ok := impl.Plain(program, it); ok || len(got) != 0 {
				t.Errorf("%s: %s", name, plainShown(got))
			}
		}
	}
	for name, it := range badLists() {
		if got, ok := impl.Plain(program, it); ok || len(got) != 0 {
			t.Errorf("%s: %s", name, plainShown(got))
		}
	}
	noPlain(t, program, nil, []impl.Node{}, program, evar("x"), pvar("x"), made(impl.EInt, 1, ""), parsed(t, "type t = int"),
		typeNum(1), typeMeta(1), typeCon("list", typeMeta(1)), typeCon("unit"), typeCon(""), typeCon("List"), typeTuple(typeCon("int")),
		made(impl.TCon, 1, "int"), made(impl.TVar, 0, ""), made(impl.TArrow, 0, "", tcon("int")), made(impl.TTuple, 0, "x"),
		made(impl.TAll, 1, "", tcon("int")), made(impl.TCon, 0, "list", evar("x")), made(impl.CBind, 0, "A"))
}

func TestPlainInProgramsThatFail(t *testing.T) {
	for _, program := range [][]impl.Node{
		nil, tcon("int"), evar("x"), parsed(t, "val x = 1"), parsed(t, "val x = y"), made(impl.KProgram, 1, ""),
		resolved(t, "datatype t = A of t"), resolved(t, "type t = "+typeSized(impl.MaxType+1)), resolved(t, "val x : "+typeSized(impl.MaxType+1)+" = 1"),
		resolved(t, "datatype "+strings.Join(tbinds("t", impl.MaxData+1), " and ")),
	} {
		noPlain(t, program, tcon("int"), typeOf(t, "'a -> 'a"))
	}
	plainIs(t, "datatype "+strings.Join(tbinds("t", impl.MaxData), " and "), "t0 -> t199", "[t0, t199]")
}

func TestPlainSizes(t *testing.T) {
	program := "type 'a d = 'a * 'a * int type 'a no = int type ('a, 'b) k = 'b datatype 'a t = A"
	it := resolved(t, program)
	for _, size := range []int{1, 2, 3, impl.MaxType - 1, impl.MaxType} {
		got, ok := impl.Plain(it, typeOf(t, typeSized(size)))
		if !ok || len(got) != size {
			t.Errorf("%d nodes: %d %v", size, len(got), ok)
		}
	}
	for _, size := range []int{impl.MaxType + 1, impl.MaxType + 2, 3000} {
		noPlain(t, it, typeOf(t, typeSized(size)), typeOf(t, typeSized(size)+" t"), typeOf(t, "('a, "+typeSized(size)+") k"))
		plainIs(t, program, typeSized(size)+" no", "int")
		plainIs(t, program, "("+typeSized(size)+", 'a) k", "?1")
	}
	half := typeSized(impl.MaxType/2 - 1)
	if got, ok := impl.Plain(it, typeOf(t, half+" d")); !ok || len(got) != impl.MaxType {
		t.Errorf("doubled: %d %v", len(got), ok)
	}
	noPlain(t, it, typeOf(t, half+" d list"), typeOf(t, half+" t d"), typeOf(t, half+" d d"), typeOf(t, "int"+strings.Repeat(" d", 290)))
	plainIs(t, program, "int"+strings.Repeat(" d", 290)+" no", "int")
}

// So deep that no type is deeper, and of all nodes that there may be.
func TestPlainLimits(t *testing.T) {
	it := resolved(t, "type 'a id = 'a type 'a no = unit datatype 'a t = A")
	deep := func(name string) []impl.Node {
		ty := made(impl.TVar, 0, "a")
		for range impl.MaxDeep - 1 {
			ty = made(impl.TCon, 0, name, ty)
		}
		return ty
	}
	for name, want := range map[string]int{"id": 1, "no": 1, "t": impl.MaxType, "list": impl.MaxType} {
		if got, ok := impl.Plain(it, deep(name)); !ok || len(got) != want {
			t.Errorf("%s: %d nodes, %v", name, len(got), ok)
		}
	}
	noPlain(t, it, made(impl.TCon, 0, "id", deep("id")))
	kids := [][]impl.Node{}
	for i := range impl.MaxNodes - 1 {
		kids = append(kids, made(impl.TVar, 0, "v"+strconv.Itoa(i)))
	}
	noPlain(t, it, made(impl.TTuple, 0, "", kids...))
	last := kids[:impl.MaxNodes-4]
	ty := made(impl.TTuple, 0, "", made(impl.TCon, 0, "no", made(impl.TTuple, 0, "", last[1:]...)), made(impl.TVar, 0, "z"))
	got, ok := impl.Plain(it, ty)
	if want := typeTuple(typeTuple(), typeMeta(int64(len(last)))); !ok || !slices.Equal(got, want) {
		t.Errorf("%s %v", plainShown(got), ok)
	}
}

func isGround(t *testing.T, ty []impl.Node, want bool) {
	t.Helper()
	before := slices.Clone(ty)
	if impl.Ground(ty) != want {
		t.Errorf("Ground of %.300s is %v", fmt.Sprint(ty), !want)
	}
	if !slices.Equal(ty, before) {
		t.Errorf("%.300s was changed", fmt.Sprint(before))
	}
}

func TestGround(t *testing.T) {
	for _, ty := range [][]impl.Node{
		typeNum(1), typeNum(math.MaxInt64), typeCon("int"), typeCon("any", typeNum(1)), typeCon("list", typeCon("t", typeNum(2), typeNum(1))),
		typeCon(""), typeCon("unit"), typeCon("A"), typeCon("'a"), typeCon("\x00 \xff"), typeCon("::"), typeCon("int", typeCon("int")),
		typeCon("t", slices.Repeat([][]impl.Node{typeNum(9)}, 20)...), typeTuple(), typeTuple(typeNum(1), typeNum(1)),
		typeTuple(typeTuple(), typeTuple(), typeTuple()), typeArrow(typeNum(1), typeTuple()), typeArrow(typeArrow(typeNum(1), typeNum(2)), typeCon("x")),
	} {
		isGround(t, ty, true)
	}
	for _, ty := range [][]impl.Node{
		nil, {}, typeMeta(1), typeArrow(typeNum(1), typeMeta(1)), typeTuple(typeMeta(2), typeCon("int")), typeCon("list", typeMeta(1)),
		typeNum(0), typeNum(-1), typeNum(math.MinInt64), typeTuple(typeNum(1)), typeTuple(typeTuple(typeNum(1)), typeNum(1)),
		impl.Join(impl.Node{Kind: impl.TVar, Text: "a"}, nil), typeArrow(impl.Join(impl.Node{Kind: impl.TVar, Text: "a"}, nil), typeNum(1)),
		impl.Join(impl.Node{Kind: impl.TAll, Num: 1}, [][]impl.Node{typeNum(1)}), impl.Join(impl.Node{Kind: impl.TAll, Num: 1}, nil),
		impl.Join(impl.Node{Kind: impl.TArrow}, nil), impl.Join(impl.Node{Kind: impl.TArrow}, [][]impl.Node{typeNum(1)}),
		impl.Join(impl.Node{Kind: impl.TArrow}, [][]impl.Node{typeNum(1), typeNum(1), typeNum(1)}),
		impl.Join(impl.Node{Kind: impl.TNum, Num: 1}, [][]impl.Node{typeNum(1)}), {{Kind: impl.TNum, Num: 1, Text: "a"}},
		{{Kind: impl.TCon, Num: 1, Text: "int"}}, {{Kind: impl.TCon, Num: -1, Text: "int"}}, {{Kind: impl.TTuple, Num: 1}}, {{Kind: impl.TTuple, Text: "x"}},
		impl.Join(impl.Node{Kind: impl.TArrow, Num: 1}, [][]impl.Node{typeNum(1), typeNum(1)}),
		impl.Join(impl.Node{Kind: impl.TArrow, Text: "x"}, [][]impl.Node{typeNum(1), typeNum(1)}),
		typeOf(t, "int"), typeOf(t, "'a"), evar("x"), parsed(t, "val x = 1"),
	} {
		isGround(t, ty, false)
	}
	for kind := -1; kind <= 70; kind++ {
		isGround(t, []impl.Node{{Kind: kind}}, isOneOf(kind, impl.TCon, impl.TTuple))
		isGround(t, []impl.Node{{Kind: kind, Num: 1}}, kind == impl.TNum)
		isGround(t, impl.Join(impl.Node{Kind: kind}, [][]impl.Node{typeNum(1), typeNum(2)}), isOneOf(kind, impl.TCon, impl.TArrow, impl.TTuple))
	}
}

// Each node is asked, wherever it stands.
func TestGroundAsksEachNode(t *testing.T) {
	ty := typeArrow(typeTuple(typeNum(1), typeCon("list", typeNum(2)), typeTuple()), typeCon("t", typeArrow(typeNum(1), typeCon("int")), typeNum(3)))
	isGround(t, ty, true)
	for i, n := range ty {
		for _, change := range []func(n *impl.Node){
			func(n *impl.Node) { n.At = 1 }, func(n *impl.Node) { n.At = -1 }, func(n *impl.Node) { n.Kind = impl.TVar }, func(n *impl.Node) { n.Kind = impl.TMeta },
			func(n *impl.Node) { n.Kids = -1 }, func(n *impl.Node) { n.Kids += 100 },
			func(n *impl.Node) { n.Num = -n.Num - 1 }, func(n *impl.Node) { n.Kids++ }, func(n *impl.Node) { n.Kids-- },
		} {
			changed := slices.Clone(ty)
			change(&changed[i])
			isGround(t, changed, false)
		}
		changed := slices.Clone(ty)
		changed[i].Text += "x"
		isGround(t, changed, n.Kind == impl.TCon)
		changed[i] = n
		changed[i].Num++
		isGround(t, changed, n.Kind == impl.TNum)
		isGround(t, ty[:i], impl.Good(ty[:i]))
		isGround(t, ty[i+1:], false)
	}
	isGround(t, slices.Concat(ty, ty), false)
}

func TestGroundLimits(t *testing.T) {
	kids := slices.Repeat([][]impl.Node{typeNum(1)}, impl.MaxType)
	isGround(t, typeTuple(kids[1:]...), true)
	isGround(t, typeTuple(kids...), false)
	isGround(t, typeCon("t", kids[1:]...), true)
	isGround(t, typeCon("t", kids...), false)
	deep := typeNum(1)
	for range impl.MaxType - 1 {
		deep = typeCon("list", deep)
	}
	isGround(t, deep, true)
	isGround(t, typeCon("list", deep), false)
	for _, it := range badLists() {
		isGround(t, it, false)
	}
	isGround(t, typeTuple(slices.Repeat([][]impl.Node{typeNum(1)}, impl.MaxNodes-1)...), false)
}

func TestConOf(t *testing.T) {
	program := resolved(t, "type 'a d = 'a * 'a datatype ('a, 'b) t = A of 'b d | B and u = C of (u, int) t list exception D of int exception E")
	cons, code, _ := impl.Declare(program)
	if code != impl.DtOk || len(cons) != 16 {
		t.Fatalf("%d constructors, code %d", len(cons), code)
	}
	for _, want := range cons {
		got, ok := impl.ConOf(program, want.Name)
		if !ok || conShown(got) != conShown(want) {
			t.Errorf("%s is %s %v", conShown(want), conShown(got), ok)
		}
	}
	for _, name := range []string{"", "F", "a", "t", "u", "d", "AA", "A ", "int", "list", "exn", ":", "match", "True", "unit", "'a"} {
		if got, ok := impl.ConOf(program, name); ok || conShown(got) != "  0" || got.Arg != nil && len(got.Arg) > 0 {
			t.Errorf("%s is %s %v", name, conShown(got), ok)
		}
	}
	for _, it := range [][]impl.Node{nil, tcon("int"), parsed(t, "val x = 1"), resolved(t, "datatype t = A of t")} {
		for _, name := range []string{"", "A", "true", "::", "Match"} {
			if got, ok := impl.ConOf(it, name); ok || conShown(got) != "  0" {
				t.Errorf("%s is %s %v", name, conShown(got), ok)
			}
		}
	}
}

func TestDeclareNotResolved(t *testing.T) {
	for _, src := range []string{
		"val x = 1", "val x = y", "fun f x = x", "datatype t = A of u", "datatype t = A and t = B", "datatype t = A of 'a", "type t = int list list1",
		"exception Match", "exception E of 'a", "datatype t = A of t val A = x", "type 'a t = int val x = 1", "datatype t = A of t val x = 1",
	} {
		declareFails(t, parsed(t, src), impl.DtProgram, 0)
	}
	good := resolved(t, "val x = 1 datatype t = A of int fun f y = (x, y, f)")
	if _, code, _ := impl.Declare(good); code != impl.DtOk {
		t.Errorf("code %d", code)
	}
	for i, n := range good {
		if isOneOf(n.Kind, impl.PVar, impl.EVar, impl.FBind) {
			for _, num := range []int64{0, -1, n.Num + 1, math.MaxInt64, math.MinInt64} {
				changed := slices.Clone(good)
				changed[i].Num = num
				declareFails(t, changed, impl.DtProgram, 0)
			}
		}
		// Places do not count.
		changed := slices.Clone(good)
		changed[i].At = 12345
		if _, code, _ := impl.Declare(changed); code != impl.DtOk {
			t.Errorf("another place: code %d", code)
		}
	}
}

func TestDeclareNoPrograms(t *testing.T) {
	for _, it := range badLists() {
		declareFails(t, it, impl.DtProgram, 0)
	}
	for _, it := range goodTerms() {
		if impl.SortOf(it) != impl.SortProgram {
			declareFails(t, it, impl.DtProgram, 0)
		}
	}
	for _, it := range [][]impl.Node{
		nil, {}, evar("x"), pvar("x"), tcon("int"), made(impl.EInt, 5, ""), made(impl.DExn, 0, "E"), made(impl.KProgram, 1, ""), made(impl.KProgram, 0, "x"),
		made(impl.KProgram, 0, "", tcon("int")), made(impl.KProgram, 0, "", made(impl.TBind, 0, "t", made(impl.CBind, 0, "A"))), typeNum(1), typeMeta(1),
	} {
		declareFails(t, it, impl.DtProgram, 0)
	}
}
