package tests

import (
	"slices"
	"strconv"
	"strings"
	"testing"

	"loop.example/s02665/impl"
)

// The parts of plain types, which have no place.
func typeNum(n int64) []impl.Node { return impl.Join(impl.Node{Kind: impl.TNum, Num: n}, nil) }

func typeMeta(n int64) []impl.Node { return impl.Join(impl.Node{Kind: impl.TMeta, Num: n}, nil) }

func typeCon(text string, kids ...[]impl.Node) []impl.Node {
	return impl.Join(impl.Node{Kind: impl.TCon, Text: text}, kids)
}

func typeArrow(from []impl.Node, to []impl.Node) []impl.Node {
	return impl.Join(impl.Node{Kind: impl.TArrow}, [][]impl.Node{from, to})
}

func typeTuple(kids ...[]impl.Node) []impl.Node {
	return impl.Join(impl.Node{Kind: impl.TTuple}, kids)
}

// plainShown writes a plain type in short: #1 is a TNum, ?1 a TMeta, (a, b) a TTuple, [a, b] a TArrow.
// What a node has that no plain type has is told too, so that texts are the same only where types are.
func plainShown(ty []impl.Node) string {
	if len(ty) == 0 {
		return "nothing"
	}
	root := ty[len(ty)-1]
	kids := []string{}
	for _, kid := range impl.Kids(ty) {
		kids = append(kids, plainShown(kid))
	}
	inside := strings.Join(kids, ", ")
	num := strconv.FormatInt(root.Num, 10)
	out := ""
	switch {
	case root.Kind == impl.TNum && root.Text == "":
		out = "#" + num
	case root.Kind == impl.TMeta && root.Text == "":
		out = "?" + num
	case root.Kind == impl.TArrow && root.Text == "" && root.Num == 0:
		out = "[" + inside + "]"
	case root.Kind == impl.TTuple && root.Text == "" && root.Num == 0:
		out = "(" + inside + ")"
	case root.Kind == impl.TCon && root.Num == 0 && len(kids) == 0:
		out = root.Text
	case root.Kind == impl.TCon && root.Num == 0:
		out = root.Text + "(" + inside + ")"
	default:
		out = "kind " + strconv.Itoa(root.Kind) + " " + root.Text + " " + num + "(" + inside + ")"
	}
	if root.At != 0 {
		out += "@" + strconv.Itoa(root.At)
	}
	return out
}

func conShown(con impl.Con) string {
	out := con.Name + " " + con.Data + " " + strconv.Itoa(con.Params)
	if con.Has || len(con.Arg) > 0 {
		out += " of " + plainShown(con.Arg)
	}
	if con.Has != (len(con.Arg) > 0) {
		out += ", and Has is " + strconv.FormatBool(con.Has)
	}
	return out
}

func consShown(cons []impl.Con) []string {
	out := []string{}
	for _, con := range cons {
		out = append(out, conShown(con))
	}
	return out
}

var givenConsShown = []string{
	"false bool 0", "true bool 0", "nil list 1", ":: list 1 of (#1, list(#1))",
	"Match exn 0", "Bind exn 0", "Div exn 0", "Subscript exn 0", "Chr exn 0", "Size exn 0", "Equal exn 0",
}

// consAre wants the constructors of a source behind the given ones.
func consAre(t *testing.T, src string, want ...string) {
	t.Helper()
	cons, code, node := impl.Declare(resolved(t, src))
	if code != impl.DtOk || node != 0 {
		t.Errorf("%s: code %d at node %d", src, code, node)
		return
	}
	if got := consShown(cons); !slices.Equal(got, slices.Concat(givenConsShown, want)) {
		t.Errorf("%s: %q, want %q", src, got, want)
	}
}

// declareFails wants no constructors, here and where they are asked for one by one.
func declareFails(t *testing.T, program []impl.Node, code int, node int) {
	t.Helper()
	cons, c, n := impl.Declare(program)
	if len(cons) != 0 || c != code || n != node {
		t.Errorf("%.300s: %d constructors, code %d at node %d, want code %d at node %d", impl.Print(program), len(cons), c, n, code, node)
	}
	for _, name := range []string{"false", "::", "Match", "A"} {
		if con, ok := impl.ConOf(program, name); ok || conShown(con) != "  0" {
			t.Errorf("%.300s: ConOf %s is %s", impl.Print(program), name, conShown(con))
		}
	}
	if ty, ok := impl.Plain(program, tcon("int")); ok || len(ty) != 0 {
		t.Errorf("%.300s: Plain of int is %s", impl.Print(program), plainShown(ty))
	}
}

// emptyAt wants DtEmpty at the TBind of this name.
func emptyAt(t *testing.T, src string, name string) {
	t.Helper()
	program := resolved(t, src)
	declareFails(t, program, impl.DtEmpty, nodeOf(t, program, impl.TBind, name, 1))
}

// largeAt wants DtLarge at a type that is told by its root.
func largeAt(t *testing.T, src string, kind int, text string, which int) {
	t.Helper()
	program := resolved(t, src)
	declareFails(t, program, impl.DtLarge, nodeOf(t, program, kind, text, which))
}

func noneWrong(t *testing.T, sources ...string) {
	t.Helper()
	for _, src := range sources {
		cons, code, node := impl.Declare(resolved(t, src))
		if code != impl.DtOk || node != 0 || len(cons) < len(givenConsShown) {
			t.Errorf("%.300s: %d constructors, code %d at node %d", src, len(cons), code, node)
		}
	}
}

func TestDataConstants(t *testing.T) {
	got := []int{impl.MaxType, impl.MaxData, impl.TNum, impl.TMeta, impl.TAll, impl.DtOk, impl.DtProgram, impl.DtLarge, impl.DtEmpty}
	if !slices.Equal(got, []int{300, 200, 60, 61, 62, 0, 1, 2, 3}) {
		t.Error(got)
	}
}

func TestDataExamples(t *testing.T) {
	emptyAt(t, "datatype t = A of t", "t")
	consAre(t, "datatype t = A of t list", "A t 0 of list(t)")
	consAre(t, "datatype t = A of t -> t", "A t 0 of [t, t]")
	emptyAt(t, "datatype t = A of t ref", "t")
	emptyAt(t, "datatype t = A of u and u = C of t", "t")
	emptyAt(t, "datatype 'a t = A of 'a * 'a t", "t")
	consAre(t, "type ('a, 'b) s = 'b * 'a datatype ('x, 'y) t = A of ('y, 'x) s", "A t 2 of (#1, #2)")
	for src, node := range map[string]int{
		"datatype t = A of t":                2,
		"datatype t = A of t ref":            3,
		"datatype t = A of u and u = C of t": 2,
		"datatype 'a t = A of 'a * 'a t":     6,
	} {
		declareFails(t, resolved(t, src), impl.DtEmpty, node)
	}
}

func TestDataGivenConstructors(t *testing.T) {
	consAre(t, "")
	consAre(t, "val x = 1 fun f y = f (x : int) type t = int val z = 2")
	cons, _, _ := impl.Declare(resolved(t, ""))
	for i, want := range []impl.Con{
		{Name: "false", Data: "bool"}, {Name: "true", Data: "bool"}, {Name: "nil", Data: "list", Params: 1},
		{Name: "::", Data: "list", Params: 1, Has: true},
		{Name: "Match", Data: "exn"}, {Name: "Bind", Data: "exn"}, {Name: "Div", Data: "exn"}, {Name: "Subscript", Data: "exn"},
		{Name: "Chr", Data: "exn"}, {Name: "Size", Data: "exn"}, {Name: "Equal", Data: "exn"},
	} {
		got := cons[i]
		if got.Name != want.Name || got.Data != want.Data || got.Params != want.Params || got.Has != want.Has {
			t.Errorf("%d is %s", i, conShown(got))
		}
		arg := []impl.Node{}
		if i == 3 {
			arg = typeTuple(typeNum(1), typeCon("list", typeNum(1)))
		}
		if !slices.Equal(got.Arg, arg) {
			t.Errorf("%d has the Arg %s", i, plainShown(got.Arg))
		}
	}
}

func TestDataConstructorsInOrder(t *testing.T) {
	consAre(t, "datatype t = A", "A t 0")
	consAre(t, "datatype t = B | A of int | C of string", "B t 0", "A t 0 of int", "C t 0 of string")
	consAre(t, "datatype u = B of t and t = A of u | C", "B u 0 of t", "A t 0 of u", "C t 0")
	consAre(t, "exception E", "E exn 0")
	consAre(t, "exception E of int exception D exception F of exn", "E exn 0 of int", "D exn 0", "F exn 0 of exn")
	consAre(t, "datatype t = A exception E of t list -> t datatype z = Z", "A t 0", "E exn 0 of [list(t), t]", "Z z 0")
	consAre(t, "exception Z datatype t = Y | X and s = W exception V of t datatype r = U of s",
		"Z exn 0", "Y t 0", "X t 0", "W s 0", "V exn 0 of t", "U r 0 of s")
	consAre(t, "datatype t = A val x = A exception B val y = B datatype u = C fun f A = B", "A t 0", "B exn 0", "C u 0")
}

func TestDataParams(t *testing.T) {
	consAre(t, "datatype 'a t = A | B of 'a", "A t 1", "B t 1 of #1")
	consAre(t, "datatype ('a, 'b) t = A of 'b | B of 'a | C of 'b * 'a * 'b | D", "A t 2 of #2", "B t 2 of #1", "C t 2 of (#2, #1, #2)", "D t 2")
	consAre(t, "datatype ('h, 'g, 'f, 'e, 'd, 'c, 'b, 'a) t = A of ('a, 'b, 'c, 'd, 'e, 'f, 'g, 'h) t | B of 'h -> 'a | C",
		"A t 8 of t(#8, #7, #6, #5, #4, #3, #2, #1)", "B t 8 of [#1, #8]", "C t 8")
	consAre(t, "datatype 'a t = A of 'a and ('b, 'a) u = B of 'a t | C of 'b t and w = D of (int, w) u",
		"A t 1 of #1", "B u 2 of t(#2)", "C u 2 of t(#1)", "D w 0 of u(int, w)")
	consAre(t, "datatype 'a t = A of 'a datatype 'a u = B of 'a exception E of int t", "A t 1 of #1", "B u 1 of #1", "E exn 0 of t(int)")
}

func TestDataArgsOfEveryKind(t *testing.T) {
	consAre(t, "datatype 'a t = A of unit | B of 'a ref list | C of 'a -> int -> 'a | D of ('a -> int) -> 'a | E of 'a * ('a * 'a) * unit",
		"A t 1 of ()", "B t 1 of list(ref(#1))", "C t 1 of [#1, [int, #1]]", "D t 1 of [[#1, int], #1]", "E t 1 of (#1, (#1, #1), ())")
	consAre(t, "exception E of unit * bool * string * exn", "E exn 0 of ((), bool, string, exn)")
	consAre(t, "datatype 'a t = A of int t t | B of ('a t list) t | C", "A t 1 of t(t(int))", "B t 1 of t(list(t(#1)))", "C t 1")
}

func TestDataAbbreviations(t *testing.T) {
	consAre(t, "type i = int exception E of i", "E exn 0 of int")
	consAre(t, "type i = int type j = i type k = j * i exception E of k", "E exn 0 of (int, int)")
	consAre(t, "type 'a id = 'a datatype 'b t = A of 'b id | B of 'b id id id | C of int id", "A t 1 of #1", "B t 1 of #1", "C t 1 of int")
	consAre(t, "type ('a, 'b) s = 'b * 'a exception E of (int, string) s exception F of ((int, string) s, (string, int) s) s",
		"E exn 0 of (string, int)", "F exn 0 of ((int, string), (string, int))")
	consAre(t, "type 'a d = 'a * 'a datatype 'a t = A of 'a d | B of 'a d d | C of 'a d -> 'a d",
		"A t 1 of (#1, #1)", "B t 1 of ((#1, #1), (#1, #1))", "C t 1 of [(#1, #1), (#1, #1)]")
	consAre(t, "type ('a, 'b) k = 'a datatype ('a, 'b) t = A of ('a, 'b) k | B of ('b, 'a) k | C of (int, ('a, 'b) k list) k",
		"A t 2 of #1", "B t 2 of #2", "C t 2 of int")
	consAre(t, "type 'a none = unit datatype 'b t = A of 'b none | B of 'b t none none", "A t 1 of ()", "B t 1 of ()")
}

// A DType is known behind it alone, so the params of one have nothing to do with those of another.
func TestDataAbbreviationsOfAbbreviations(t *testing.T) {
	front := "type ('a, 'b) s = 'b * 'a "
	consAre(t, front+"type ('b, 'a) r = ('b, 'a) s datatype ('x, 'y) t = A of ('x, 'y) r", "A t 2 of (#2, #1)")
	consAre(t, front+"type ('a, 'b) r = ('b, 'a) s datatype ('x, 'y) t = A of ('x, 'y) r", "A t 2 of (#1, #2)")
	consAre(t, front+"type 'a r = ('a, 'a list) s datatype ('x, 'y) t = A of 'y r", "A t 2 of (list(#2), #2)")
	consAre(t, front+"type ('a, 'b, 'c) r = ('c, ('b, 'a) s) s datatype ('x, 'y) t = A of ('x, int, 'y) r", "A t 2 of ((#1, int), #2)")
	consAre(t, "type 'a f = 'a -> 'a type 'a g = 'a f f type h = int g exception E of h", "E exn 0 of [[int, int], [int, int]]")
	consAre(t, "datatype 'a t = A of 'a type 'a u = 'a t list type v = int u u datatype w = B of v", "A t 1 of #1", "B w 0 of list(t(list(t(int))))")
}
