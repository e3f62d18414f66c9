package tests

import (
	"math"
	"slices"
	"strconv"
	"strings"
	"testing"

	"loop.example/s02665/impl"
)

// typesFound wants types, which are held against those that are found by hand.
func typesFound(t *testing.T, src string) ([]impl.Node, impl.Typed) {
	t.Helper()
	program := resolved(t, src)
	typed := checkInfer(t, program)
	if typed.Code != impl.TyOk || typed.Node != 0 {
		t.Errorf("%s: code %d at node %d", src, typed.Code, typed.Node)
	}
	return program, typed
}

// schemesAre wants the types for people of the last binders with these names, each with a type as it
// is written in a source.
func schemesAre(t *testing.T, src string, want ...string) {
	t.Helper()
	program, typed := typesFound(t, src)
	for pair := range slices.Chunk(want, 2) {
		plain, _ := impl.Plain(program, typeOf(t, pair[1]))
		found := false
		for _, b := range slices.Backward(typed.Binders) {
			if b.Name == pair[0] && !found {
				found = true
				if got := impl.Scheme(b); len(plain) == 0 || plainShown(got) != plainShown(impl.Canon(plain)) {
					t.Errorf("%s\n%s is %s, want %s", src, b.Name, plainShown(got), plainShown(plain))
				}
			}
		}
		if !found && typed.Code == impl.TyOk {
			t.Errorf("%s\nthere is no %s", src, pair[0])
		}
	}
}

// bindersAre wants all binders in their order: the name, its variables if there are any, and the type.
func bindersAre(t *testing.T, src string, want ...string) {
	t.Helper()
	program, typed := typesFound(t, src)
	got := []string{}
	for k, b := range typed.Binders {
		vars := ""
		if b.From != 0 || b.Count != 0 {
			vars = " " + strconv.Itoa(b.Count) + " from " + strconv.FormatInt(b.From, 10)
		}
		got = append(got, b.Name+vars+": "+plainShown(b.Type))
		if b.Num != int64(k+1) || program[b.Node].Num != b.Num || program[b.Node].Text != b.Name || program[b.Node].Kind == impl.EVar {
			t.Errorf("%s\n%s has number %d and node %d", src, b.Name, b.Num, b.Node)
		}
	}
	if !slices.Equal(got, want) {
		t.Errorf("%s\n%s\nwant\n%s", src, strings.Join(got, "\n"), strings.Join(want, "\n"))
	}
}

// usesAre wants all uses in their order: the kind, the Text if there is one, and the types.
func usesAre(t *testing.T, src string, want ...string) {
	t.Helper()
	program, typed := typesFound(t, src)
	got := []string{}
	for _, u := range typed.Uses {
		types := []string{}
		for _, ty := range u.Types {
			types = append(types, plainShown(ty))
		}
		n := program[u.Node]
		got = append(got, strings.TrimSpace(kindName(n.Kind)+" "+n.Text)+": "+strings.Join(types, ", "))
	}
	if !slices.Equal(got, want) {
		t.Errorf("%s\n%s\nwant\n%s", src, strings.Join(got, "\n"), strings.Join(want, "\n"))
	}
}

// failsAt wants a code, and nothing beside it.
func failsAt(t *testing.T, program []impl.Node, code int, node int) {
	t.Helper()
	typed := checkInfer(t, program)
	if typed.Code != code || typed.Node != node || len(typed.Binders) != 0 || len(typed.Uses) != 0 {
		t.Errorf("%.300s\ncode %d at node %d with %d binders and %d uses, want code %d at node %d",
			impl.Print(program), typed.Code, typed.Node, len(typed.Binders), len(typed.Uses), code, node)
	}
}

// clashAt wants a clash at a node that is told by its kind, its Text and how many such ones there are
// up to it.
func clashAt(t *testing.T, src string, kind int, text string, which int) {
	t.Helper()
	program := resolved(t, src)
	failsAt(t, program, impl.TyClash, nodeOf(t, program, kind, text, which))
}

func TestTypesConstants(t *testing.T) {
	if impl.TyOk != 0 || impl.TyProgram != 1 || impl.TyClash != 2 || impl.TyLarge != 3 {
		t.Error("codes")
	}
}

func TestTypesExamples(t *testing.T) {
	schemesAre(t, "fun id x = x", "id", "'a -> 'a")
	schemesAre(t, "fun comp f g x = f (g x)", "comp", "('a -> 'b) -> ('c -> 'a) -> 'c -> 'b")
	schemesAre(t, "fun f x = f x", "f", "'a -> 'b")
	schemesAre(t, "val r = ref nil", "r", "unit list ref")
	schemesAre(t, "val r = ref nil val _ = r := [1]", "r", "int list ref")
	schemesAre(t, "val a = nil val b = [nil]", "a", "'a list", "b", "'a list list")
	schemesAre(t, "val (f, g) = (fn x => x, 1)", "f", "unit -> unit", "g", "int")
	schemesAre(t, "fun o x = let fun k y = (x, y) in (k 1, k true) end", "o", "'a -> ('a * int) * ('a * bool)")
	schemesAre(t, "fun f (x : 'a) (y : 'a) = (x, y)", "f", "'a -> 'a -> 'a * 'a")
	schemesAre(t, "fun f (x : 'a) = let val k = fn (z : 'a) => z in k x end", "f", "'a -> 'a")
	schemesAre(t, "fun f x = g x and g y = (f y; y)", "f", "'a -> 'a", "g", "'a -> 'a")
	bindersAre(t, "fun f (x : 'a) = let val k = fn (z : 'a) => z in k x end", "x: #1", "k: [#1, #1]", "z: #1", "f 1 from 1: [#1, #1]")
	bindersAre(t, "fun f x = g x and g y = (f y; y)", "x: #1", "f 1 from 1: [#1, #1]", "y: #1", "g 1 from 1: [#1, #1]")

	clashAt(t, "val f = fn x => x x", impl.EApp, "", 1)
	clashAt(t, "fun f x = x and g y = (f 1, f true)", impl.EApp, "", 2)
	clashAt(t, "fun f 1 = 2 | f true = 3", impl.FBind, "f", 1)
	clashAt(t, "val r = ref nil val _ = r := [1] val _ = r := [true]", impl.EBin, ":=", 2)
}

func TestTypesOfNoPrograms(t *testing.T) {
	for _, it := range badLists() {
		failsAt(t, it, impl.TyProgram, 0)
	}
	for _, it := range goodTerms() {
		if impl.SortOf(it) != impl.SortProgram {
			failsAt(t, it, impl.TyProgram, 0)
		}
	}
	for _, it := range [][]impl.Node{
		nil, {}, evar("x"), pvar("x"), tcon("int"), made(impl.EInt, 5, ""), made(impl.DExn, 0, "E"), made(impl.DVal, 0, "", pvar("x"), made(impl.EInt, 1, "")),
		made(impl.KProgram, 1, ""), made(impl.KProgram, 0, "x"), made(impl.KProgram, 0, "", tcon("int")), made(impl.Rule, 0, "", pvar("x"), evar("x")),
		typeNum(1), typeMeta(1),
	} {
		failsAt(t, it, impl.TyProgram, 0)
	}
	if typed := checkInfer(t, programOf()); typed.Code != impl.TyOk || len(typed.Binders) != 0 || len(typed.Uses) != 0 {
		t.Errorf("the empty program: %s", typedShown(typed))
	}
}

// Names that are wrong, or not resolved, and wrong datatypes: what has no types for that reason too.
func TestTypesWhereDeclareHasACode(t *testing.T) {
	for _, src := range []string{
		"val x = 1", "val x = y", "val A = 1", "val true x = 1", "val (x, x) = 1", "fun f x = 1 and f x = 2", "datatype t = A and t = B", "datatype t = A of 'a",
		"val x : t = 1", "val x : int list list1 = 1", "val x : list = 1", "fun f x = x",
	} {
		failsAt(t, parsed(t, src), impl.TyProgram, 0)
	}
	for _, src := range []string{
		"datatype t = A of t", "datatype t = A of t ref val x = 1 + true", "val x = 1 1 datatype 'a t = A of 'a * 'a t",
		"type t = " + typeSized(impl.MaxType+1), "val x : " + typeSized(impl.MaxType+1) + " = 1", "val x = 1 : " + typeSized(impl.MaxType+1),
		"exception E of " + typeSized(impl.MaxType+1), "datatype t = A of " + typeSized(impl.MaxType+1),
	} {
		failsAt(t, resolved(t, src), impl.TyProgram, 0)
	}
	many := resolved(t, "datatype "+strings.Join(tbinds("t", impl.MaxData+1), " and ")+" val x = 1")
	failsAt(t, many, impl.TyProgram, 0)
	good := resolved(t, "val x = 1 fun f y = (x, y, f)")
	good[len(good)-1].At = 0
	for i, n := range good {
		if !isOneOf(n.Kind, impl.PVar, impl.EVar, impl.FBind) {
			continue
		}
		for _, num := range []int64{0, -1, -8, n.Num + 1, math.MaxInt64, math.MinInt64} {
			changed := slices.Clone(good)
			changed[i].Num = num
			failsAt(t, changed, impl.TyProgram, 0)
		}
	}
	// With MaxData datatypes there are types still.
	schemesAre(t, "datatype "+strings.Join(tbinds("t", impl.MaxData), " and ")+" fun f x = x", "f", "'a -> 'a")
}

// Places do not count, and types have none.
func TestTypesWithoutPlaces(t *testing.T) {
	program := resolved(t, "datatype 'a t = A of 'a * int fun f (x : 'a t) = case x of A (y, 1) => [y] | A (z : 'a, _) => nil val g = fn x => (f x, A)")
	want := typedShown(checkInfer(t, program))
	for i := range program {
		program[i].At = 7 * i
	}
	if got := typedShown(checkInfer(t, program)); got != want {
		t.Errorf("%s\nwant %s", got, want)
	}
}
