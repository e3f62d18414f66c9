package tests

import (
	"math"
	"math/rand"
	"slices"
	"strings"
	"testing"

	"loop.example/s02665/impl"
)

// expOf is the exp of a source alone.
func expOf(t *testing.T, src string) []impl.Node {
	t.Helper()
	return impl.Kids(impl.Kids(parsed(t, "val it = "+src))[0])[1]
}

// freeAre wants the names, whatever the Nums are.
func freeAre(t *testing.T, src string, want string) {
	t.Helper()
	it := expOf(t, src)
	for _, num := range []int64{0, 1, 2, -1, math.MaxInt64, math.MinInt64} {
		for i, n := range it {
			if isOneOf(n.Kind, impl.PVar, impl.PAs, impl.FBind, impl.EVar) {
				it[i].Num = num
			}
		}
		if got := impl.Free(it); !slices.Equal(got, strings.Fields(want)) {
			t.Errorf("%s with Nums %d: %q, want %s", src, num, got, want)
		}
	}
}

func TestFree(t *testing.T) {
	freeAre(t, "1", "")
	freeAre(t, "x", "x")
	freeAre(t, "A", "")
	freeAre(t, "A : t", "")
	freeAre(t, "x + y + x", "x y")
	freeAre(t, "(c, a, b, a, c, d)", "c a b d")
	freeAre(t, "(a; b c; if d then e else f; while g do h; raise i; ~ j; !k; l : int; m andalso n; p orelse q; r := s; t :: [u])",
		"a b c d e f g h i j k l m n p q r s t u")
	freeAre(t, "fn x => x", "")
	freeAre(t, "fn x => y", "y")
	freeAre(t, "fn x => x | y => x", "x")
	freeAre(t, "fn y => x | x => y", "x y")
	freeAre(t, "fn (x, y as z :: A w) => (w, x, y, z, v)", "v")
	freeAre(t, "case x of x => x", "x")
	freeAre(t, "case a of (b, c) => b d | e as _ => e c", "a d c")
	freeAre(t, "x handle x => x | y => (x, y, z)", "x z")
	freeAre(t, "let val x = x in x end", "x")
	freeAre(t, "let val x = 1 in x end", "")
	freeAre(t, "let val x = 1 val y = x val x = y in (x, y, z) end", "z")
	freeAre(t, "let val y = x val x = 1 in x end", "x")
	freeAre(t, "let fun f x = g x and g y = f z in f end", "z")
	freeAre(t, "let fun f x = f y | f y = x in (f, x, y) end", "y x")
	freeAre(t, "let val a = f fun f x = a in f end", "f")
	freeAre(t, "let fun f f = f in f end", "")
	freeAre(t, "let fun x y = 1 in let val y = x in y end end", "")
	// What is bound in one place and free in another.
	freeAre(t, "(fn x => x) x", "x")
	freeAre(t, "(x, let val x = 1 in x end)", "x")
	freeAre(t, "(let val x = 1 in x end, x)", "x")
	freeAre(t, "(let fun f x = f in f end, f, x)", "f x")
	freeAre(t, "(case 1 of x => x, case 1 of y => x)", "x")
	freeAre(t, "let val x = let val y = 1 in y end in y end", "y")
	// Given values are names like others.
	for name := range givenNumbers {
		freeAre(t, name, name)
		freeAre(t, "("+name+", x, "+name+")", name+" x")
		freeAre(t, "fn "+name+" => "+name, "")
		freeAre(t, "let fun "+name+" x = "+name+" in "+name+" end", "")
	}
	freeAre(t, "(ref, not, show, chr, cut, sub, size, print)", "ref not show chr cut sub size print")
	// Wrong nodes of other kinds, and names that are bound twice, do not matter.
	freeAre(t, "fn (x, x, Q 1, nil 2 : t) => (x, y, R : u)", "y")
	freeAre(t, "let fun f x x = x and f y = (x, y) in f end", "x")
}

func TestFreeOfOtherTerms(t *testing.T) {
	others := [][]impl.Node{nil, {}, largeProgram(), raised(impl.MaxDeep, evar("x")), wide(impl.ESeq, 'e', impl.MaxNodes), made(impl.EVar, 0, "X")}
	others = append(others, raised(3, made(impl.ETuple, 0, "", evar("x"))), slices.Concat(evar("x"), evar("y")), evar("x")[1:])
	for _, it := range badLists() {
		others = append(others, it)
	}
	for _, l := range list() {
		if l.sort != impl.SortExp {
			others = append(others, lettered(l.kind, 0, l.text, l.some))
		}
	}
	for _, src := range []string{"", "val x = y", "fun f x = y val z = w"} {
		others = append(others, parsed(t, src))
		for _, dec := range impl.Kids(parsed(t, src)) {
			others = append(others, dec)
		}
	}
	for _, it := range others {
		if got := impl.Free(it); len(got) != 0 {
			t.Errorf("%v: %q", it, got)
		}
	}
	for _, l := range list() {
		if it := lettered(l.kind, 0, l.text, l.some); l.sort == impl.SortExp && impl.SortOf(it) == impl.SortExp {
			if got, want := impl.Free(it), treeOf(it).free(); !slices.Equal(got, want) {
				t.Errorf("%s: %q, want %q", impl.Print(it), got, want)
			}
		}
	}
}

func TestFreeOfDrawnExps(t *testing.T) {
	some := 0
	for seed := range int64(6000) {
		d := drawer{rand.New(rand.NewSource(seed))}
		it := d.exp(1 + int(seed%6))
		if len(it) > 2000 || impl.SortOf(it) != impl.SortExp {
			continue
		}
		got, want := impl.Free(it), treeOf(it).free()
		if !slices.Equal(got, want) {
			t.Fatalf("%s: %q, want %q", impl.Print(it), got, want)
		}
		some += len(got)
	}
	if some < 1000 {
		t.Errorf("only %d free names", some)
	}
}

// underVal is an exp in a program that begins with the decs that are no values, and binds the names.
func underVal(program []impl.Node, names []string, exp []impl.Node) []impl.Node {
	decs := [][]impl.Node{}
	for _, dec := range impl.Kids(program) {
		if isOneOf(dec[len(dec)-1].Kind, impl.DData, impl.DType, impl.DExn) {
			decs = append(decs, dec)
		}
	}
	for _, name := range names {
		decs = append(decs, made(impl.DVal, 0, "", pvar(name), made(impl.EInt, 0, "")))
	}
	return made(impl.KProgram, 0, "", append(decs, made(impl.DVal, 0, "", made(impl.PWild, 0, ""), exp))...)
}

// needsItsNames answers how many names there are.
func needsItsNames(t *testing.T, program []impl.Node, exp []impl.Node) int {
	t.Helper()
	names := impl.Free(exp)
	if _, code, node := impl.Resolve(underVal(program, names, exp)); code != impl.ScOk {
		t.Fatalf("%s with %q: code %d at node %d", impl.Print(exp), names, code, node)
	}
	for k, name := range names {
		_, code, _ := impl.Resolve(underVal(program, slices.Delete(slices.Clone(names), k, k+1), exp))
		if (code == impl.ScUnbound) != (givenNumbers[name] == 0) {
			t.Fatalf("%s without %s: code %d", impl.Print(exp), name, code)
		}
	}
	return len(names)
}

// Free names are just those that an exp needs: with them it can stand alone, and without any one of
// them it can't, or means a given value there.
func TestFreeIsWhatIsNeeded(t *testing.T) {
	needed := 0
	drawnPrograms(t, 1500, func(d drawer, _ []impl.Node, right []impl.Node) {
		for range 8 {
			exp := impl.Part(right, d.rnd.Intn(len(right)))
			if impl.SortOf(exp) == impl.SortExp {
				needed += needsItsNames(t, right, exp)
			}
		}
	})
	if needed < 200 {
		t.Errorf("only %d names were needed", needed)
	}
}
