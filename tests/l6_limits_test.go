package tests

import (
	"math/rand"
	"slices"
	"strconv"
	"strings"
	"testing"

	"loop.example/s02665/impl"
)

func TestResolveDeepest(t *testing.T) {
	leaves := map[int][]impl.Node{impl.SortExp: evar("e"), impl.SortPat: pvar("a"), impl.SortType: tcon("y")}
	fits := func(it []impl.Node) bool {
		program, _, _ := inProgram(it)
		return impl.SortOf(program) == impl.SortProgram
	}
	for sort, ways := range oneDeeper() {
		for _, way := range ways {
			it := deepest(leaves[sort], way, fits)
			if impl.Deep(it) < impl.MaxDeep-5 {
				t.Fatalf("%s is only %d deep", shown(way(leaves[sort])), impl.Deep(it))
			}
			program, _, _ := inProgram(it)
			checkResolve(t, program)
			right := drawer{rand.New(rand.NewSource(1))}.mended(program)
			if code := checkResolve(t, right); code != impl.ScOk {
				t.Errorf("mended, and code %d", code)
			}
			if sort == impl.SortExp && !slices.Equal(impl.Free(it), treeOf(it).free()) {
				t.Errorf("%s deep: %q", shown(way(leaves[sort])), impl.Free(it))
			}
		}
	}
	// The deepest exp that can stand alone.
	if got := impl.Free(raised(impl.MaxDeep-1, evar("x"))); !slices.Equal(got, []string{"x"}) {
		t.Errorf("x below all it can be below: %q", got)
	}
}

// Names bound again at every depth: each scope is left where it ends.
func TestResolveNested(t *testing.T) {
	for _, c := range []struct {
		front, middle, behind string
		deep                  int
	}{
		{"fn x => (x, ", "x", ", x)", 90},
		{"let val x = x in (x, ", "x", ", x) end", 90},
		{"let fun f x = (f, x, ", "x", ", f) in f end", 50},
		{"case x of x => (x, ", "x", ", x)", 70},
		{"let val y = ", "x", " val x = y in x end", 70},
		{"(x handle x => ", "x", ")", 90},
	} {
		exp := strings.Repeat(c.front, c.deep) + c.middle + strings.Repeat(c.behind, c.deep)
		if code := checkResolve(t, parsed(t, "val x = 1 val y = "+exp+" val z = (x, y)")); code != impl.ScOk {
			t.Errorf("%s: code %d", c.front, code)
		}
		checkResolve(t, parsed(t, "val a = "+exp))
		if it := expOf(t, exp); !slices.Equal(impl.Free(it), treeOf(it).free()) {
			t.Errorf("%s: %q", c.front, impl.Free(it))
		}
	}
}

func numberedNames(front string, n int) []string {
	out := []string{}
	for i := range n {
		out = append(out, front+strconv.Itoa(i))
	}
	return out
}

// each makes one term of each name.
func each(names []string, one func(name string) []impl.Node) [][]impl.Node {
	out := [][]impl.Node{}
	for _, name := range names {
		out = append(out, one(name))
	}
	return out
}

func programOf(decs ...[]impl.Node) []impl.Node {
	return made(impl.KProgram, 0, "", decs...)
}

func TestResolveLargest(t *testing.T) {
	one := made(impl.EInt, 1, "")
	exn := func(name string) []impl.Node { return made(impl.DExn, 0, name) }
	cbind := func(name string) []impl.Node { return made(impl.CBind, 0, name) }
	tuple := func(names []string) []impl.Node { return made(impl.PTuple, 0, "", each(names, pvar)...) }
	all := impl.MaxNodes - 1
	names := numberedNames("x", all)
	fun := func(name string) []impl.Node {
		return made(impl.FBind, 0, name, made(impl.FClause, 0, "", pvar(name), evar(name)))
	}
	data := func(name string) []impl.Node {
		return made(impl.TBind, 0, name, made(impl.CBind, 0, "A"+name, tcon(name)))
	}
	val := func(name string) []impl.Node { return made(impl.DVal, 0, "", pvar("x"), evar("x")) }
	first := made(impl.DVal, 0, "", pvar("x"), one)
	rule := func(name string) []impl.Node { return made(impl.Rule, 0, "", pvar(name), evar(name)) }
	twice := func(names []string) []string { return append(slices.Clone(names[:len(names)-1]), names[0]) }
	cons := numberedNames("C", all)
	largest := map[string][]impl.Node{
		"exceptions":        programOf(each(cons, exn)...),
		"exceptions, twice": programOf(each(twice(cons), exn)...),
		"constructors":      programOf(made(impl.DData, 0, "", made(impl.TBind, 0, "t", each(cons[:all-2], cbind)...))),
		"a tuple":           programOf(made(impl.DVal, 0, "", tuple(names[:all-3]), one)),
		"a tuple, twice":    programOf(made(impl.DVal, 0, "", tuple(twice(names[:all-3])), one)),
		"funs":              programOf(made(impl.DFun, 0, "", each(names[:all/4-1], fun)...)),
		"funs, twice":       programOf(made(impl.DFun, 0, "", each(twice(names[:all/4-1]), fun)...)),
		"datatypes":         programOf(made(impl.DData, 0, "", each(names[:all/3-1], data)...)),
		"datatypes, twice":  programOf(made(impl.DData, 0, "", each(twice(names[:all/3-1]), data)...)),
		"vals":              programOf(slices.Concat([][]impl.Node{first}, each(names[:all/3-1], val))...),
		"rules":             programOf(made(impl.DVal, 0, "", pvar("x"), made(impl.EFn, 0, "", each(names[:all/3-1], rule)...))),
		"a let": programOf(first, made(impl.DVal, 0, "", pvar("x"),
			made(impl.ELet, 0, "", slices.Concat(each(names[:all/3-4], val), [][]impl.Node{evar("x")})...))),
	}
	for name, it := range largest {
		if len(it) > impl.MaxNodes || len(it) < impl.MaxNodes-8 {
			t.Fatalf("%s: %d nodes", name, len(it))
		}
		want := impl.ScOk
		if strings.Contains(name, "twice") {
			want = impl.ScTwice
		}
		if got := checkResolve(t, it); got != want {
			t.Errorf("%s: code %d, want %d", name, got, want)
		}
	}
	if got := impl.Free(made(impl.ESeq, 0, "", each(names, evar)...)); !slices.Equal(got, names) {
		t.Errorf("%d free names: %d", len(names), len(got))
	}
	if got := impl.Free(wide(impl.ESeq, 'e', all)); !slices.Equal(got, []string{"y"}) {
		t.Errorf("one name %d times: %d", all, len(got))
	}
}

// Names as long as a source: they differ in their last byte alone.
func TestResolveLongNames(t *testing.T) {
	long := strings.Repeat("n", impl.MaxSource-1)
	x, y := long+"x", long+"y"
	val := func(name string, exp []impl.Node) []impl.Node { return made(impl.DVal, 0, "", pvar(name), exp) }
	right := programOf(val(x, made(impl.EInt, 1, "")), val(y, evar(x)), val(x, evar(y)), val(x, evar(x)))
	if code := checkResolve(t, right); code != impl.ScOk {
		t.Errorf("code %d", code)
	}
	isWrong(t, programOf(val(x, evar(y))), impl.ScUnbound, 1)
	isWrong(t, programOf(val(x, evar(x+"y"))), impl.ScProgram, 0)
	if got := impl.Free(made(impl.ETuple, 0, "", evar(x), evar(y), evar(x))); !slices.Equal(got, []string{x, y}) {
		t.Errorf("%d free names", len(got))
	}
}

func TestResolveMemory(t *testing.T) {
	for _, it := range [][]impl.Node{
		parsed(t, "val x = 1 fun f x = (f, x, print) val y = let val x = x in fn f => x end"),
		parsed(t, "datatype 'a t = A of 'a t exception E of int val x = 1 : int t"),
		parsed(t, ""), parsed(t, "val x = (1, y)"), parsed(t, "val (x, x) = 1"), largeProgram(), evar("x"), expOf(t, "fn x => (x, y, z, y)"), fan(20),
	} {
		arg := roomy(it)
		before := whole(arg)
		first, code, node := impl.Resolve(arg)
		kept := slices.Clone(first)
		names := impl.Free(arg)
		keptNames := slices.Clone(names)
		wasResolved := impl.Resolved(arg)
		spoil(first)
		for i := range names[:cap(names)] {
			names[:cap(names)][i] = "spoilt"
		}
		if !slices.Equal(whole(arg), before) {
			t.Errorf("%s: was written into, or shares memory with an answer", impl.Print(it))
		}
		again, codeAgain, nodeAgain := impl.Resolve(arg)
		if !slices.Equal(again, kept) || codeAgain != code || nodeAgain != node || !slices.Equal(impl.Free(arg), keptNames) || impl.Resolved(arg) != wasResolved {
			t.Errorf("%s: answers otherwise the second time", impl.Print(it))
		}
		spoil(arg)
		if !slices.Equal(again, kept) {
			t.Errorf("%s: the answer changes with the argument", impl.Print(it))
		}
	}
}
