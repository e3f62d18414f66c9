package tests

import (
	"math/rand"
	"slices"
	"strconv"
	"strings"
	"testing"

	"loop.example/s02665/impl"
)

// codeSoon wants an answer soon, and code in form if there are types.
func codeSoon(t *testing.T, name string, program []impl.Node) []impl.Node {
	t.Helper()
	c, code := []impl.Node(nil), 0
	soon(t, name, func() { c, code = impl.Elaborate(program) })
	if (code == impl.CoProgram) != (impl.Infer(program).Code != impl.TyOk) || (code == impl.CoOk) != (len(c) > 0) {
		t.Errorf("%s: code %d, %d nodes", name, code, len(c))
	}
	if code == impl.CoOk && (!impl.Form(c) || len(outOfScope(c)) > 0) {
		t.Errorf("%s: %d nodes, not in form or out of scope", name, len(c))
	}
	return c
}

func TestElaborateDeepest(t *testing.T) {
	leaves := map[int][]impl.Node{impl.SortExp: evar("e"), impl.SortPat: pvar("a"), impl.SortType: tcon("y")}
	fits := func(it []impl.Node) bool {
		program, _, _ := inProgram(it)
		return impl.SortOf(program) == impl.SortProgram
	}
	for sort, ways := range oneDeeper() {
		for _, way := range ways {
			program, _, _ := inProgram(deepest(leaves[sort], way, fits))
			checkCode(t, program)
			right := drawer{rand.New(rand.NewSource(1))}.mended(program)
			codeSoon(t, "a deep program", resolvedTerm(t, right))
			checkCode(t, resolvedTerm(t, right))
		}
	}
}

// Code is deeper than a term of a program may be.
func TestElaborateNested(t *testing.T) {
	deeper := 0
	for _, c := range []struct {
		front, middle, behind string
		deep                  int
	}{
		{"fn x => (x, ", "1", ", x)", 90},
		{"let val x = fn y => (y, x) in (x 1, ", "x", ", x) end", 6},
		{"let fun f y = (x, y) in (f 1, ", "x", ", 2) end", 40},
		{"let fun f x = ", "x", " in f end", 60},
		{"let fun f y = if true then y else f (", "y", ") in f end", 30},
		{"case x of y => (y, ", "x", ")", 70},
		{"let val y = ", "fn z => z", " in y end", 90},
		{"let val (y, z) = (fn w => w, ", "1", ") in z end", 70},
		{"let val y = 1 in ", "1", " end", 280},
		{"let val _ = 1 in ", "1", " end", 280},
		{"(1; ", "1", ")", 290},
		{"(1; 2; 3; 4; ", "1", ")", 290},
		{"(", "1", " handle x => 2)", 290},
		{"fn x => ", "1", "", 140},
		{"if true then 1 else ", "1", "", 290},
		{"true andalso (", "true", ")", 290},
		{"", "true", " orelse true", 290},
		{"~ ", "1", "", 290},
		{"raise ", "Div", "", 290},
	} {
		exp := strings.Repeat(c.front, c.deep) + c.middle + strings.Repeat(c.behind, c.deep)
		for _, src := range []string{"val x = 1 val y = 2 val a = " + exp, "val x = ref nil val y = x fun a () = " + exp} {
			program := resolved(t, src)
			it := codeSoon(t, c.front, program)
			checkCode(t, program)
			if len(it) > 0 && codeDeep(it) > impl.MaxDeep {
				deeper++
			}
		}
	}
	if deeper < 10 {
		t.Errorf("%d codes are deep", deeper)
	}
}

func codeDeep(c []impl.Node) int {
	u, deep := treeOf(c), make([]int, len(c))
	for i := range c {
		deep[i] = 1
		for _, kid := range u.kids[i] {
			deep[i] = max(deep[i], deep[kid]+1)
		}
	}
	return deep[len(c)-1]
}

// As many decs as there can be, one around the other in the code.
func TestElaborateLongest(t *testing.T) {
	name := func(i int) string { return "x" + strconv.Itoa(i) }
	for _, c := range []struct {
		name, front string
		dec         func(i int) string
		least       int
	}{
		{"numbers", "", func(i int) string { return "val " + name(i) + " = 1" }, 5900},
		{"nothing open", "", func(i int) string { return "val _ = nil" }, 9000},
		{"one after the other", "val x = fn y => y", func(i int) string { return "val x = fn y => x (x y)" }, 9000},
		{"functions", "", func(i int) string { return "fun " + name(i) + " x = x" }, 9000},
		{"functions with many clauses", "", func(i int) string { return "fun f 1 2 3 = 4 | f _ x _ = x | f x _ y = 2" }, 7000},
		{"cases", "datatype 'a opt = None | Some of 'a", func(i int) string { return "fun f (Some x) = [x] | f None = nil" }, 7000},
		{"handlers", "exception E of int", func(i int) string { return "val x = (raise E 1) handle E y => y | z => 2" }, 5000},
		{"types that are written", "type 'a d = 'a * 'a", func(i int) string { return "fun f (x : 'a d) = (x : 'b * 'c)" }, 9000},
		{"patterns", "", func(i int) string { return "val (x as (y, 1)) = (2, 1)" }, 5000},
		{"choices", "", func(i int) string { return "val x = if true andalso false then 1 else 2" }, 9000},
		{"sequences", "", func(i int) string { return "val _ = (1; 2; 3; 4; 5; 6; 7; 8; 9)" }, 9000},
	} {
		program := longest(decsOf(t, c.front), func(i int) []impl.Node { return oneDec(t, c.dec(i)) })
		if len(program) < impl.MaxNodes-40 {
			t.Fatalf("%s: %d nodes", c.name, len(program))
		}
		program = resolvedTerm(t, program)
		if it := codeSoon(t, c.name, program); len(it) < c.least {
			t.Errorf("%s: %d nodes", c.name, len(it))
		}
		checkCode(t, program)
	}
}

// One node with as many kids as there can be.
func TestElaborateWidest(t *testing.T) {
	one, all := made(impl.EInt, 1, ""), impl.MaxNodes-10
	names := numberedNames("x", all)
	rule := func(name string) []impl.Node { return made(impl.Rule, 0, "", pvar(name), evar(name)) }
	clause := func(name string) []impl.Node { return made(impl.FClause, 0, "", pvar(name), evar(name)) }
	wide := func(name string) []impl.Node {
		return made(impl.FClause, 0, "", append(slices.Repeat([][]impl.Node{wildPat}, 140), one)...)
	}
	val := func(pat []impl.Node, exp []impl.Node) []impl.Node { return made(impl.DVal, 0, "", pat, exp) }
	local := func(name string) []impl.Node { return val(pvar(name), one) }
	several := slices.Repeat([][]impl.Node{one}, all-2)
	for name, program := range map[string][]impl.Node{
		"a tuple":    programOf(val(pvar("a"), made(impl.ESeq, 0, "", made(impl.ETuple, 0, "", several...), one))),
		"a sequence": programOf(val(pvar("a"), made(impl.ESeq, 0, "", several...))),
		"rules":      programOf(val(pvar("a"), made(impl.EFn, 0, "", each(names[:all/3-5], rule)...))),
		"a case":     programOf(val(pvar("a"), made(impl.ECase, 0, "", append([][]impl.Node{one}, each(names[:all/3-5], rule)...)...))),
		"handlers":   programOf(val(pvar("a"), made(impl.EHandle, 0, "", append([][]impl.Node{made(impl.ECon, 0, "Div")}, each(names[:all/3-5], rule)...)...))),
		"clauses":    programOf(made(impl.DFun, 0, "", made(impl.FBind, 0, "f", each(names[:all/3-5], clause)...))),
		"arguments":  programOf(made(impl.DFun, 0, "", made(impl.FBind, 0, "f", each(names[:40], wide)...))),
		"a let":      programOf(val(pvar("a"), made(impl.ELet, 0, "", append(each(names[:all/3-5], local), one)...))),
	} {
		program = resolvedTerm(t, program)
		if len(program) < impl.MaxNodes-400 {
			t.Fatalf("%s: %d nodes", name, len(program))
		}
		if it := codeSoon(t, name, program); len(it) < 5000 {
			t.Errorf("%s: %d nodes", name, len(it))
		}
		if !isOneOf(name, "a let", "a sequence") {
			checkCode(t, program)
		}
	}
}

func TestElaborateMemory(t *testing.T) {
	for _, src := range []string{
		"", "val x = 1", "fun id x = x val a = (id 1, nil, id) fun f x y = f y y",
		"datatype ('a, 'b) t = A of 'a * 'b | B fun f (A (x, y)) = [x] | f B = nil val g = fn (x : 'a, y : 'a) => (raise Div; ref (f (A (x, y)))) val r = ref nil",
		"fun f x = 1 and g y = (f, g) val a = (f 1, g true) val b as (c, _) = a",
		"val x = 1 1", "val a = " + ones(impl.MaxType+1), "datatype t = A of t",
	} {
		arguments := &kept{}
		program := arguments.roomy(resolved(t, src))
		sharesNothing(t, src, arguments, func() [][]impl.Node {
			c, _ := impl.Elaborate(program)
			return [][]impl.Node{c}
		})
	}
}

// Places in the source do not matter, and maps are gone through in another order each time.
func TestElaborateAnswersTheSame(t *testing.T) {
	src := "datatype ('a, 'b) t = A of 'a * 'b | B fun f a b c d = (d, (c, a), [b]) and g (A (x, y)) = [f x] | g B = nil val h = g B val r = ref nil val (x, y as 1) = (r, 1) fun k (x : 'a, y : 'b) = (y : 'd, fn z => x)"
	program := resolved(t, src)
	want, code := impl.Elaborate(program)
	if code != impl.CoOk {
		t.Fatalf("code %d", code)
	}
	for i := range 50 {
		moved := slices.Clone(program)
		for k := range moved {
			moved[k].At = i * (k - 20)
		}
		if got, _ := impl.Elaborate(moved); !slices.Equal(got, want) {
			t.Fatalf("%s and %s", codeShown(got), codeShown(want))
		}
	}
}
