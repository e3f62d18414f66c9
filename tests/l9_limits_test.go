package tests

import (
	"math/rand"
	"slices"
	"strconv"
	"strings"
	"testing"

	"loop.example/s02665/impl"
)

func TestInferDeepest(t *testing.T) {
	leaves := map[int][]impl.Node{impl.SortExp: evar("e"), impl.SortPat: pvar("a"), impl.SortType: tcon("y")}
	fits := func(it []impl.Node) bool {
		program, _, _ := inProgram(it)
		return impl.SortOf(program) == impl.SortProgram
	}
	for sort, ways := range oneDeeper() {
		for _, way := range ways {
			program, _, _ := inProgram(deepest(leaves[sort], way, fits))
			soon(t, "a deep program", func() { checkInfer(t, program) })
			right := drawer{rand.New(rand.NewSource(1))}.mended(program)
			soon(t, "a deep program", func() { checkInfer(t, resolvedTerm(t, right)) })
		}
	}
}

// Decs and functions as deep in each other as can be.
func TestInferNested(t *testing.T) {
	for _, c := range []struct {
		front, middle, behind string
		deep                  int
	}{
		{"fn x => (x, ", "1", ", x)", 90},
		{"let val x = fn y => (y, x) in (x 1, ", "x", ", x) end", 7},
		{"let fun f y = (x, y) in (f 1, ", "x", ", 2) end", 40},
		{"let fun f x = ", "x", " in f end", 60},
		{"let fun f y = if true then y else f (", "y", ") in f end", 30},
		{"case x of y => (y, ", "x", ")", 70},
		{"let val y = ", "ref nil", " in y end", 70},
		{"let val y = ", "fn z => z", " in y end", 70},
		{"let val (y, z) = (fn w => w, ", "1", ") in z end", 70},
		{"(x handle x => ", "x", ")", 90},
		{"let fun f (y : 'a) = ", "x", " in f end", 60},
	} {
		exp := strings.Repeat(c.front, c.deep) + c.middle + strings.Repeat(c.behind, c.deep)
		for _, src := range []string{"val x = 1 val y = 2 val a = " + exp, "val x = ref nil val y = x fun a () = " + exp, "fun a x y = " + exp} {
			soon(t, c.front, func() { checkInfer(t, resolved(t, src)) })
		}
	}
}

// longest fills a program up with decs.
func longest(front [][]impl.Node, dec func(i int) []impl.Node) []impl.Node {
	decs := slices.Clone(front)
	size := len(programOf(decs...))
	for i := 0; ; i++ {
		one := dec(i)
		if size += len(one); size > impl.MaxNodes {
			return programOf(decs...)
		}
		decs = append(decs, one)
	}
}

func decsOf(t *testing.T, src string) [][]impl.Node {
	t.Helper()
	return impl.Kids(parsed(t, src))
}

func oneDec(t *testing.T, src string) []impl.Node {
	t.Helper()
	return decsOf(t, src)[0]
}

func TestInferLongest(t *testing.T) {
	name := func(i int) string { return "x" + strconv.Itoa(i) }
	for _, c := range []struct {
		name, front string
		dec         func(i int) string
		code, least int
	}{
		{"numbers", "", func(i int) string { return "val " + name(i) + " = 1" }, impl.TyOk, 1900},
		{"nothing open", "", func(i int) string { return "val _ = nil" }, impl.TyOk, 0},
		{"one after the other", "val x = fn y => y", func(i int) string { return "val x = fn y => x (x y)" }, impl.TyOk, 1000},
		{"functions", "", func(i int) string { return "fun " + name(i) + " x = x" }, impl.TyOk, 2000},
		{"functions of one name", "fun f x = x", func(i int) string { return "fun f x = f (f x)" }, impl.TyOk, 1000},
		{"lists", "val n = nil", func(i int) string { return "val n = n" }, impl.TyOk, 1900},
		{"references", "val r = ref nil", func(i int) string { return "val r = r" }, impl.TyOk, 1900},
		{"references told in the end", "val r = ref nil fun f x = (r := [x], r := [1])", func(i int) string { return "val r = r" }, impl.TyOk, 1900},
		{"constructors that nobody knows", "", func(i int) string { return "val C" + name(i) + " = 1" }, impl.TyProgram, 0},
		{"one that clashes", "val x = 1 1", func(i int) string { return "val x = x" }, impl.TyClash, 0},
		{"one that is no type", "val x = fn y => y y", func(i int) string { return "val x = fn y => x (x y)" }, impl.TyClash, 0},
		{"polymorphic pairs", "val p = (nil, nil)", func(i int) string { return "val q = (p, p, p)" }, impl.TyOk, 1000},
		{"cases", "datatype 'a opt = None | Some of 'a", func(i int) string { return "fun f (Some x) = [x] | f None = nil" }, impl.TyOk, 500},
		{"handlers", "exception E of int", func(i int) string { return "val x = (raise E 1) handle E y => y | z => 2" }, impl.TyOk, 500},
		{"types that are written", "type 'a d = 'a * 'a", func(i int) string { return "fun f (x : 'a d) = (x : 'b * 'c)" }, impl.TyOk, 500},
	} {
		program := longest(decsOf(t, c.front), func(i int) []impl.Node { return oneDec(t, c.dec(i)) })
		if len(program) < impl.MaxNodes-40 {
			t.Fatalf("%s: %d nodes", c.name, len(program))
		}
		if it, code, _ := impl.Resolve(program); code == impl.ScOk {
			program = it
		}
		typed := inferSoon(t, c.name, program)
		if typed.Code != c.code || len(typed.Binders) < c.least {
			t.Errorf("%s: code %d at node %d, %d binders", c.name, typed.Code, typed.Node, len(typed.Binders))
		}
	}
}

// One exp, pattern or function with as many kids as there can be.
func TestInferWidest(t *testing.T) {
	one, all := made(impl.EInt, 1, ""), impl.MaxNodes-10
	names := numberedNames("x", all)
	rule := func(name string) []impl.Node { return made(impl.Rule, 0, "", pvar(name), evar(name)) }
	clause := func(name string) []impl.Node { return made(impl.FClause, 0, "", pvar(name), evar(name)) }
	bind := func(name string) []impl.Node { return made(impl.FBind, 0, name, clause(name)) }
	val := func(pat []impl.Node, exp []impl.Node) []impl.Node { return made(impl.DVal, 0, "", pat, exp) }
	for name, c := range map[string]struct {
		program []impl.Node
		code    int
		kind    int
	}{
		"a tuple":            {programOf(val(pvar("a"), made(impl.ETuple, 0, "", slices.Repeat([][]impl.Node{one}, all)...))), impl.TyLarge, impl.DVal},
		"a tuple in between": {programOf(val(pvar("a"), made(impl.ESeq, 0, "", made(impl.ETuple, 0, "", slices.Repeat([][]impl.Node{one}, all-2)...), one))), impl.TyOk, 0},
		"a tuple of names":   {programOf(val(made(impl.PTuple, 0, "", each(names, pvar)...), one)), impl.TyClash, impl.DVal},
		"a sequence":         {programOf(val(pvar("a"), made(impl.ESeq, 0, "", slices.Repeat([][]impl.Node{one}, all)...))), impl.TyOk, 0},
		"rules":              {programOf(val(pvar("a"), made(impl.EFn, 0, "", each(names[:all/3-5], rule)...))), impl.TyOk, 0},
		"a case":             {programOf(val(pvar("a"), made(impl.ECase, 0, "", append([][]impl.Node{one}, each(names[:all/3-5], rule)...)...))), impl.TyOk, 0},
		"clauses":            {programOf(made(impl.DFun, 0, "", made(impl.FBind, 0, "f", each(names[:all/3-5], clause)...))), impl.TyOk, 0},
		"arguments":          {programOf(made(impl.DFun, 0, "", made(impl.FBind, 0, "f", made(impl.FClause, 0, "", append(each(names, pvar), one)...)))), impl.TyLarge, impl.DFun},
		"functions":          {programOf(made(impl.DFun, 0, "", each(names[:all/4-5], bind)...)), impl.TyOk, 0},
		"a let":              {programOf(val(pvar("a"), made(impl.ELet, 0, "", append(each(names[:all/3-5], func(name string) []impl.Node { return val(pvar(name), one) }), one)...))), impl.TyOk, 0},
	} {
		program := resolvedTerm(t, c.program)
		if len(program) < impl.MaxNodes-60 {
			t.Fatalf("%s: %d nodes", name, len(program))
		}
		typed := inferSoon(t, name, program)
		if typed.Code != c.code || c.code != impl.TyOk && program[typed.Node].Kind != c.kind {
			t.Errorf("%s: code %d at node %d", name, typed.Code, typed.Node)
		}
	}
}

// Functions that have one list of variables, each used: there are more uses than nodes by far.
func TestInferManyVariables(t *testing.T) {
	bind := func(name string) []impl.Node {
		return made(impl.FBind, 0, name, made(impl.FClause, 0, "", pvar("x"), evar("x")))
	}
	names := numberedNames("f", 600)
	uses := slices.Repeat([][]impl.Node{made(impl.EApp, 0, "", evar("f7"), made(impl.EInt, 1, ""))}, 1000)
	program := resolvedTerm(t, programOf(made(impl.DFun, 0, "", each(names, bind)...), made(impl.DVal, 0, "", made(impl.PWild, 0, ""), made(impl.ESeq, 0, "", uses...))))
	typed := inferSoon(t, "many variables", program)
	if typed.Code != impl.TyOk || len(typed.Uses) != 600+1000+1 {
		t.Fatalf("code %d, %d uses", typed.Code, len(typed.Uses))
	}
	for k, b := range typed.Binders {
		want := "#" + strconv.Itoa(k/2+1)
		if k%2 == 1 {
			want = "[" + want + ", " + want + "]"
		}
		if plainShown(b.Type) != want || b.Count != 600*(k%2) {
			t.Fatalf("%s has %d variables and the type %s", b.Name, b.Count, plainShown(b.Type))
		}
	}
	for _, u := range typed.Uses[600:1600] {
		for k, ty := range u.Types {
			if want := k == 7; slices.Equal(ty, intType) != want || slices.Equal(ty, unitType) == want {
				t.Fatalf("variable %d is %s", k, plainShown(ty))
			}
		}
		if len(u.Types) != 600 {
			t.Fatalf("%d types", len(u.Types))
		}
	}
}

// A constructor with as many params as there can be, whose types are as large as they can be.
func TestInferManyLargeUses(t *testing.T) {
	front := "datatype ('a, 'b, 'c, 'd, 'e, 'f, 'g, 'h) t = C | D of 'a * 'b * 'c * 'd * 'e * 'f * 'g * 'h val x = " + ones(impl.MaxType) + " "
	src := front + "val a = case D (x, x, x, x, x, x, x, x) of C => 1" + strings.Repeat(" | C => 1", 1700)
	program := resolved(t, src)
	typed := inferSoon(t, "large uses", program)
	if typed.Code != impl.TyOk {
		t.Fatalf("code %d at node %d", typed.Code, typed.Node)
	}
	cons := 0
	for _, u := range typed.Uses {
		if program[u.Node].Kind == impl.PCon {
			cons++
			if len(u.Types) != 8 || len(u.Types[0]) != impl.MaxType || len(u.Types[7]) != impl.MaxType {
				t.Fatalf("%d types at node %d", len(u.Types), u.Node)
			}
		}
	}
	if cons != 1701 {
		t.Errorf("%d constructors", cons)
	}
}

// Types that are as deep as can be: a function that adds 290 nodes stands nearly everywhere.
func TestInferDeepTypes(t *testing.T) {
	arrows, last := []string{}, 70
	for i := range last {
		arrows = append(arrows, "('a"+strconv.Itoa(i)+" -> 'a"+strconv.Itoa(i+1)+")")
	}
	front := "type 'a d = 'a" + strings.Repeat(" list", 290) + " fun f (x : 'a) = ((raise Div) : 'a d) " +
		"fun g (x : 'a0) (y : " + strings.Join(arrows, " * ") + ") = ((raise Div) : 'a" + strconv.Itoa(last) + ") "
	exp, groups := "1", 68
	for range groups {
		exp = "(g " + exp + "(f" + strings.Repeat(",f", last-1) + "))"
	}
	program := resolved(t, front+"val a = "+exp)
	if len(program) < 5000 {
		t.Fatalf("%d nodes", len(program))
	}
	if typed := inferSoon(t, "deep types", program); typed.Code != impl.TyLarge || program[typed.Node].Text != "a" {
		t.Errorf("code %d at node %d", typed.Code, typed.Node)
	}
	soonFails(t, front+"val a = "+exp+" val b = a + 1", impl.TyClash, impl.EBin, "+", 1)
	soonFails(t, front+"val a = "+exp+" val b = fn x => x x", impl.TyClash, impl.EApp, "", 2*groups+1)
	soonFails(t, "val b = fn x => x x "+front+"val a = "+exp, impl.TyClash, impl.EApp, "", 1)
}

// Large types in lets that are not generalised: each brings them down by one level.
func TestInferLevels(t *testing.T) {
	front := "fun f x = ((raise Div) : 'a -> 'a" + strings.Repeat(" * 'a", 290) + ") "
	exp := strings.Repeat("let val r = ", 70) + "ref (f 1" + strings.Repeat(", f 1", 1700) + ")" + strings.Repeat(" in r end", 70)
	soonFails(t, front+"val a = "+exp, impl.TyLarge, impl.PVar, "a", 1)
	soonFails(t, front+"val a = "+exp+" val b = fn x => x x", impl.TyClash, impl.EApp, "", 1703)
	soonFails(t, front+"val a = "+exp+" val b = 1 1", impl.TyClash, impl.EApp, "", 1703)
}

func typesInTyped(typed impl.Typed) [][]impl.Node {
	out := [][]impl.Node{}
	for _, b := range typed.Binders {
		out = append(out, b.Type)
	}
	for _, u := range typed.Uses {
		out = append(out, u.Types...)
	}
	return out
}

func TestInferMemory(t *testing.T) {
	for _, src := range []string{
		"fun id x = x val a = (id 1, nil, id) fun f x y = f y y",
		"datatype ('a, 'b) t = A of 'a * 'b | B fun f (A (x, y)) = [x] | f B = nil val g = fn (x : 'a, y : 'a) => (raise Div; ref (f (A (x, y)))) val r = ref nil",
		"fun f x = 1 and g y = (f, g) val a = (f 1, g true) val b = a",
		"val x = 1 1", "fun f x = x x", "val a = " + ones(impl.MaxType+1), "", "datatype t = A of t",
	} {
		arguments := &kept{}
		program := arguments.roomy(resolved(t, src))
		sharesNothing(t, src, arguments, func() [][]impl.Node { return typesInTyped(impl.Infer(program)) })
	}
	// The lists of types of uses too.
	program := resolved(t, "fun k x y = (x, y) val a = (k 1 2, k true nil) fun f x = f x")
	want := typedShown(impl.Infer(program))
	for k := range impl.Infer(program).Uses {
		typed := impl.Infer(program)
		types := typed.Uses[k].Types
		before := slices.Clone(types)
		all := types[:cap(types)]
		for i := range all {
			all[i] = nil
		}
		_ = append(types, nil, nil)
		copy(types, before)
		if typedShown(typed) != want {
			t.Errorf("use %d shares its list", k)
		}
	}
	arguments := &kept{}
	b := impl.Binder{From: 1, Count: 2, Type: arguments.roomy(plainOf(t, "[#1, (#2, #3)]"))}
	sharesNothing(t, "Scheme", arguments, func() [][]impl.Node { return [][]impl.Node{impl.Scheme(b)} })
	arguments = &kept{}
	b = impl.Binder{Type: arguments.roomy(plainOf(t, "[#1, (#2, #3)]"))}
	sharesNothing(t, "Scheme without variables", arguments, func() [][]impl.Node { return [][]impl.Node{impl.Scheme(b)} })
	arguments = &kept{}
	it, ty := arguments.roomy(resolved(t, "fun f x = x")), arguments.roomy(plainOf(t, "[#1, #1]"))
	if !impl.CanBe(it, "f", ty) || impl.CanBe(it, "g", ty) || !arguments.stay() {
		t.Error("CanBe writes into an argument")
	}
}

// Maps are gone through in another order each time, and the answers stay.
func TestInferAnswersTheSame(t *testing.T) {
	for _, src := range []string{
		"fun f a b c d = (d, (c, a), [b]) val g = f 1 val r = ref nil val (x, y) = (r, fn z => z) fun h (x : 'a, y : 'b, z : 'c) = (z : 'd, y : 'e)",
		"fun f x y z = (x = [y], z = [x], y = [z], 1 1)", "val f = fn x => x = [x] val g = fn x => x = [x] val a = 1 1", "val (a, b) = (" + ones(400) + ", 1) val c = [" + ones(400) + "]",
	} {
		program := resolved(t, src)
		want := typedShown(impl.Infer(program))
		for range 50 {
			if got := typedShown(impl.Infer(program)); got != want {
				t.Fatalf("%s\n%s\nand %s", src, got, want)
			}
		}
	}
}

// Names as long as a source, told apart by their last byte.
func TestInferLongNames(t *testing.T) {
	long := strings.Repeat("n", impl.MaxSource-2)
	x, y := long+"x", long+"y"
	fun := made(impl.DFun, 0, "", made(impl.FBind, 0, x, made(impl.FClause, 0, "", made(impl.PType, 0, "", pvar(y), made(impl.TVar, 0, x)), made(impl.EType, 0, "", evar(y), made(impl.TVar, 0, y)))))
	program := resolvedTerm(t, programOf(fun))
	typed := checkInfer(t, program)
	if typed.Code != impl.TyOk || plainShown(typed.Binders[1].Type) != "[#1, #1]" || typed.Binders[1].Name != x || typed.Binders[0].Name != y {
		t.Errorf("code %d", typed.Code)
	}
	if !impl.CanBe(program, x, plainOf(t, "[int, int]")) || impl.CanBe(program, y, intType) || impl.CanBe(program, long, intType) {
		t.Error("names are told apart")
	}
}
