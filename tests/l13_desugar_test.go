package tests

import (
	"slices"
	"strings"
	"testing"

	"loop.example/s02665/impl"
)

// desugarer tells the rules of chapter 11 again, types left out.
type desugarer struct {
	u      tree
	params map[int]int64 // the first one of a node
}

func newDesugarer(program []impl.Node) *desugarer {
	w := &desugarer{treeOf(program), map[int]int64{}}
	next := int64(1)
	for _, n := range program {
		if isOneOf(n.Kind, impl.PVar, impl.PAs, impl.FBind) {
			next++
		}
	}
	for i, n := range program {
		switch n.Kind {
		case impl.EFn:
			w.params[i] = next
			next++
		case impl.FBind:
			w.params[i] = next
			next += int64(len(w.u.kids[w.u.kids[i][0]]) - 1)
		}
	}
	return w
}

func (w *desugarer) exps(nodes []int) [][]impl.Node {
	out := [][]impl.Node{}
	for _, i := range nodes {
		out = append(out, w.exp(i))
	}
	return out
}

func (w *desugarer) pats(nodes []int) [][]impl.Node {
	out := [][]impl.Node{}
	for _, i := range nodes {
		out = append(out, w.pat(i))
	}
	return out
}

func (w *desugarer) rules(nodes []int) [][]impl.Node {
	out := [][]impl.Node{}
	for _, i := range nodes {
		kids := w.u.kids[i]
		last := len(kids) - 1
		pat := w.pat(kids[0])
		if last > 1 {
			pat = unplaced(impl.PTuple, 0, "", w.pats(kids[:last])...)
		}
		out = append(out, crule(pat, w.exp(kids[last])))
	}
	return out
}

func (w *desugarer) exp(i int) []impl.Node {
	n, kids := w.u.t[i], w.u.kids[i]
	last := len(kids) - 1
	if kind := sameKind[n.Kind]; kind != 0 {
		return unplaced(kind, n.Num, n.Text, w.exps(kids)...)
	}
	switch n.Kind {
	case impl.EVar:
		if n.Num < 0 {
			return unplaced(impl.CGiven, n.Num, "")
		}
		return cvar(n.Num)
	case impl.ECon:
		return unplaced(impl.CCon, 0, n.Text)
	case impl.EType:
		return w.exp(kids[0])
	case impl.EFn:
		x := w.params[i]
		return unplaced(impl.CLam, x, "", ccase("Match", cvar(x), w.rules(kids)...))
	case impl.ECase:
		return ccase("Match", w.exp(kids[0]), w.rules(kids[1:])...)
	case impl.EHandle:
		return unplaced(impl.CTry, 0, "", append(w.exps(kids[:1]), w.rules(kids[1:])...)...)
	case impl.EIf:
		return choice(w.exp(kids[0]), w.exp(kids[1]), w.exp(kids[2]))
	case impl.EAnd:
		return choice(w.exp(kids[0]), w.exp(kids[1]), unplaced(impl.CCon, 0, "false"))
	case impl.EOr:
		return choice(w.exp(kids[0]), unplaced(impl.CCon, 0, "true"), w.exp(kids[1]))
	case impl.ESeq:
		c := w.exp(kids[last])
		for _, kid := range slices.Backward(kids[:last]) {
			c = ccase("Match", w.exp(kid), crule(wildPat, c))
		}
		return c
	case impl.ERaise:
		return unplaced(impl.CRaise, 0, "", w.exp(kids[0]))
	}
	return w.around(kids[:last], w.exp(kids[last]))
}

func (w *desugarer) pat(i int) []impl.Node {
	n, kids := w.u.t[i], w.u.kids[i]
	switch n.Kind {
	case impl.PVar:
		return unplaced(impl.QVar, n.Num, "")
	case impl.PAs:
		return unplaced(impl.QAs, n.Num, "", w.pat(kids[0]))
	case impl.PType:
		return w.pat(kids[0])
	}
	return unplaced(n.Kind, n.Num, n.Text, w.pats(kids)...)
}

func (w *desugarer) around(decs []int, c []impl.Node) []impl.Node {
	for _, dec := range slices.Backward(decs) {
		kids := w.u.kids[dec]
		switch w.u.t[dec].Kind {
		case impl.DVal:
			if n := w.u.t[kids[0]]; n.Kind == impl.PVar {
				c = unplaced(impl.CLet, n.Num, "", w.exp(kids[1]), c)
			} else {
				c = ccase("Bind", w.exp(kids[1]), crule(w.pat(kids[0]), c))
			}
		case impl.DFun:
			parts := [][]impl.Node{}
			for _, kid := range kids {
				parts = append(parts, w.function(kid))
			}
			c = unplaced(impl.CFix, 0, "", append(parts, c)...)
		}
	}
	return c
}

func (w *desugarer) function(i int) []impl.Node {
	xs, first := [][]impl.Node{}, w.params[i]
	for k := range len(w.u.kids[w.u.kids[i][0]]) - 1 {
		xs = append(xs, cvar(first+int64(k)))
	}
	s := xs[0]
	if len(xs) > 1 {
		s = unplaced(impl.CTuple, 0, "", xs...)
	}
	c := ccase("Match", s, w.rules(w.u.kids[i])...)
	for k := range slices.Backward(xs) {
		c = unplaced(impl.CLam, first+int64(k), "", c)
	}
	return unplaced(impl.CBnd, w.u.t[i].Num, "", c)
}

func desugaredAgain(program []impl.Node) []impl.Node {
	w := newDesugarer(program)
	shown := outerAgain(program)
	shown = shown[max(0, len(shown)-impl.MaxShown):]
	c := unplaced(impl.CTuple, 0, "")
	if len(shown) > 0 {
		parts := [][]impl.Node{c}
		for _, i := range shown {
			parts = append(parts, cvar(program[i].Num))
		}
		c = unplaced(impl.CTuple, 0, "", parts...)
	}
	return w.around(w.u.kids[len(program)-1], c)
}

// checkDesugar holds Desugar against the chapter told again, and wants plain form.
func checkDesugar(t *testing.T, program []impl.Node) []impl.Node {
	t.Helper()
	c, code := impl.Desugar(program)
	if _, declared, _ := impl.Declare(program); declared != impl.DtOk {
		if code != impl.CoProgram || len(c) > 0 {
			t.Fatalf("%s\ncode %d, %s", impl.Print(program), code, codeShown(c))
		}
		return nil
	}
	want := desugaredAgain(program)
	if code != impl.CoOk || !slices.Equal(c, want) {
		t.Fatalf("%s\ncode %d, %s\nwant %s", impl.Print(program), code, codeShown(c), codeShown(want))
	}
	if !impl.PlainForm(c) {
		t.Fatalf("%s\nnot in plain form: %s", impl.Print(program), codeShown(c))
	}
	return c
}

// keepsPromise14 wants that Erase of Elaborate is Desugar.
func keepsPromise14(t *testing.T, program []impl.Node) bool {
	t.Helper()
	plain := checkDesugar(t, program)
	c, code := impl.Elaborate(program)
	if code != impl.CoOk {
		return false
	}
	if got, ok := impl.Erase(c); !ok || !slices.Equal(got, plain) {
		t.Fatalf("%s\nerased: %s\ndesugared: %s", impl.Print(program), codeShown(got), codeShown(plain))
	}
	return true
}

// plainCodeIs wants this plain code of a source.
func plainCodeIs(t *testing.T, src string, want string) {
	t.Helper()
	program := resolved(t, src)
	keepsPromise14(t, program)
	if got := codeShown(checkDesugar(t, program)); got != want {
		t.Errorf("%s\n%s\nwant\n%s", src, got, want)
	}
}

// expPlainIs wants this plain code of an exp, which needs no types.
func expPlainIs(t *testing.T, exp string, want string) {
	t.Helper()
	plainCodeIs(t, "datatype 'a opt = None | Some of 'a val _ = "+exp, `CCase "Bind"(`+want+`, CRule(PWild, CTuple))`)
}

func TestDesugarExps(t *testing.T) {
	for _, c := range [][2]string{
		{"1", "CInt 1"}, {"~5", "CInt -5"}, {`"a\n"`, `CStr "a\n"`}, {"print", "CGiven -1"}, {"ref", "CGiven -8"}, {"ref 1", "CApp(CGiven -8, CInt 1)"}, {"nil", `CCon "nil"`}, {"Some", `CCon "Some"`}, {"Some 1", `CApp(CCon "Some", CInt 1)`},
		{"[1]", `CApp(CCon "::", CTuple(CInt 1, CCon "nil"))`}, {"()", "CTuple"}, {"(1, 2, true)", `CTuple(CInt 1, CInt 2, CCon "true")`}, {"1 2", "CApp(CInt 1, CInt 2)"}, {"1 + true", `CBin "+"(CInt 1, CCon "true")`}, {"1 := 2", `CBin ":="(CInt 1, CInt 2)`},
		{"~ 1", `CUn "~"(CInt 1)`}, {"!nil", `CUn "!"(CCon "nil")`}, {"while 1 do 2", "CWhile(CInt 1, CInt 2)"}, {"(1 : string)", "CInt 1"}, {"((1 : 'a) : int list)", "CInt 1"},
		{"fn x => x", `CLam 2(CCase "Match"(CVar 2, CRule(QVar 1, CVar 1)))`}, {"fn 1 => 2 | _ => true", `CLam 1(CCase "Match"(CVar 1, CRule(PInt 1, CInt 2), CRule(PWild, CCon "true")))`},
		{"case 1 of Some x => x | y => 2", `CCase "Match"(CInt 1, CRule(PCon "Some"(QVar 1), CVar 1), CRule(QVar 2, CInt 2))`}, {"1 handle Div => 2 | _ => 3", `CTry(CInt 1, CRule(PCon "Div", CInt 2), CRule(PWild, CInt 3))`},
		{"if 1 then 2 else 3", `CCase "Match"(CInt 1, CRule(PCon "true", CInt 2), CRule(PCon "false", CInt 3))`}, {"1 andalso 2", `CCase "Match"(CInt 1, CRule(PCon "true", CInt 2), CRule(PCon "false", CCon "false"))`},
		{"1 orelse 2", `CCase "Match"(CInt 1, CRule(PCon "true", CCon "true"), CRule(PCon "false", CInt 2))`}, {"(1; 2; 3)", `CCase "Match"(CInt 1, CRule(PWild, CCase "Match"(CInt 2, CRule(PWild, CInt 3))))`}, {"raise 1", "CRaise(CInt 1)"},
		{"let val x = 1 in x end", "CLet 1(CInt 1, CVar 1)"}, {"let val 1 = 2 in 3; 4 end", `CCase "Bind"(CInt 2, CRule(PInt 1, CCase "Match"(CInt 3, CRule(PWild, CInt 4))))`},
		{"let val x = 1 val (y : int) = x val z as _ = y in z end", `CLet 1(CInt 1, CCase "Bind"(CVar 1, CRule(QVar 2, CCase "Bind"(CVar 2, CRule(QAs 3(PWild), CVar 3)))))`},
		{"let fun f x = f x in f end", `CFix(CBnd 2(CLam 3(CCase "Match"(CVar 3, CRule(QVar 1, CApp(CVar 2, CVar 1))))), CVar 2)`},
	} {
		expPlainIs(t, c[0], c[1])
	}
}

func TestDesugarDecs(t *testing.T) {
	for _, c := range [][2]string{
		{"", "CTuple"}, {"exception E datatype t = A type s = t", "CTuple"}, {"val x = 1", "CLet 1(CInt 1, CTuple(CTuple, CVar 1))"}, {"val _ = 1", `CCase "Bind"(CInt 1, CRule(PWild, CTuple))`},
		{"val x : int = 1", `CCase "Bind"(CInt 1, CRule(QVar 1, CTuple(CTuple, CVar 1)))`}, {"val x as (y, 1) = (2, 1)", `CCase "Bind"(CTuple(CInt 2, CInt 1), CRule(QAs 2(PTuple(QVar 1, PInt 1)), CTuple(CTuple, CVar 1, CVar 2)))`},
		{"fun id x = x", `CFix(CBnd 2(CLam 3(CCase "Match"(CVar 3, CRule(QVar 1, CVar 1)))), CTuple(CTuple, CVar 2))`},
		{"fun f 1 true = 2 | f _ x = x", `CFix(CBnd 2(CLam 3(CLam 4(CCase "Match"(CTuple(CVar 3, CVar 4), CRule(PTuple(PInt 1, PCon "true"), CInt 2), CRule(PTuple(PWild, QVar 1), CVar 1))))), CTuple(CTuple, CVar 2))`},
		{"fun f x = g x and g y = f y", `CFix(CBnd 2(CLam 5(CCase "Match"(CVar 5, CRule(QVar 1, CApp(CVar 4, CVar 1))))), CBnd 4(CLam 6(CCase "Match"(CVar 6, CRule(QVar 3, CApp(CVar 2, CVar 3))))), CTuple(CTuple, CVar 2, CVar 4))`},
		{"val x = 1 1 val y = x x", "CLet 1(CApp(CInt 1, CInt 1), CLet 2(CApp(CVar 1, CVar 1), CTuple(CTuple, CVar 1, CVar 2)))"},
		// A binder with variables is shown as it is: there are none.
		{"val f = nil fun g x = f", `CLet 1(CCon "nil", CFix(CBnd 3(CLam 4(CCase "Match"(CVar 4, CRule(QVar 2, CVar 1)))), CTuple(CTuple, CVar 1, CVar 3)))`},
	} {
		plainCodeIs(t, c[0], c[1])
	}
}

// Parameters have their numbers by the order of the source's list, whatever has become of their place.
func TestDesugarParameters(t *testing.T) {
	for src, want := range map[string][]int64{
		"val _ = fn _ => 1": {1}, "val f = fn x => fn y => fn z => 1": {5, 6, 7}, "fun f 1 2 = 3 | f _ _ = 4": {3, 2}, "fun f x y = fn z => x": {5, 7, 6}, "val g = fn x => let fun h a b = a in h end": {7, 6, 8},
		"fun f a b = 1 and g c d e = 2 val k = fn z => z": {11, 10, 14, 13, 12, 15}, "fun f 1 = (fn 2 => 3) | f _ = (fn 4 => 5) and g _ _ = fn _ => 6": {3, 4, 5, 6, 8, 7}, "val _ = (fn _ => 1) = (fn _ => 2 2)": {1, 2},
	} {
		got := []int64{}
		for _, n := range checkDesugar(t, resolved(t, src)) {
			if n.Kind == impl.CLam {
				got = append(got, n.Num)
			}
		}
		if !slices.Equal(got, want) {
			t.Errorf("%s: %v, want %v", src, got, want)
		}
	}
	plainCodeIs(t, "val (f, 1) = (fn x => x, 2)", `CCase "Bind"(CTuple(CLam 3(CCase "Match"(CVar 3, CRule(QVar 2, CVar 2))), CInt 2), CRule(PTuple(QVar 1, PInt 1), CTuple(CTuple, CVar 1)))`)
}

// The last MaxShown binders of the program's own decs.
func TestDesugarShown(t *testing.T) {
	max := impl.MaxShown
	for _, n := range []int{1, max - 1, max, max + 1, 2 * max} {
		// The one that is not shown is used ahead of the others.
		got, want := []int64{}, []int64{int64(n + 1)}
		for _, it := range checkDesugar(t, resolved(t, strings.Repeat("val x = 1 1 ", n)+"val _ = let val y = 1 in y end")) {
			if it.Kind == impl.CVar {
				got = append(got, it.Num)
			}
		}
		for num := max0(n-max) + 1; num <= n; num++ {
			want = append(want, int64(num))
		}
		if !slices.Equal(got, want) {
			t.Errorf("%d binders: %v, want %v", n, got, want)
		}
	}
}

// CoProgram for each code of Declare, and for what is no program. Types are not looked for.
func TestDesugarCodes(t *testing.T) {
	lists := badLists()
	for name, it := range goodTerms() {
		lists[name] = it
	}
	for name, src := range map[string]string{
		"not resolved": "val x = 1", "names": "val x = y", "no values": "datatype t = A of t", "a large abbreviation": "type s = " + typeSized(impl.MaxType+1), "too many datatypes": "datatype " + strings.Join(tbinds("t", impl.MaxData+1), " and "),
	} {
		lists[name] = parsed(t, src)
	}
	lists["no values, resolved"] = resolved(t, "val x = 1 datatype t = A of t")
	lists["too many datatypes, resolved"] = resolved(t, "datatype "+strings.Join(tbinds("t", impl.MaxData+1), " and "))
	lists["a large type, resolved"] = resolved(t, "val x = (1 : "+typeSized(impl.MaxType+1)+")")
	lists["a dec"] = oneDec(t, "val x = 1")
	lists["an exp"] = made(impl.EInt, 1, "")
	lists["code"] = unplaced(impl.CInt, 1, "")
	lists["other numbers"] = resolved(t, "fun f x = x")
	lists["other numbers"][0].Num = 3
	for name, it := range lists {
		if _, code, _ := impl.Declare(it); code == impl.DtOk {
			t.Fatalf("%s declares", name)
		}
		if c, code := impl.Desugar(it); code != impl.CoProgram || len(c) > 0 {
			t.Errorf("%s: code %d with %d nodes", name, code, len(c))
		}
	}
	for _, src := range []string{"val x = 1 1", "fun f y = y y", "val a = " + ones(impl.MaxType+1), "val a = (1 : string)", "fun f 1 = 2 | f true = 3", "val x = !1 := ~ nil val _ = raise x", largeCode(250)} {
		program := resolved(t, src)
		if _, code := impl.Elaborate(program); code == impl.CoOk {
			t.Fatalf("%s has types", src)
		}
		if checkDesugar(t, program) == nil {
			t.Errorf("%s has no plain code", src)
		}
	}
}

// Programs with types and without, of every kind of dec, exp and pattern.
func TestDesugarOwnPrograms(t *testing.T) {
	codes, untyped, kinds := 0, 0, map[int]int{}
	look := func(program []impl.Node) {
		if keepsPromise14(t, program) {
			codes++
			for _, n := range program {
				kinds[n.Kind]++
			}
		} else if _, code, _ := impl.Declare(program); code == impl.DtOk {
			untyped++
		}
	}
	codedPrograms(t, 500, func(_ *coder, src string, program []impl.Node) { look(program) })
	declaringPrograms(t, 150, func(d *declarer, program []impl.Node) { look(resolvedTerm(t, program)) })
	drawnPrograms(t, 1200, func(d drawer, drawn []impl.Node, right []impl.Node) {
		look(drawn)
		look(resolvedTerm(t, right))
	})
	if codes < 1200 || untyped < 500 {
		t.Errorf("%d programs have types, %d have none", codes, untyped)
	}
	for kind := impl.DVal; kind <= impl.EOr; kind++ {
		if kinds[kind] < 20 {
			t.Errorf("%s was met %d times", kindName(kind), kinds[kind])
		}
	}
}

// The most plain code that a program can have comes of a sequence: it is less than MaxCode.
func TestDesugarMostCode(t *testing.T) {
	one, max := made(impl.EInt, 1, ""), impl.MaxNodes
	val := func(exp []impl.Node) []impl.Node { return programOf(made(impl.DVal, 0, "", wildPat, exp)) }
	leaves := slices.Repeat([][]impl.Node{one}, max-4)
	both := one
	for range 290 {
		both = made(impl.EAnd, 0, "", both, one)
	}
	conjunctions := slices.Repeat([][]impl.Node{both}, (max-4)/len(both))
	wide := func(name string) []impl.Node {
		return made(impl.FBind, 0, name, made(impl.FClause, 0, "", append(slices.Repeat([][]impl.Node{wildPat}, 90), one)...))
	}
	for name, c := range map[string]struct {
		program []impl.Node
		least   int
	}{
		"a sequence":   {val(made(impl.ESeq, 0, "", leaves...)), 23900},
		"a tuple":      {val(made(impl.ETuple, 0, "", leaves...)), 5900},
		"conjunctions": {val(made(impl.ESeq, 0, "", conjunctions...)), 20000},
		"functions":    {programOf(made(impl.DFun, 0, "", each(numberedNames("f", 64), wide)...)), 17000},
	} {
		program := resolvedTerm(t, c.program)
		if len(program) < max-400 {
			t.Fatalf("%s: %d nodes", name, len(program))
		}
		soon(t, name, func() {
			if it, code := impl.Desugar(program); code != impl.CoOk || len(it) < c.least || len(it) > impl.MaxCode || !impl.PlainForm(it) {
				t.Errorf("%s: code %d, %d nodes", name, code, len(it))
			}
		})
	}
}

func TestDesugarDeepest(t *testing.T) {
	for _, c := range [][3]string{
		{"fn x => (x, ", "1", ", x)"}, {"let fun f y = (x, y) in (f 1, ", "x", ", 2) end"}, {"let val y = 1 in ", "1", " end"}, {"(1; 2; ", "1", ")"}, {"(", "1", " handle x => 2)"}, {"if true then 1 else ", "1", ""}, {"true andalso (", "true", ")"}, {"raise ", "Div", ""}, {"~ ", "1", ""},
	} {
		for deep := 290; ; deep -= 10 {
			src := "val x = 1 val a = " + strings.Repeat(c[0], deep) + c[1] + strings.Repeat(c[2], deep)
			if it, code, _ := impl.Parse(src); code == impl.ParseOk {
				soon(t, c[0], func() { checkDesugar(t, resolvedTerm(t, it)) })
				break
			}
		}
	}
}

func TestDesugarMemory(t *testing.T) {
	for _, src := range []string{"", "val x = 1", "fun id x = x val a = (id 1, nil, id) fun f x y = f y y", "val x = 1 1", "val (a as 1, b) = (2, fn y => y)", "datatype t = A of t"} {
		arguments := &kept{}
		program := arguments.roomy(resolved(t, src))
		sharesNothing(t, src, arguments, func() [][]impl.Node {
			c, _ := impl.Desugar(program)
			return [][]impl.Node{c}
		})
	}
	// Places in the source do not matter.
	program := resolved(t, "fun f (x : 'a, y) = fn z => [x, y] val (a, b as 1) = (f, 1)")
	want, _ := impl.Desugar(program)
	for i := range program {
		program[i].At = 3 * (i - 20)
	}
	if got, _ := impl.Desugar(program); !slices.Equal(got, want) {
		t.Errorf("%s and %s", codeShown(got), codeShown(want))
	}
}
