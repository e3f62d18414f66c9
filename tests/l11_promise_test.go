package tests

import (
	"slices"
	"strconv"
	"testing"

	"loop.example/s02665/impl"
)

// codeFault is what a codeChecker finds wrong at a node.
type codeFault struct {
	node int
	why  string
}

// codeChecker finds the type of code as it is written down, as far as code needs it in which every
// number is bound once and schemes have the variables of their CAlls.
type codeChecker struct {
	u    tree
	cons map[string]impl.Con
	env  map[int64][]impl.Node
}

func newCodeChecker(program []impl.Node, c []impl.Node) *codeChecker {
	k := &codeChecker{treeOf(c), map[string]impl.Con{}, map[int64][]impl.Node{}}
	cons, _, _ := impl.Declare(program)
	for _, con := range cons {
		k.cons[con.Name] = con
	}
	return k
}

func (k *codeChecker) need(i int, ok bool, why string) {
	if !ok {
		panic(codeFault{i, why})
	}
}

func (k *codeChecker) same(i int, a []impl.Node, b []impl.Node) {
	k.need(i, slices.Equal(a, b), codeShown(a)+" is not "+codeShown(b))
}

// part is the term that ends with a node.
func (k *codeChecker) part(i int) []impl.Node {
	return k.u.t[k.u.from[i] : i+1]
}

func (k *codeChecker) bind(i int, scheme []impl.Node) {
	k.need(i, k.env[k.u.t[i].Num] == nil, "bound twice")
	k.env[k.u.t[i].Num] = scheme
}

// typ wants no variables in front.
func (k *codeChecker) typ(i int) []impl.Node {
	scheme := k.scheme(i)
	k.need(i, rootOf(scheme).Kind != impl.TAll, "a scheme")
	return scheme
}

func (k *codeChecker) types(nodes []int) [][]impl.Node {
	out := [][]impl.Node{}
	for _, i := range nodes {
		out = append(out, k.typ(i))
	}
	return out
}

func (k *codeChecker) parts(nodes []int) [][]impl.Node {
	out := [][]impl.Node{}
	for _, i := range nodes {
		out = append(out, k.part(i))
	}
	return out
}

func (k *codeChecker) isValue(i int) bool {
	kids := k.u.kids[i]
	switch k.u.t[i].Kind {
	case impl.CVar, impl.CGiven, impl.CInt, impl.CStr, impl.CCon, impl.CLam:
		return true
	case impl.CTuple:
		return !slices.ContainsFunc(kids, func(kid int) bool { return !k.isValue(kid) })
	case impl.CAll, impl.CInst:
		return k.isValue(kids[0])
	case impl.CApp:
		return k.u.t[kids[0]].Kind == impl.CCon && k.isValue(kids[1])
	}
	return false
}

// conType has the argument, if there is one, and the datatype.
func (k *codeChecker) conType(i int, types [][]impl.Node) (impl.Con, []impl.Node, []impl.Node) {
	con, found := k.cons[k.u.t[i].Text]
	k.need(i, found && con.Params == len(types), "constructor "+k.u.t[i].Text)
	data := typeCon(con.Data, types...)
	return con, varsTold(con.Arg, impl.TNum, 1, types), data
}

func (k *codeChecker) scheme(i int) []impl.Node {
	n, kids := k.u.t[i], k.u.kids[i]
	switch n.Kind {
	case impl.CVar:
		k.need(i, k.env[n.Num] != nil, "no binder")
		return k.env[n.Num]
	case impl.CGiven:
		return givenType(n.Num, k.parts(kids))
	case impl.CInt:
		return intType
	case impl.CStr:
		return stringType
	case impl.CCon:
		con, arg, data := k.conType(i, k.parts(kids))
		if con.Has {
			return typeArrow(arg, data)
		}
		return data
	case impl.CTuple:
		return typeTuple(k.types(kids)...)
	case impl.CLam:
		k.bind(i, k.part(kids[0]))
		return typeArrow(k.part(kids[0]), k.typ(kids[1]))
	case impl.CApp:
		f := k.typ(kids[0])
		k.need(i, rootOf(f).Kind == impl.TArrow, "no function")
		k.same(i, impl.Kids(f)[0], k.typ(kids[1]))
		return impl.Kids(f)[1]
	case impl.CAll:
		k.need(i, k.isValue(kids[0]), "no value")
		return unplaced(impl.TAll, n.Num, "", k.scheme(kids[0]))
	case impl.CInst:
		scheme := k.scheme(kids[0])
		k.need(i, rootOf(scheme).Kind == impl.TAll, "no scheme")
		return varsTold(scheme[:len(scheme)-1], impl.TNum, rootOf(scheme).Num, k.parts(kids[1:]))
	case impl.CBin:
		return k.operator(i, k.typ(kids[0]), k.typ(kids[1]))
	}
	return k.larger(i)
}

// larger are codes with binders, rules and words.
func (k *codeChecker) larger(i int) []impl.Node {
	n, kids := k.u.t[i], k.u.kids[i]
	switch n.Kind {
	case impl.CLet:
		k.same(i, k.scheme(kids[1]), k.part(kids[0]))
		k.bind(i, k.part(kids[0]))
		return k.typ(kids[2])
	case impl.CFix:
		binds := kids[:len(kids)-1]
		for _, b := range binds {
			k.bind(b, k.part(k.u.kids[b][0]))
		}
		for _, b := range binds {
			k.same(b, k.scheme(k.u.kids[b][1]), k.part(k.u.kids[b][0]))
		}
		return k.typ(kids[len(kids)-1])
	case impl.CCase:
		return k.rules(i, k.typ(kids[0]), nil)
	case impl.CTry:
		return k.rules(i, exnType, k.typ(kids[0]))
	case impl.CRaise:
		k.same(i, k.typ(kids[1]), exnType)
		return k.part(kids[0])
	case impl.CWhile:
		k.same(i, k.typ(kids[0]), boolType)
		k.typ(kids[1])
		return unitType
	case impl.CUn:
		operand := k.typ(kids[0])
		if n.Text == "~" {
			k.same(i, operand, intType)
			return intType
		}
		k.need(i, rootOf(operand).Text == "ref", "no reference")
		return impl.Kids(operand)[0]
	}
	panic(codeFault{i, "no code"})
}

func (k *codeChecker) rules(i int, of []impl.Node, result []impl.Node) []impl.Node {
	for _, rule := range k.u.kids[i][1:] {
		kids := k.u.kids[rule]
		k.pattern(kids[0], of)
		ty := k.typ(kids[1])
		if result != nil {
			k.same(rule, ty, result)
		}
		result = ty
	}
	return result
}

func (k *codeChecker) pattern(i int, s []impl.Node) {
	n, kids := k.u.t[i], k.u.kids[i]
	switch n.Kind {
	case impl.QVar, impl.QAs:
		k.same(i, k.part(kids[0]), s)
		k.bind(i, s)
		if n.Kind == impl.QAs {
			k.pattern(kids[1], s)
		}
	case impl.PInt:
		k.same(i, s, intType)
	case impl.PStr:
		k.same(i, s, stringType)
	case impl.PTuple:
		k.need(i, rootOf(s).Kind == impl.TTuple && rootOf(s).Kids == len(kids), "no such tuple")
		for j, part := range impl.Kids(s) {
			k.pattern(kids[j], part)
		}
	case impl.PCon:
		con, arg, data := k.conType(i, impl.Kids(s))
		k.same(i, s, data)
		k.need(i, con.Has == (len(kids) == 1), "argument")
		if con.Has {
			k.pattern(kids[0], arg)
		}
	}
}

func (k *codeChecker) operator(i int, left []impl.Node, right []impl.Node) []impl.Node {
	both := func(asked []impl.Node, result []impl.Node) []impl.Node {
		k.same(i, left, asked)
		k.same(i, right, asked)
		return result
	}
	switch k.u.t[i].Text {
	case "=", "<>":
		return both(left, boolType)
	case ":=":
		k.same(i, left, typeCon("ref", right))
		return unitType
	case "^":
		return both(stringType, stringType)
	case "<", "<=", ">", ">=":
		return both(intType, boolType)
	}
	return both(intType, intType)
}

func givenType(num int64, types [][]impl.Node) []impl.Node {
	switch num {
	case -1:
		return typeArrow(stringType, unitType)
	case -2:
		return typeArrow(stringType, intType)
	case -3:
		return typeArrow(typeTuple(stringType, intType), intType)
	case -4:
		return typeArrow(typeTuple(stringType, intType, intType), stringType)
	case -5, -6:
		return typeArrow(intType, stringType)
	case -7:
		return typeArrow(boolType, boolType)
	}
	return typeArrow(types[0], typeCon("ref", types[0]))
}

// checkedType is the type of code, or what is wrong with it.
func checkedType(program []impl.Node, c []impl.Node) (ty []impl.Node, wrong string) {
	k := newCodeChecker(program, c)
	defer func() {
		if fault, is := recover().(codeFault); is {
			ty, wrong = nil, "node "+strconv.Itoa(fault.node)+": "+fault.why
		}
	}()
	return k.typ(len(c) - 1), ""
}

// binds tells whether a node binds a number in the kid of it that is next.
func (u tree) binds(i int, kid int, num int64) bool {
	n, kids := u.t[i], u.kids[i]
	switch n.Kind {
	case impl.CLam:
		return n.Num == num && kid == kids[1]
	case impl.CLet:
		return n.Num == num && kid == kids[2]
	case impl.CFix:
		return slices.ContainsFunc(kids[:len(kids)-1], func(b int) bool { return u.t[b].Num == num })
	case impl.CRule:
		bound := slices.ContainsFunc(u.t[u.from[kids[0]]:kids[0]+1], func(q impl.Node) bool { return isOneOf(q.Kind, impl.QVar, impl.QAs) && q.Num == num })
		return bound && kid == kids[1]
	}
	return false
}

// outOfScope are the nodes of CVars that no binder is around, and of TNums that no CAll or TAll is.
func outOfScope(c []impl.Node) []int {
	u, out := treeOf(c), []int{}
	for i, n := range c {
		if n.Kind != impl.CVar && n.Kind != impl.TNum {
			continue
		}
		found := false
		for kid, up := i, u.parent[i]; up >= 0 && !found; kid, up = up, u.parent[up] {
			if n.Kind == impl.CVar {
				found = u.binds(up, kid, n.Num)
			} else {
				found = isOneOf(c[up].Kind, impl.CAll, impl.TAll) && c[up].Num == n.Num
			}
		}
		if !found {
			out = append(out, i)
		}
	}
	return out
}

// shownType is the type of what a program ends in, by the binders that Infer has.
func shownType(program []impl.Node) []impl.Node {
	parts := [][]impl.Node{unitType}
	outer := outerAgain(program)
	for _, b := range impl.Infer(program).Binders {
		if at := slices.Index(outer, b.Node); at >= 0 && at >= len(outer)-impl.MaxShown {
			parts = append(parts, varsTold(b.Type, impl.TNum, b.From, slices.Repeat([][]impl.Node{unitType}, b.Count)))
		}
	}
	if len(parts) == 1 {
		return unitType
	}
	return typeTuple(parts...)
}

// keepsTypes wants promise 13 of the code of a program, as far as it can be asked without TypeOf.
func keepsTypes(t *testing.T, program []impl.Node) {
	t.Helper()
	c := checkCode(t, program)
	if c == nil {
		return
	}
	if wrong := outOfScope(c); len(wrong) > 0 {
		t.Fatalf("%s\n%s\nnode %d is out of scope", impl.Print(program), codeShown(c), wrong[0])
	}
	ty, wrong := checkedType(program, c)
	if wrong != "" {
		t.Fatalf("%s\n%s\n%s", impl.Print(program), codeShown(c), wrong)
	}
	if want := shownType(program); !slices.Equal(ty, want) {
		t.Fatalf("%s\nhas the type %s, want %s", impl.Print(program), codeShown(ty), codeShown(want))
	}
}

func TestCodeKeepsTypes(t *testing.T) {
	for _, src := range []string{
		"", "val x = 1", "fun id x = x", "fun f x = f x", "val f = fn x => x val a = (f 1, f true)",
		"fun o x = let fun k y = (x, y) in (k 1, k true) end",
		"fun f (x : 'a) = let val k = fn (z : 'a) => z in k x end",
		"fun f x = g x and g y = (f y; y) val a = (f 1, g \"\")",
		"val r = ref nil val _ = r := [1] val a = !r", "val (f, g) = (fn x => x, 1)",
		"datatype ('a, 'b) t = A of 'b * 'a | B fun f (A (x, y)) = A (y, x) | f B = B val a = f (A (1, true))",
		"exception E of int fun f x = (raise E x) handle E y => y | Div => 2 | z => raise z",
		"val x as (y, z : int) = (nil, 2) fun g (a as b :: _) c = if a = c then b else g c a",
		"fun f x y = (while !x < 3 do x := !x + 1; y andalso not y orelse y) val a = f (ref 1) true",
		"val a = let val n = nil fun k x y = x in (1 :: k n 1, true :: k n n, k) end",
		"fun f x = 1 and g y = (f, y) and h z = g z val a = (g 1, h true)",
		"val s = cut (chr 65 ^ show 3, 0, size \"a\") val _ = (print s; sub (s, 0))",
	} {
		keepsTypes(t, resolved(t, src))
	}
}

func TestCodeOfMadeUpPrograms(t *testing.T) {
	codes, large, kinds := 0, 0, map[int]int{}
	codedPrograms(t, 900, func(c *coder, src string, program []impl.Node) {
		keepsTypes(t, program)
		it, code := impl.Elaborate(program)
		if code == impl.CoOk {
			codes++
		}
		if len(it) > 300 {
			large++
		}
		for _, n := range it {
			kinds[n.Kind]++
		}
	})
	if codes < 2000 || large < 100 {
		t.Errorf("%d programs have code, %d are large", codes, large)
	}
	for _, l := range codeList() {
		if kinds[l.kind] < 50 {
			t.Errorf("%s was met %d times", codeKindName(l.kind), kinds[l.kind])
		}
	}
}

// Programs that are drawn without a thought of types have none most of the time.
func TestCodeOfDrawnPrograms(t *testing.T) {
	codes := 0
	look := func(program []impl.Node) {
		keepsTypes(t, program)
		if _, code := impl.Elaborate(program); code == impl.CoOk {
			codes++
		}
	}
	drawnPrograms(t, 2000, func(d drawer, drawn []impl.Node, right []impl.Node) {
		look(drawn)
		look(resolvedTerm(t, right))
	})
	declaringPrograms(t, 200, func(d *declarer, program []impl.Node) { look(resolvedTerm(t, program)) })
	if codes < 300 {
		t.Errorf("%d programs have code", codes)
	}
}

// Code with one node changed has another type or none, so the check above looks at all of it.
func TestCodeCheckerSees(t *testing.T) {
	program := resolved(t, "datatype 'a opt = None | Some of 'a fun f (Some x) y = (x, y + 1) | f None y = raise Match val (a, b as 1) = f (Some true) 2 val r = ref [a]")
	c, code := impl.Elaborate(program)
	if _, wrong := checkedType(program, c); code != impl.CoOk || wrong != "" {
		t.Fatalf("code %d, %s", code, wrong)
	}
	for i, n := range c {
		if n.Kind != impl.TCon || n.Kids > 0 {
			continue
		}
		changed := slices.Clone(c)
		changed[i].Text = "string"
		if ty, wrong := checkedType(program, changed); wrong == "" {
			t.Errorf("node %d may be anything, with the type %s", i, codeShown(ty))
		}
	}
}
