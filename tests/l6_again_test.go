package tests

import (
	"math/rand"
	"slices"
	"strconv"
	"testing"

	"loop.example/s02665/impl"
)

// tree tells of each node of a term where it stands. With it the chapter is told again, from a node
// upwards instead of from the root downwards.
type tree struct {
	t      []impl.Node
	from   []int
	parent []int
	kids   [][]int
}

func treeOf(it []impl.Node) tree {
	u := tree{it, make([]int, len(it)), make([]int, len(it)), make([][]int, len(it))}
	free := []int{}
	for i, n := range it {
		kids := slices.Clone(free[len(free)-n.Kids:])
		free = append(free[:len(free)-n.Kids], i)
		u.from[i], u.parent[i], u.kids[i] = i, -1, kids
		for _, kid := range kids {
			u.parent[kid] = i
		}
		if len(kids) > 0 {
			u.from[i] = u.from[kids[0]]
		}
	}
	return u
}

// isNamed is whether a node is of one of the kinds and has the Text.
func (u tree) isNamed(i int, text string, kinds ...int) bool {
	return u.t[i].Text == text && isOneOf(u.t[i].Kind, kinds...)
}

// within is the first such node from one on up to another that is not looked at, or -1.
func (u tree) within(from int, to int, text string, kinds ...int) int {
	for i := from; i < to; i++ {
		if u.isNamed(i, text, kinds...) {
			return i
		}
	}
	return -1
}

func (u tree) inPats(pats []int, text string) int {
	if len(pats) == 0 {
		return -1
	}
	return u.within(u.from[pats[0]], pats[len(pats)-1]+1, text, impl.PVar, impl.PAs)
}

func (u tree) inFuns(dec int, text string) int {
	for _, bind := range u.kids[dec] {
		if u.t[bind].Text == text {
			return bind
		}
	}
	return -1
}

// broughtBy is the binder that a node brings into the scope of one of its kids, or -1.
func (u tree) broughtBy(up int, kid int, text string) int {
	kids := u.kids[up]
	front := kids[:slices.Index(kids, kid)]
	switch u.t[up].Kind {
	case impl.Rule, impl.FClause:
		return u.inPats(front, text)
	case impl.DFun:
		return u.inFuns(up, text)
	case impl.KProgram, impl.ELet:
		for _, dec := range slices.Backward(front) {
			found := -1
			switch u.t[dec].Kind {
			case impl.DVal:
				found = u.inPats(u.kids[dec][:1], text)
			case impl.DFun:
				found = u.inFuns(dec, text)
			}
			if found >= 0 {
				return found
			}
		}
	}
	return -1
}

// meant is the binder that a name means where a node stands, or -1.
func (u tree) meant(i int, text string) int {
	for kid, up := i, u.parent[i]; up >= 0; kid, up = up, u.parent[up] {
		if found := u.broughtBy(up, kid, text); found >= 0 {
			return found
		}
	}
	return -1
}

func (u tree) above(i int, kinds ...int) int {
	for i >= 0 && !isOneOf(u.t[i].Kind, kinds...) {
		i = u.parent[i]
	}
	return i
}

// arguments is how many a constructor has where a node stands, or -1.
func (u tree) arguments(i int, text string) int {
	if isOneOf(text, "true", "false", "nil") || slices.Contains(givenExceptions, text) {
		return 0
	}
	if text == "::" {
		return 1
	}
	if known := u.within(0, i, text, impl.CBind, impl.DExn); known >= 0 {
		return u.t[known].Kids
	}
	return -1
}

// params is how many a type has where a node stands, or -1.
func (u tree) params(i int, text string) int {
	if n, ok := givenParams[text]; ok {
		return n
	}
	known := u.within(0, i, text, impl.TBind, impl.DType)
	if data := u.above(i, impl.DData); known < 0 && data >= 0 {
		known = u.within(i, data, text, impl.TBind)
	}
	if known < 0 {
		return -1
	}
	return int(u.t[known].Num)
}

// patternFrom is where the pattern begins in which a binder stands.
func (u tree) patternFrom(i int) int {
	house := u.above(i, impl.DVal, impl.Rule, impl.FClause)
	return u.from[house]
}

func twiceIf(it bool) int {
	if it {
		return impl.ScTwice
	}
	return impl.ScOk
}

// wrong is the code of one node.
func (u tree) wrong(i int) int {
	n := u.t[i]
	switch n.Kind {
	case impl.EVar:
		if u.meant(i, n.Text) < 0 && givenNumbers[n.Text] == 0 {
			return impl.ScUnbound
		}
	case impl.ECon, impl.PCon:
		return u.wrongCon(i)
	case impl.PVar, impl.PAs:
		return twiceIf(u.within(u.patternFrom(i), i, n.Text, impl.PVar, impl.PAs) >= 0)
	case impl.FBind:
		return twiceIf(u.inFuns(u.parent[i], n.Text) != i)
	case impl.CBind, impl.DExn:
		return twiceIf(slices.Contains(givenExceptions, n.Text) || u.within(0, i, n.Text, impl.CBind, impl.DExn) >= 0)
	case impl.TBind, impl.DType:
		_, given := givenParams[n.Text]
		return twiceIf(given || u.within(0, i, n.Text, impl.TBind, impl.DType) >= 0)
	case impl.TVar:
		return u.wrongVar(i)
	case impl.TCon:
		switch u.params(i, n.Text) {
		case -1:
			return impl.ScType
		case n.Kids:
			return impl.ScOk
		}
		return impl.ScKind
	}
	return impl.ScOk
}

func (u tree) wrongCon(i int) int {
	n := u.t[i]
	has := u.arguments(i, n.Text)
	if has < 0 {
		return impl.ScCon
	}
	if n.Kind == impl.PCon && n.Kids != has {
		return impl.ScArity
	}
	return impl.ScOk
}

func (u tree) wrongVar(i int) int {
	house := u.above(i, impl.TBind, impl.DType, impl.DExn)
	if house < 0 {
		return impl.ScOk
	}
	if u.t[house].Kind == impl.DExn {
		return impl.ScVar
	}
	same := func(param int) bool { return u.t[param].Text == u.t[i].Text }
	params := u.kids[house][:u.t[house].Num]
	if slices.Contains(params, i) {
		return twiceIf(params[slices.IndexFunc(params, same)] != i)
	}
	if !slices.ContainsFunc(params, same) {
		return impl.ScVar
	}
	return impl.ScOk
}

func (u tree) firstWrong() (int, int) {
	for i := range u.t {
		if code := u.wrong(i); code != impl.ScOk {
			return code, i
		}
	}
	return impl.ScOk, 0
}

// numbered is the program as Resolve should answer it, if no node is wrong.
func (u tree) numbered() []impl.Node {
	out, binders := slices.Clone(u.t), int64(0)
	for i, n := range out {
		if isOneOf(n.Kind, impl.PVar, impl.PAs, impl.FBind) {
			binders++
			out[i].Num = binders
		}
	}
	for i, n := range out {
		if n.Kind != impl.EVar {
			continue
		}
		out[i].Num = givenNumbers[n.Text]
		if binder := u.meant(i, n.Text); binder >= 0 {
			out[i].Num = out[binder].Num
		}
	}
	return out
}

// free is told from the EVars upwards.
func (u tree) free() []string {
	out := []string{}
	for i, n := range u.t {
		if n.Kind == impl.EVar && u.meant(i, n.Text) < 0 && !slices.Contains(out, n.Text) {
			out = append(out, n.Text)
		}
	}
	return out
}

// checkResolve holds Resolve of a program against the chapter told again. It answers the code.
func checkResolve(t *testing.T, program []impl.Node) int {
	t.Helper()
	u := treeOf(program)
	before := slices.Clone(program)
	got, code, node := impl.Resolve(program)
	wantCode, wantNode := u.firstWrong()
	want := u.numbered()
	if wantCode != impl.ScOk {
		want = nil
	}
	if code != wantCode || node != wantNode || !slices.Equal(got, want) {
		t.Fatalf("%s\ncode %d at node %d, %s\nwant code %d at node %d, %s",
			impl.Print(program), code, node, namesShown(got), wantCode, wantNode, namesShown(want))
	}
	if !slices.Equal(program, before) {
		t.Fatalf("%s\nwas changed", impl.Print(before))
	}
	if impl.Resolved(program) != (code == impl.ScOk && slices.Equal(got, program)) {
		t.Fatalf("%s\nResolved answers %v", impl.Print(program), impl.Resolved(program))
	}
	return code
}

// mended is the program with each wrong node changed until none is left. What the nodes are stays but
// for types that are named with the wrong number of kids.
func (d drawer) mended(program []impl.Node) []impl.Node {
	out := slices.Clone(program)
	for tries := 0; ; tries++ {
		u := treeOf(out)
		code, i := u.firstWrong()
		if code == impl.ScOk {
			return out
		}
		d.mend(u, code, i, tries)
	}
}

func (d drawer) mend(u tree, code int, i int, tries int) {
	n := &u.t[i]
	switch code {
	case impl.ScUnbound:
		n.Text = d.visible(u, i)
	case impl.ScCon, impl.ScArity:
		n.Text = d.knownCon(u, i)
	case impl.ScTwice:
		n.Text += strconv.Itoa(tries)
	case impl.ScVar:
		n.Kind, n.Text = impl.TCon, "int"
		house := u.above(i, impl.TBind, impl.DType, impl.DExn)
		if u.t[house].Kind != impl.DExn && u.t[house].Num > 0 {
			n.Kind, n.Text = impl.TVar, u.t[u.kids[house][d.rnd.Int63n(u.t[house].Num)]].Text
		}
	case impl.ScType, impl.ScKind:
		switch n.Kids {
		case 0:
			n.Text = d.one("int string exn bool")
		case 1:
			n.Text = d.one("list ref")
		default:
			n.Kind, n.Text = impl.TTuple, ""
		}
	}
}

// visible is a name that means something where a node stands, most often a binder's.
func (d drawer) visible(u tree, i int) string {
	names := []string{d.one("print size sub cut chr show not ref")}
	for b, n := range u.t {
		if isOneOf(n.Kind, impl.PVar, impl.PAs, impl.FBind) && u.meant(i, n.Text) == b {
			names = append(names, n.Text, n.Text)
		}
	}
	return names[d.rnd.Intn(len(names))]
}

func (d drawer) knownCon(u tree, i int) string {
	cons := []string{"::"}
	if u.t[i].Kids == 0 {
		cons = slices.Concat(givenExceptions, []string{"nil", "true", "false"})
	}
	for _, n := range u.t[:i] {
		if isOneOf(n.Kind, impl.CBind, impl.DExn) && n.Kids == u.t[i].Kids {
			cons = append(cons, n.Text, n.Text, n.Text)
		}
	}
	return cons[d.rnd.Intn(len(cons))]
}

// drawnPrograms hands out programs as they are drawn, of which most are wrong, and each of them mended.
func drawnPrograms(t *testing.T, programs int64, each func(d drawer, drawn []impl.Node, right []impl.Node)) {
	for seed := range programs {
		d := drawer{rand.New(rand.NewSource(seed))}
		decs := [][]impl.Node{}
		for range seed % 12 {
			decs = append(decs, d.dec(1+d.rnd.Intn(4)))
		}
		program := d.node(impl.KProgram, 0, "", decs...)
		if len(program) > 600 || impl.SortOf(program) != impl.SortProgram {
			continue
		}
		right := d.mended(program)
		if impl.SortOf(right) != impl.SortProgram {
			t.Fatalf("mended, and no program: %v", right)
		}
		each(d, program, right)
	}
}

func TestResolveDrawnPrograms(t *testing.T) {
	codes, kinds := map[int]int{}, map[int]int{}
	drawnPrograms(t, 6000, func(d drawer, drawn []impl.Node, right []impl.Node) {
		codes[checkResolve(t, drawn)]++
		if code := checkResolve(t, right); code != impl.ScOk {
			t.Fatalf("%s: code %d", impl.Print(right), code)
		}
		for _, n := range right {
			kinds[n.Kind]++
		}
		// One Text changed to another that is there makes it wrong, or means something else.
		for range 5 {
			i, j := d.rnd.Intn(len(right)), d.rnd.Intn(len(right))
			changed := slices.Clone(right)
			changed[i].Text = right[j].Text
			if impl.SortOf(changed) == impl.SortProgram {
				codes[checkResolve(t, changed)]++
			}
		}
	})
	for code := impl.ScUnbound; code <= impl.ScKind; code++ {
		if codes[code] < 100 {
			t.Errorf("code %d was met %d times", code, codes[code])
		}
	}
	for kind := impl.KProgram; kind <= impl.EOr; kind++ {
		if kinds[kind] < 100 {
			t.Errorf("%s was met %d times", kindName(kind), kinds[kind])
		}
	}
}

func TestResolveParsedPrograms(t *testing.T) {
	for _, src := range programsOfAllRules() {
		checkResolve(t, parsed(t, src))
	}
	for seed := range int64(madeUpPrograms / 4) {
		src, _ := madeUp(seed, wideGaps)
		if got, code, _ := impl.Parse(src); code == impl.ParseOk && len(got) < 800 {
			checkResolve(t, got)
		}
	}
}

// The sixth promise in its own words, without the chapter told again.
func TestResolvePromise(t *testing.T) {
	drawnPrograms(t, 2000, func(d drawer, _ []impl.Node, right []impl.Node) {
		got, code, node := impl.Resolve(right)
		if code != impl.ScOk || node != 0 || len(got) != len(right) {
			t.Fatalf("%s: code %d at node %d", impl.Print(right), code, node)
		}
		names := []string{}
		for i, n := range got {
			if isOneOf(n.Kind, impl.PVar, impl.PAs, impl.FBind) {
				names = append(names, n.Text)
				if n.Num != int64(len(names)) {
					t.Fatalf("%s: node %d is binder %d, not %d", impl.Print(right), i, n.Num, len(names))
				}
			}
		}
		for i, n := range got {
			isBinder := isOneOf(n.Kind, impl.PVar, impl.PAs, impl.FBind)
			if n.Kind == impl.EVar && givenNumbers[n.Text] != n.Num && (n.Num < 1 || n.Num > int64(len(names)) || names[n.Num-1] != n.Text) {
				t.Fatalf("%s: %s has the number %d", impl.Print(right), n.Text, n.Num)
			}
			if isBinder || n.Kind == impl.EVar {
				n.Num = right[i].Num
			}
			if n != right[i] {
				t.Fatalf("%s: node %d was %v and is %v", impl.Print(right), i, right[i], n)
			}
		}
		again, code, node := impl.Resolve(got)
		if code != impl.ScOk || node != 0 || !slices.Equal(again, got) || !impl.Resolved(got) {
			t.Fatalf("%s: once is not enough", impl.Print(right))
		}
	})
}

// The Nums that come in do not matter, nor do the names of binders.
func TestResolveOtherNames(t *testing.T) {
	drawnPrograms(t, 1500, func(d drawer, _ []impl.Node, right []impl.Node) {
		want, _, _ := impl.Resolve(right)
		other := slices.Clone(want)
		for i, n := range other {
			if n.Num > 0 && isOneOf(n.Kind, impl.PVar, impl.PAs, impl.FBind, impl.EVar) {
				other[i].Text = "v" + strconv.FormatInt(n.Num, 10)
			}
		}
		got, code, _ := impl.Resolve(withoutNums(other))
		if code != impl.ScOk || !slices.Equal(got, other) {
			t.Fatalf("%s: %s, and with other names %s", impl.Print(right), namesShown(want), namesShown(got))
		}
	})
}

func TestResolvedWithOneNumChanged(t *testing.T) {
	drawnPrograms(t, 300, func(d drawer, _ []impl.Node, right []impl.Node) {
		it, _, _ := impl.Resolve(right)
		for i, n := range it {
			if !isOneOf(n.Kind, impl.PVar, impl.PAs, impl.FBind, impl.EVar) {
				continue
			}
			for _, num := range []int64{n.Num + 1, n.Num - 1, -n.Num, 0, d.number()} {
				it[i].Num = num
				if impl.Resolved(it) != (num == n.Num) {
					t.Fatalf("%s: node %d with %d instead of %d", impl.Print(right), i, num, n.Num)
				}
			}
			it[i].Num = n.Num
		}
		for i := range it {
			it[i].At += 1 + i
		}
		if !impl.Resolved(it) {
			t.Fatalf("%s: other places", impl.Print(right))
		}
	})
}

func TestResolvedOfSources(t *testing.T) {
	for _, src := range []string{"", "exception E", "val _ = 1", "datatype 'a t = A of 'a type u = int t"} {
		if it := parsed(t, src); !impl.Resolved(it) {
			t.Errorf("%q: without names to number, and not resolved", src)
		}
	}
	for _, src := range []string{"val x = 1", "val a = print", "fun f x = 1", "val x as _ = 1", "val x = y"} {
		if it := parsed(t, src); impl.Resolved(it) {
			t.Errorf("%q: resolved as it is parsed", src)
		}
	}
	wrong := parsed(t, "val x = 1 val y = x val z = A")
	for i, num := range []int64{1, 0, 0, 2, 1, 0, 3} {
		wrong[i].Num += num
	}
	if impl.Resolved(wrong) {
		t.Error("a wrong program with all its numbers is resolved")
	}
}

// Terms that are no programs.
func TestResolveNoProgram(t *testing.T) {
	none := slices.Collect(func(yield func([]impl.Node) bool) {
		for _, it := range badLists() {
			yield(it)
		}
		for _, l := range list()[1:] {
			yield(lettered(l.kind, 0, l.text, l.some))
		}
	})
	none = append(none, nil, []impl.Node{}, raised(impl.MaxDeep, evar("x")), wide(impl.KProgram, 'd', impl.MaxNodes))
	none = append(none, made(impl.KProgram, 1, ""), made(impl.KProgram, 0, "x"), made(impl.KProgram, 0, "", evar("x")))
	none = append(none, made(impl.KProgram, 0, "", made(impl.KProgram, 0, "")), made(0, 0, ""), made(impl.EOr+1, 0, ""), made(-1, 0, ""))
	none = append(none, made(impl.KProgram, 0, "", made(impl.DVal, 0, "", pvar("x"), evar("X"))))
	none = append(none, slices.Concat(made(impl.KProgram, 0, ""), made(impl.KProgram, 0, "")))
	for i := 1; i < 4; i++ {
		none = append(none, largeProgram()[i:], largeProgram()[:len(largeProgram())-i])
	}
	for _, it := range none {
		if impl.SortOf(it) == impl.SortProgram {
			t.Fatalf("%v is a program", it)
		}
		isWrong(t, it, impl.ScProgram, 0)
	}
	got, code, node := impl.Resolve(made(impl.KProgram, 0, ""))
	if code != impl.ScOk || node != 0 || !impl.Same(got, made(impl.KProgram, 0, "")) {
		t.Errorf("the empty program: %v, code %d at node %d", got, code, node)
	}
}
