package tests

import (
	"math/rand"
	"slices"
	"strconv"
	"testing"

	"loop.example/s02665/impl"
)

// bound is a type where it stands, with the types that the params around it stand for.
type bound struct {
	u      tree
	node   int
	params map[string]bound
}

// spelling writes a plain type from the root downwards: abbreviations are replaced from the outside,
// so that what they drop is never looked at. It stops where a type is too large.
type spelling struct {
	program tree
	leaf    func(text string) impl.Node
	out     []impl.Node
}

func (s *spelling) put(it bound) {
	if len(s.out) > impl.MaxType {
		return
	}
	n, kids := it.u.t[it.node], it.u.kids[it.node]
	if n.Kind == impl.TVar {
		if arg, ok := it.params[n.Text]; ok {
			s.put(arg)
		} else {
			s.out = append(s.out, s.leaf(n.Text))
		}
		return
	}
	if dec := s.program.within(0, len(s.program.t), n.Text, impl.DType); n.Kind == impl.TCon && dec >= 0 {
		params := map[string]bound{}
		for k, param := range s.program.kids[dec][:len(kids)] {
			params[s.program.t[param].Text] = bound{it.u, kids[k], it.params}
		}
		s.put(bound{s.program, dec - 1, params})
		return
	}
	for _, kid := range kids {
		s.put(bound{it.u, kid, it.params})
	}
	n.At = 0
	s.out = append(s.out, n)
}

// plainAgain is the plain type of a type in a program, as it should be, or of more than MaxType nodes.
func (u tree) plainAgain(types tree, i int, leaf func(text string) impl.Node) []impl.Node {
	s := spelling{program: u, leaf: leaf}
	s.put(bound{u: types, node: i})
	return s.out
}

// asMeta numbers TVars by all that stand in the type.
func asMeta(ty []impl.Node) func(text string) impl.Node {
	return func(text string) impl.Node {
		texts := []string{}
		for _, n := range ty {
			if n.Kind == impl.TVar && !slices.Contains(texts, n.Text) {
				texts = append(texts, n.Text)
			}
		}
		return impl.Node{Kind: impl.TMeta, Num: int64(1 + slices.Index(texts, text))}
	}
}

// tables tell of each type of a program whether it has values, for each set of params that have.
type tables map[string][]bool

func (u tree) values() tables {
	has := tables{}
	for _, n := range u.t {
		if isOneOf(n.Kind, impl.TBind, impl.DType) {
			has[n.Text] = make([]bool, 1<<n.Num)
		}
	}
	for changed := true; changed; {
		changed = false
		for i, n := range u.t {
			if !isOneOf(n.Kind, impl.TBind, impl.DType) {
				continue
			}
			for set := range has[n.Text] {
				if !has[n.Text][set] && u.hasWith(has, i, set) {
					has[n.Text][set], changed = true, true
				}
			}
		}
	}
	return has
}

func (u tree) hasWith(has tables, dec int, set int) bool {
	params := map[string]bool{}
	for k, param := range u.kids[dec][:u.t[dec].Num] {
		params[u.t[param].Text] = set>>k&1 == 1
	}
	for _, kid := range u.kids[dec][u.t[dec].Num:] {
		if u.t[kid].Kind == impl.CBind {
			if u.t[kid].Kids == 0 {
				return true
			}
			kid = u.kids[kid][0]
		}
		if u.typeHas(has, kid, params) {
			return true
		}
	}
	return false
}

func (u tree) typeHas(has tables, i int, params map[string]bool) bool {
	n, set, all := u.t[i], 0, true
	for k, kid := range u.kids[i] {
		if u.typeHas(has, kid, params) {
			set |= 1 << min(k, 60)
		} else {
			all = false
		}
	}
	switch {
	case n.Kind == impl.TVar:
		return params[n.Text]
	case n.Kind == impl.TArrow, isOneOf(n.Text, "int", "string", "exn", "bool", "list"):
		return true
	case n.Kind == impl.TTuple, n.Text == "ref":
		return all
	}
	return has[n.Text][set]
}

// wrongData is the code of one node of a resolved program.
func (u tree) wrongData(has tables, i int) int {
	n, up := u.t[i], u.parent[i]
	if n.Kind == impl.TBind {
		binds, before := 0, 0
		for j, m := range u.t {
			if m.Kind == impl.TBind {
				binds++
				if j < i {
					before++
				}
			}
		}
		switch {
		case binds > impl.MaxData && before == impl.MaxData:
			return impl.DtLarge
		case binds <= impl.MaxData && !has[n.Text][len(has[n.Text])-1]:
			return impl.DtEmpty
		}
	}
	if impl.TVar <= n.Kind && n.Kind <= impl.TTuple && isOneOf(u.t[up].Kind, impl.DType, impl.CBind, impl.DExn, impl.PType, impl.EType) {
		if len(u.plainAgain(u, i, func(string) impl.Node { return impl.Node{} })) > impl.MaxType {
			return impl.DtLarge
		}
	}
	return impl.DtOk
}

// declared is what Declare should answer for a resolved program.
func (u tree) declared() ([]string, int, int) {
	has := u.values()
	for i := range u.t {
		if code := u.wrongData(has, i); code != impl.DtOk {
			return nil, code, i
		}
	}
	out := slices.Clone(givenConsShown)
	for i, n := range u.t {
		if isOneOf(n.Kind, impl.CBind, impl.DExn) {
			out = append(out, u.conAgain(i))
		}
	}
	return out, impl.DtOk, 0
}

func (u tree) conAgain(i int) string {
	data, params := "exn", []int{}
	if u.t[i].Kind == impl.CBind {
		up := u.parent[i]
		data, params = u.t[up].Text, u.kids[up][:u.t[up].Num]
	}
	out := u.t[i].Text + " " + data + " " + strconv.Itoa(len(params))
	if u.t[i].Kids == 1 {
		out += " of " + plainShown(u.plainAgain(u, i-1, func(text string) impl.Node {
			which := slices.IndexFunc(params, func(param int) bool { return u.t[param].Text == text })
			return impl.Node{Kind: impl.TNum, Num: int64(1 + which)}
		}))
	}
	return out
}

// checkDeclare holds Declare and ConOf of a program against the chapter told again. It answers the code.
func checkDeclare(t *testing.T, program []impl.Node) int {
	t.Helper()
	before := slices.Clone(program)
	cons, code, node := impl.Declare(program)
	want, wantCode, wantNode := []string(nil), impl.DtProgram, 0
	if impl.Resolved(program) {
		want, wantCode, wantNode = treeOf(program).declared()
	}
	if got := consShown(cons); code != wantCode || node != wantNode || !slices.Equal(got, want) {
		t.Fatalf("%s\ncode %d at node %d, %q\nwant code %d at node %d, %q", impl.Print(program), code, node, got, wantCode, wantNode, want)
	}
	for i, con := range cons {
		if i%7 != len(program)%7 {
			continue
		}
		if got, ok := impl.ConOf(program, con.Name); !ok || conShown(got) != want[i] {
			t.Fatalf("%s\nConOf %s is %s", impl.Print(program), con.Name, conShown(got))
		}
	}
	if got, ok := impl.ConOf(program, "Nowhere"); ok || conShown(got) != "  0" {
		t.Fatalf("%s\nConOf Nowhere is %s", impl.Print(program), conShown(got))
	}
	if !slices.Equal(program, before) {
		t.Fatalf("%s\nwas changed", impl.Print(before))
	}
	return code
}

// checkPlain asks of a type that is of SortType. It answers whether there is a plain type.
func checkPlain(t *testing.T, program []impl.Node, ty []impl.Node) bool {
	t.Helper()
	before := slices.Clone(ty)
	got, ok := impl.Plain(program, ty)
	want := []impl.Node{}
	if _, code, _ := impl.Declare(program); code == impl.DtOk {
		want = plainIn(treeOf(program), ty)
	}
	if ok != (len(want) > 0) || !slices.Equal(got, want) {
		t.Fatalf("%s\nin it %s is %s %v, want %s", impl.Print(program), impl.Print(ty), plainShown(got), ok, plainShown(want))
	}
	if !slices.Equal(ty, before) {
		t.Fatalf("%s\nwas changed", impl.Print(before))
	}
	return ok
}

func plainIn(u tree, ty []impl.Node) []impl.Node {
	for _, n := range ty {
		if n.Kind == impl.TCon && u.params(len(u.t)-1, n.Text) != n.Kids {
			return nil
		}
	}
	out := u.plainAgain(treeOf(ty), len(ty)-1, asMeta(ty))
	if len(out) > impl.MaxType {
		return nil
	}
	return out
}

// kindOf is a type that is known, and how many params it has.
type kindOf struct {
	name   string
	params int
}

// declarer makes programs up that are right, with types of their own.
type declarer struct {
	drawer
	known []kindOf
	made  int
}

func newDeclarer(seed int64) *declarer {
	return &declarer{drawer{rand.New(rand.NewSource(seed))}, []kindOf{{"int", 0}, {"list", 1}, {"ref", 1}}, 0}
}

func (d *declarer) fresh(front string) string {
	d.made++
	return front + strconv.Itoa(d.made)
}

// kind is most often one that the program has declared.
func (d *declarer) kind() kindOf {
	if d.rnd.Intn(6) == 0 {
		return d.known[d.rnd.Intn(len(d.known))]
	}
	last := min(len(d.known), 5)
	return d.known[len(d.known)-1-d.rnd.Intn(last)]
}

func (d *declarer) typ(deep int, vars []string) []impl.Node {
	pick := d.rnd.Intn(10)
	if len(vars) > 0 && (pick < 3 || deep <= 0) {
		return d.node(impl.TVar, 0, vars[d.rnd.Intn(len(vars))])
	}
	if deep <= 0 {
		return d.node(impl.TCon, 0, "int")
	}
	one := func() []impl.Node { return d.typ(deep-1, vars) }
	switch pick {
	case 0:
		return d.node(impl.TArrow, 0, "", one(), one())
	case 1, 2, 3:
		return d.tuple(impl.TTuple, one)
	}
	it := d.kind()
	kids := [][]impl.Node{}
	for range it.params {
		kids = append(kids, one())
	}
	return d.node(impl.TCon, 0, it.name, kids...)
}

func (d *declarer) heads() []string {
	heads := []string{"a", "b", "c", "d"}
	d.rnd.Shuffle(len(heads), func(i, j int) { heads[i], heads[j] = heads[j], heads[i] })
	return heads[:d.rnd.Intn(4)]
}

func (d *declarer) con(kind int, deep int, vars []string) []impl.Node {
	if d.rnd.Intn(6) == 0 {
		return d.node(kind, 0, d.fresh("C"))
	}
	return d.node(kind, 0, d.fresh("C"), d.typ(deep, vars))
}

func (d *declarer) headed(kind int, name string, heads []string, kids ...[]impl.Node) []impl.Node {
	vars := each(heads, func(head string) []impl.Node { return d.node(impl.TVar, 0, head) })
	return d.node(kind, int64(len(heads)), name, slices.Concat(vars, kids)...)
}

func (d *declarer) abbreviation(deep int) []impl.Node {
	heads, name := d.heads(), d.fresh("s")
	ty := d.typ(deep, heads)
	if d.rnd.Intn(4) == 0 {
		ty = d.node(impl.TTuple, 0, "", slices.Repeat([][]impl.Node{ty}, 2+d.rnd.Intn(15))...)
	}
	d.known = append(d.known, kindOf{name, len(heads)})
	return d.headed(impl.DType, name, heads, ty)
}

func (d *declarer) datatypes(deep int) []impl.Node {
	n := 1 + d.rnd.Intn(3)
	heads, names := [][]string{}, []string{}
	for k := range n {
		heads, names = append(heads, d.heads()), append(names, d.fresh("t"))
		d.known = append(d.known, kindOf{names[k], len(heads[k])})
	}
	binds := [][]impl.Node{}
	for k := range n {
		cons := d.some(1, func() []impl.Node { return d.con(impl.CBind, deep, heads[k]) })
		binds = append(binds, d.headed(impl.TBind, names[k], heads[k], cons...))
	}
	return d.node(impl.DData, 0, "", binds...)
}

func (d *declarer) dec(deep int) []impl.Node {
	vars := []string{"a", "x", "y"}
	switch d.rnd.Intn(10) {
	case 0:
		return d.con(impl.DExn, deep, nil)
	case 1:
		return d.node(impl.DVal, 0, "", d.node(impl.PType, 0, "", d.node(impl.PWild, 0, ""), d.typ(deep, vars)), d.node(impl.EInt, d.number(), ""))
	case 2:
		return d.node(impl.DVal, 0, "", d.node(impl.PInt, 1, ""), d.node(impl.EType, 0, "", d.node(impl.EInt, d.number(), ""), d.typ(deep, vars)))
	case 3, 4, 5, 6:
		return d.abbreviation(deep)
	}
	return d.datatypes(deep)
}

// declaringPrograms hands out programs that are resolved, and the one who made them.
func declaringPrograms(t *testing.T, programs int64, each func(d *declarer, program []impl.Node)) {
	t.Helper()
	for seed := range programs {
		d := newDeclarer(seed)
		decs := [][]impl.Node{}
		for range 1 + seed%12 {
			decs = append(decs, d.dec(1+d.rnd.Intn(3)))
		}
		program := d.node(impl.KProgram, 0, "", decs...)
		if len(program) > 1500 {
			continue
		}
		if _, code, node := impl.Resolve(program); code != impl.ScOk {
			t.Fatalf("%s\ncode %d at node %d", impl.Print(program), code, node)
		}
		each(d, program)
	}
}

func TestDeclareMadeUpPrograms(t *testing.T) {
	codes, near := map[int]int{}, 0
	declaringPrograms(t, 5000, func(d *declarer, program []impl.Node) {
		codes[checkDeclare(t, program)]++
		cons, _, _ := impl.Declare(program)
		for _, con := range cons {
			if len(con.Arg) > impl.MaxType/3 {
				near++
			}
		}
	})
	if codes[impl.DtOk] < 1000 || codes[impl.DtLarge] < 100 || codes[impl.DtEmpty] < 1000 || near < 50 {
		t.Errorf("codes %v, %d large arguments", codes, near)
	}
}

// Programs of all kinds of nodes, with all that stands around types.
func TestDeclareDrawnPrograms(t *testing.T) {
	codes := map[int]int{}
	drawnPrograms(t, 3000, func(d drawer, drawn []impl.Node, right []impl.Node) {
		codes[checkDeclare(t, drawn)]++
		again, _, _ := impl.Resolve(right)
		codes[checkDeclare(t, again)]++
	})
	if codes[impl.DtOk] < 500 || codes[impl.DtProgram] < 500 || codes[impl.DtEmpty] == 0 {
		t.Errorf("codes %v", codes)
	}
}

func TestPlainMadeUpTypes(t *testing.T) {
	had, none := 0, 0
	declaringPrograms(t, 1500, func(d *declarer, program []impl.Node) {
		for deep := range 4 {
			ty := d.typ(deep, []string{"z", "a", "y", "b"})
			if checkPlain(t, program, ty) {
				had++
			} else {
				none++
			}
			// Another name in it, or a kid more or less.
			i := d.rnd.Intn(len(ty))
			if ty[i].Kind == impl.TCon {
				ty[i].Text = d.one("int list t1 s2 nowhere x")
			}
			checkPlain(t, program, ty)
		}
	})
	if had < 1000 || none < 1000 {
		t.Errorf("%d types had plain types, %d had none", had, none)
	}
}

// asSource writes a plain type down as a type, its numbers as names.
func asSource(ty []impl.Node) []impl.Node {
	out := slices.Clone(ty)
	for i, n := range ty {
		if isOneOf(n.Kind, impl.TNum, impl.TMeta) {
			out[i] = impl.Node{Kind: impl.TVar, Text: "v" + strconv.FormatInt(n.Num, 10)}
		}
	}
	return out
}

// renumbered has TMetas with the numbers from 1 on in the order of the list.
func renumbered(ty []impl.Node) []impl.Node {
	out, nums := slices.Clone(ty), []int64{}
	for i, n := range ty {
		if isOneOf(n.Kind, impl.TNum, impl.TMeta) {
			if !slices.Contains(nums, n.Num) {
				nums = append(nums, n.Num)
			}
			out[i].Kind, out[i].Num = impl.TMeta, int64(1+slices.Index(nums, n.Num))
		}
	}
	return out
}

// The seventh promise in its own words, without the chapter told again.
func TestDataPromise(t *testing.T) {
	args, types := 0, 0
	isItsOwn := func(program []impl.Node, ty []impl.Node) {
		again, ok := impl.Plain(program, asSource(ty))
		if !ok || !slices.Equal(again, renumbered(ty)) {
			t.Fatalf("%s\nin it %s becomes %s", impl.Print(program), plainShown(ty), plainShown(again))
		}
	}
	declaringPrograms(t, 2500, func(d *declarer, program []impl.Node) {
		cons, code, _ := impl.Declare(program)
		if code != impl.DtOk {
			return
		}
		names := []string{}
		for _, con := range cons {
			names = append(names, con.Name)
			if !con.Has {
				continue
			}
			args++
			most := slices.MaxFunc(con.Arg, func(a, b impl.Node) int { return int(a.Num - b.Num) })
			if !impl.Ground(con.Arg) || most.Num > int64(con.Params) {
				t.Fatalf("%s\n%s", impl.Print(program), conShown(con))
			}
			isItsOwn(program, con.Arg)
		}
		slices.Sort(names)
		if len(slices.Compact(names)) != len(cons) {
			t.Fatalf("%s\nthe same name twice: %q", impl.Print(program), names)
		}
		for range 3 {
			if ty, ok := impl.Plain(program, d.typ(3, []string{"z", "a"})); ok {
				types++
				isItsOwn(program, ty)
			}
		}
	})
	if args < 3000 || types < 3000 {
		t.Errorf("%d arguments, %d types", args, types)
	}
}
