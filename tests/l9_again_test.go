package tests

import (
	"slices"
	"strconv"
	"testing"

	"loop.example/s02665/impl"
)

// typist tells the chapter again, as one does by hand: unknowns are numbers, what is known of them is
// put in everywhere, and what may be generalised is found by looking at the scope.
type typist struct {
	u       tree
	cons    map[string]impl.Con
	f       filling
	types   map[int][]impl.Node // of patterns, exps, rules and clauses
	bound   map[int][]impl.Node // of binders, by their nodes
	general map[int]bool
	from    map[int]int64
	count   map[int]int
	tvars   map[string]int64 // by the dec of the program and the Text
	uses    map[int][][]impl.Node
	last    int64
	vars    int64
	ok      bool
	large   bool
	endless bool
}

// tooLong is how large types may become that are worked with by hand.
const tooLong = 20000

func newTypist(program []impl.Node) *typist {
	w := &typist{
		u: treeOf(program), cons: map[string]impl.Con{}, f: filling{},
		types: map[int][]impl.Node{}, bound: map[int][]impl.Node{}, general: map[int]bool{},
		from: map[int]int64{}, count: map[int]int{}, tvars: map[string]int64{}, uses: map[int][][]impl.Node{}, ok: true,
	}
	cons, _, _ := impl.Declare(program)
	for _, con := range cons {
		w.cons[con.Name] = con
	}
	return w
}

func (w *typist) fresh() []impl.Node {
	w.last++
	return typeMeta(w.last)
}

func (w *typist) freshOnes(n int) [][]impl.Node {
	out := [][]impl.Node{}
	for range n {
		out = append(out, w.fresh())
	}
	return out
}

func (w *typist) now(ty []impl.Node) []impl.Node {
	out := w.f.put(ty)
	if len(out) > tooLong {
		w.endless = true
	}
	return out
}

func (w *typist) equal(left []impl.Node, right []impl.Node) {
	if w.endless || len(w.now(left)) > tooLong || len(w.now(right)) > tooLong {
		w.endless = true
		return
	}
	w.ok = w.ok && w.f.solve(left, right)
}

// varsTold replaces variables by types.
func varsTold(ty []impl.Node, kind int, from int64, types [][]impl.Node) []impl.Node {
	out := []impl.Node{}
	for _, n := range ty {
		if n.Kind == kind && from <= n.Num && n.Num < from+int64(len(types)) {
			out = append(out, types[n.Num-from]...)
		} else {
			out = append(out, n)
		}
	}
	return out
}

// binderOf is the node of the binder with a number.
func (w *typist) binderOf(num int64) int {
	for i, n := range w.u.t {
		if isOneOf(n.Kind, impl.PVar, impl.PAs, impl.FBind) && n.Num == num {
			return i
		}
	}
	return -1
}

func (w *typist) boundAt(i int) []impl.Node {
	if w.bound[i] == nil {
		w.bound[i] = w.fresh()
	}
	return w.bound[i]
}

// inScope are the nodes of the binders that are in scope at a dec.
func (w *typist) inScope(dec int) []int {
	u, out := w.u, []int{}
	pats := func(pats []int) {
		for _, pat := range pats {
			for i := u.from[pat]; i <= pat; i++ {
				if isOneOf(u.t[i].Kind, impl.PVar, impl.PAs) {
					out = append(out, i)
				}
			}
		}
	}
	for kid, up := dec, u.parent[dec]; up >= 0; kid, up = up, u.parent[up] {
		front := u.kids[up][:slices.Index(u.kids[up], kid)]
		switch u.t[up].Kind {
		case impl.Rule, impl.FClause:
			pats(front)
		case impl.DFun:
			out = append(out, u.kids[up]...)
		case impl.KProgram, impl.ELet:
			for _, dec := range front {
				switch u.t[dec].Kind {
				case impl.DVal:
					pats(u.kids[dec][:1])
				case impl.DFun:
					out = append(out, u.kids[dec]...)
				}
			}
		}
	}
	return out
}

func (w *typist) decOfProgram(i int) int {
	for w.u.parent[i] != len(w.u.t)-1 {
		i = w.u.parent[i]
	}
	return i
}

func (w *typist) generalise(dec int, binders []int) {
	for _, b := range binders {
		w.large = w.large || len(w.now(w.bound[b])) > impl.MaxType
	}
	if w.large || w.endless {
		return
	}
	kept := []int64{}
	for _, b := range w.inScope(dec) {
		if !w.general[b] {
			kept = append(kept, metasOf(w.now(w.boundAt(b)))...)
		}
	}
	if top := w.decOfProgram(dec); top != dec {
		for text, num := range w.tvars {
			if text[:len(strconv.Itoa(top))+1] == strconv.Itoa(top)+" " {
				kept = append(kept, metasOf(w.now(typeMeta(num)))...)
			}
		}
	}
	first, count := w.vars+1, 0
	for _, b := range binders {
		for _, n := range w.now(w.bound[b]) {
			if n.Kind == impl.TMeta && w.f[n.Num] == nil && !slices.Contains(kept, n.Num) {
				w.vars++
				count++
				one := filling{n.Num: typeNum(w.vars)}
				for num, ty := range w.f {
					w.f[num] = one.put(ty)
				}
				w.f[n.Num] = typeNum(w.vars)
			}
		}
	}
	for _, b := range binders {
		w.general[b] = true
		if w.count[b] = count; count > 0 {
			w.from[b] = first
		}
	}
}

func (w *typist) isPlainExp(i int) bool {
	kids := w.u.kids[i]
	switch w.u.t[i].Kind {
	case impl.EInt, impl.EStr, impl.EVar, impl.ECon, impl.EFn:
		return true
	case impl.ETuple:
		for _, kid := range kids {
			if !w.isPlainExp(kid) {
				return false
			}
		}
		return true
	case impl.EApp:
		return w.u.t[kids[0]].Kind == impl.ECon && w.isPlainExp(kids[1])
	case impl.EType:
		return w.isPlainExp(kids[0])
	}
	return false
}

func (w *typist) written(root int) []impl.Node {
	source := w.u.t[w.u.from[root] : root+1]
	nums, types := []string{}, [][]impl.Node{}
	for _, n := range source {
		if n.Kind == impl.TVar && !slices.Contains(nums, n.Text) {
			nums = append(nums, n.Text)
			name := strconv.Itoa(w.decOfProgram(root)) + " " + n.Text
			if w.tvars[name] == 0 {
				w.last++
				w.tvars[name] = w.last
			}
			types = append(types, typeMeta(w.tvars[name]))
		}
	}
	plain, _ := impl.Plain(w.u.t, source)
	return varsTold(plain, impl.TMeta, 1, types)
}

var (
	intType, stringType = typeCon("int"), typeCon("string")
	boolType, exnType   = typeCon("bool"), typeCon("exn")
	unitType            = typeTuple()
)

func (w *typist) given(i int) []impl.Node {
	switch w.u.t[i].Num {
	case -1:
		return typeArrow(stringType, unitType)
	case -2:
		return typeArrow(stringType, intType)
	case -3:
		return typeArrow(typeTuple(stringType, intType), intType)
	case -4:
		return typeArrow(typeTuple(stringType, intType, intType), stringType)
	case -5, -6:
		return typeArrow(intType, stringType)
	case -7:
		return typeArrow(boolType, boolType)
	}
	a := w.fresh()
	w.uses[i] = [][]impl.Node{a}
	return typeArrow(a, typeCon("ref", a))
}

func (w *typist) variable(i int) []impl.Node {
	if w.u.t[i].Num < 0 {
		return w.given(i)
	}
	b := w.binderOf(w.u.t[i].Num)
	if !w.general[b] {
		return w.boundAt(b)
	}
	w.uses[i] = w.freshOnes(w.count[b])
	return varsTold(w.now(w.bound[b]), impl.TNum, w.from[b], w.uses[i])
}

func (w *typist) constructor(i int) ([]impl.Node, []impl.Node) {
	con := w.cons[w.u.t[i].Text]
	w.uses[i] = w.freshOnes(con.Params)
	return varsTold(con.Arg, impl.TNum, 1, w.uses[i]), typeCon(con.Data, w.uses[i]...)
}

func (w *typist) dec(i int) {
	kids := w.u.kids[i]
	switch w.u.t[i].Kind {
	case impl.FBind:
		for _, kid := range kids {
			w.equal(w.types[kid], w.boundAt(i))
		}
		pats := w.u.kids[kids[0]]
		for _, pat := range pats[:len(pats)-1] {
			w.uses[i] = append(w.uses[i], w.types[pat])
		}
	case impl.DVal:
		w.equal(w.types[kids[0]], w.types[kids[1]])
		w.uses[i] = [][]impl.Node{w.types[kids[1]]}
		if w.ok && w.u.t[kids[0]].Kind == impl.PVar && w.isPlainExp(kids[1]) {
			w.generalise(i, kids[:1])
		}
	case impl.DFun:
		w.generalise(i, kids)
	}
}

func (w *typist) pattern(i int) []impl.Node {
	n, kids := w.u.t[i], w.u.kids[i]
	switch n.Kind {
	case impl.PWild:
		return w.fresh()
	case impl.PVar:
		return w.boundAt(i)
	case impl.PInt:
		return intType
	case impl.PStr:
		return stringType
	case impl.PTuple:
		return typeTuple(w.typesOf(kids)...)
	case impl.PAs:
		w.bound[i] = w.types[kids[0]]
		return w.bound[i]
	case impl.PType:
		ty := w.written(kids[1])
		w.equal(w.types[kids[0]], ty)
		return ty
	case impl.PCon:
		arg, data := w.constructor(i)
		if len(kids) > 0 {
			w.equal(w.types[kids[0]], arg)
		}
		return data
	}
	return nil
}

func (w *typist) typesOf(nodes []int) [][]impl.Node {
	out := [][]impl.Node{}
	for _, i := range nodes {
		out = append(out, w.types[i])
	}
	return out
}

func (w *typist) leaf(i int) []impl.Node {
	switch w.u.t[i].Kind {
	case impl.EInt:
		return intType
	case impl.EStr:
		return stringType
	case impl.EVar:
		return w.variable(i)
	case impl.ECon:
		arg, data := w.constructor(i)
		if len(arg) > 0 {
			return typeArrow(arg, data)
		}
		return data
	}
	return nil
}

func (w *typist) matching(i int) []impl.Node {
	kids := w.typesOf(w.u.kids[i])
	last := len(kids) - 1
	switch w.u.t[i].Kind {
	case impl.Rule, impl.FClause:
		ty := kids[last]
		for k := last - 1; k >= 0; k-- {
			ty = typeArrow(kids[k], ty)
		}
		return ty
	case impl.EFn:
		for _, kid := range kids[1:] {
			w.equal(kids[0], kid)
		}
		w.uses[i] = [][]impl.Node{w.types[w.u.kids[w.u.kids[i][0]][0]]}
		return kids[0]
	case impl.ECase:
		r := w.fresh()
		for _, kid := range kids[1:] {
			w.equal(kid, typeArrow(kids[0], r))
		}
		return r
	case impl.EHandle:
		for _, kid := range kids[1:] {
			w.equal(kid, typeArrow(exnType, kids[0]))
		}
		return kids[0]
	}
	return nil
}

func (w *typist) operator(text string, left []impl.Node, right []impl.Node) []impl.Node {
	both := func(ty []impl.Node, result []impl.Node) []impl.Node {
		w.equal(left, ty)
		w.equal(right, ty)
		return result
	}
	switch text {
	case "+", "-", "*", "/", "%":
		return both(intType, intType)
	case "<", "<=", ">", ">=":
		return both(intType, boolType)
	case "^":
		return both(stringType, stringType)
	case ":=":
		w.equal(left, typeCon("ref", right))
		return unitType
	}
	w.equal(left, right)
	return boolType
}

func (w *typist) exp(i int) []impl.Node {
	n, kids := w.u.t[i], w.typesOf(w.u.kids[i])
	switch n.Kind {
	case impl.ETuple:
		return typeTuple(kids...)
	case impl.EApp:
		r := w.fresh()
		w.equal(kids[0], typeArrow(kids[1], r))
		return r
	case impl.EBin:
		return w.operator(n.Text, kids[0], kids[1])
	case impl.EUn:
		if n.Text == "~" {
			w.equal(kids[0], intType)
			return intType
		}
		r := w.fresh()
		w.equal(kids[0], typeCon("ref", r))
		return r
	case impl.EIf:
		w.equal(kids[0], boolType)
		w.equal(kids[1], kids[2])
		return kids[1]
	case impl.ELet, impl.ESeq:
		return kids[len(kids)-1]
	case impl.ERaise:
		w.equal(kids[0], exnType)
		w.uses[i] = [][]impl.Node{w.fresh()}
		return w.uses[i][0]
	case impl.EWhile:
		w.equal(kids[0], boolType)
		return unitType
	case impl.EType:
		ty := w.written(w.u.kids[i][1])
		w.equal(kids[0], ty)
		return ty
	case impl.EAnd, impl.EOr:
		w.equal(kids[0], boolType)
		w.equal(kids[1], boolType)
		return boolType
	}
	return nil
}

func (w *typist) look(i int) {
	kind := w.u.t[i].Kind
	switch {
	case impl.PWild <= kind && kind <= impl.PType:
		w.types[i] = w.pattern(i)
	case isOneOf(kind, impl.EVar, impl.EInt, impl.EStr, impl.ECon):
		w.types[i] = w.leaf(i)
	case isOneOf(kind, impl.Rule, impl.FClause, impl.EFn, impl.ECase, impl.EHandle):
		w.types[i] = w.matching(i)
	case impl.ETuple <= kind && kind <= impl.EOr:
		w.types[i] = w.exp(i)
	case isOneOf(kind, impl.DVal, impl.DFun, impl.FBind):
		w.dec(i)
	}
}

// full is what is left of a type at the end.
func (w *typist) full(ty []impl.Node) []impl.Node {
	out := w.now(ty)
	units := filling{}
	for _, num := range metasOf(out) {
		units[num] = unitType
	}
	return units.put(out)
}

func (w *typist) usesOf(i int) [][]impl.Node {
	out := [][]impl.Node{}
	for _, ty := range w.uses[i] {
		out = append(out, w.full(ty))
	}
	if n := w.u.t[i]; n.Kind == impl.EVar && n.Num > 0 && w.uses[i] == nil {
		b := w.binderOf(n.Num)
		for k := range w.count[b] {
			out = append(out, typeNum(w.from[b]+int64(k)))
		}
	}
	return out
}

func (w *typist) end() impl.Typed {
	typed := impl.Typed{}
	for i, n := range w.u.t {
		if isOneOf(n.Kind, impl.PVar, impl.PAs, impl.FBind) {
			b := impl.Binder{Num: n.Num, Name: n.Text, Node: i, From: w.from[i], Count: w.count[i], Type: w.full(w.bound[i])}
			if len(b.Type) > impl.MaxType {
				return impl.Typed{Code: impl.TyLarge, Node: i}
			}
			typed.Binders = append(typed.Binders, b)
		}
		types := w.usesOf(i)
		for _, ty := range types {
			if len(ty) > impl.MaxType {
				return impl.Typed{Code: impl.TyLarge, Node: i}
			}
		}
		if len(types) > 0 {
			typed.Uses = append(typed.Uses, impl.Use{Node: i, Types: types})
		}
	}
	return typed
}

// inferredAgain is what Infer should answer, and whether that could be found by hand.
func inferredAgain(program []impl.Node) (impl.Typed, bool) {
	if _, code, _ := impl.Declare(program); code != impl.DtOk {
		return impl.Typed{Code: impl.TyProgram}, true
	}
	w := newTypist(program)
	for i := range program {
		w.look(i)
		switch {
		case w.endless:
			return impl.Typed{}, false
		case !w.ok:
			return impl.Typed{Code: impl.TyClash, Node: i}, true
		case w.large:
			return impl.Typed{Code: impl.TyLarge, Node: i}, true
		}
	}
	typed := w.end()
	return typed, !w.endless
}

// typedShown writes everything that stands in an answer.
func typedShown(typed impl.Typed) string {
	out := "code " + strconv.Itoa(typed.Code) + " at " + strconv.Itoa(typed.Node)
	for _, b := range typed.Binders {
		out += "\n" + b.Name + " " + strconv.FormatInt(b.Num, 10) + " at " + strconv.Itoa(b.Node) + ", " +
			strconv.Itoa(b.Count) + " from " + strconv.FormatInt(b.From, 10) + ": " + plainShown(b.Type)
	}
	for _, u := range typed.Uses {
		out += "\nat " + strconv.Itoa(u.Node)
		for _, ty := range u.Types {
			out += " " + plainShown(ty)
		}
	}
	return out
}

// checkInfer holds an answer against what is found by hand, and answers with it.
func checkInfer(t *testing.T, program []impl.Node) impl.Typed {
	t.Helper()
	before := slices.Clone(program)
	got := impl.Infer(program)
	if !slices.Equal(program, before) {
		t.Fatalf("%s\nwas changed", impl.Print(before))
	}
	want, found := inferredAgain(program)
	if found && typedShown(got) != typedShown(want) {
		t.Fatalf("%s\n%s\nwant %s", impl.Print(program), typedShown(got), typedShown(want))
	}
	return got
}
