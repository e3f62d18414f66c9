package tests

import (
	"slices"
	"strconv"
	"testing"

	"loop.example/s02665/impl"
)

// toldType is a type or a scheme. Its variables have numbers that nothing else has.
type toldType struct {
	vars []int64
	body []impl.Node
}

// wrongCode is the first thing that is wrong with code.
type wrongCode struct {
	code int
	node int
}

// codeTeller tells chapter 12 again: nodes are looked at in an order that is made up beforehand, and
// what is around one is looked for from there upwards.
type codeTeller struct {
	u      tree
	params map[string]int
	cons   map[string]impl.Con
	its    map[int]toldType // of codes, and of types that are written
	of     map[int]toldType // what patterns are held against
	next   int64
}

func newCodeTeller(program []impl.Node, c []impl.Node) *codeTeller {
	k := &codeTeller{treeOf(c), map[string]int{"int": 0, "string": 0, "exn": 0, "bool": 0, "list": 1, "ref": 1}, map[string]impl.Con{}, map[int]toldType{}, map[int]toldType{}, 1 << 50}
	for _, n := range program {
		if n.Kind == impl.TBind {
			k.params[n.Text] = int(n.Num)
		}
	}
	cons, _, _ := impl.Declare(program)
	for _, con := range cons {
		k.cons[con.Name] = con
	}
	return k
}

// typedAgain is what TypeOf is to answer.
func typedAgain(program []impl.Node, c []impl.Node) (ty []impl.Node, code int, node int) {
	if _, code, _ := impl.Declare(program); code != impl.DtOk || !formAgain(c) {
		return nil, impl.CkArgs, 0
	}
	k := newCodeTeller(program, c)
	defer func() {
		if wrong, is := recover().(wrongCode); is {
			ty, code, node = nil, wrong.code, wrong.node
		}
	}()
	root := len(c) - 1
	for _, look := range k.order(root) {
		look()
	}
	return k.its[root].written(), impl.CkOk, 0
}

func (k *codeTeller) need(ok bool, code int, node int) {
	if !ok {
		panic(wrongCode{code, node})
	}
}

// written has -1, -2 and so on for the variables.
func (s toldType) written() []impl.Node {
	out := slices.Clone(s.body)
	for i, num := range s.vars {
		out = varsTold(out, impl.TNum, num, [][]impl.Node{typeNum(int64(-1 - i))})
	}
	for i := range slices.Backward(s.vars) {
		out = unplaced(impl.TAll, int64(-1-i), "", out)
	}
	return out
}

func (s toldType) isA(ty []impl.Node) bool {
	return slices.Equal(s.written(), ty)
}

func (s toldType) is(other toldType) bool {
	return s.isA(other.written())
}

// order is what to look at for a term, one after the other.
func (k *codeTeller) order(i int) []func() {
	n, kids, out := k.u.t[i], k.u.kids[i], []func(){}
	own := func() { k.code(i) }
	switch {
	case isOneOf(n.Kind, impl.TCon, impl.TArrow, impl.TTuple, impl.TNum, impl.TAll):
		return []func(){func() { k.write(i) }}
	case isOneOf(n.Kind, impl.QVar, impl.QAs):
		out = append(k.order(kids[0]), func() { k.pattern(i) })
		for _, kid := range kids[1:] {
			out = append(out, k.order(kid)...)
		}
		return out
	case isOneOf(n.Kind, impl.PWild, impl.PInt, impl.PStr, impl.PCon, impl.PTuple):
		out = append(out, func() { k.pattern(i) })
		for _, kid := range kids {
			out = append(out, k.order(kid)...)
		}
		return out
	case n.Kind == impl.CFix:
		for _, bnd := range kids[:len(kids)-1] {
			out = append(out, k.order(k.u.kids[bnd][0])...)
		}
	case isOneOf(n.Kind, impl.CCase, impl.CTry):
		out = append(k.order(kids[0]), func() { k.ahead(i) })
		kids = kids[1:]
	case n.Kind == impl.CBnd:
		kids = kids[1:]
	}
	for _, kid := range kids {
		out = append(out, k.order(kid)...)
	}
	return append(out, own)
}

// scoped is whether a TNum is in scope by a CAll around.
func (k *codeTeller) scoped(i int, num int64) bool {
	for up := k.u.parent[i]; up >= 0; up = k.u.parent[up] {
		if k.u.t[up].Kind == impl.CAll && k.u.t[up].Num == num {
			return true
		}
	}
	return false
}

func (k *codeTeller) write(root int) {
	body, nums, inScope := root, []int64{}, true
	for ; k.u.t[body].Kind == impl.TAll; body-- {
		num := k.u.t[body].Num
		inScope = inScope && !k.scoped(root, num) && !slices.Contains(nums, num)
		nums = append(nums, num)
	}
	ty := slices.Clone(k.u.t[k.u.from[body] : body+1])
	for _, n := range ty {
		inScope = inScope && (n.Kind != impl.TNum || slices.Contains(nums, n.Num) || k.scoped(root, n.Num))
	}
	k.need(inScope, impl.CkScope, root)
	for _, n := range ty {
		params, known := k.params[n.Text]
		k.need(n.Kind != impl.TCon || known && params == n.Kids, impl.CkType, root)
	}
	its := toldType{nil, ty}
	for _, num := range nums {
		its = k.renamed(its, num)
	}
	k.its[root] = its
}

// renamed has a new variable behind the others for a TNum.
func (k *codeTeller) renamed(s toldType, num int64) toldType {
	k.next++
	return toldType{append(slices.Clone(s.vars), k.next), varsTold(s.body, impl.TNum, num, [][]impl.Node{typeNum(k.next)})}
}

// binder is the type of what is around a node with a number.
func (k *codeTeller) binder(i int, num int64) (toldType, bool) {
	for kid, up := i, k.u.parent[i]; up >= 0; kid, up = up, k.u.parent[up] {
		n, kids := k.u.t[up], k.u.kids[up]
		switch {
		case n.Kind == impl.CLam && n.Num == num || n.Kind == impl.CLet && n.Num == num && kid == kids[2]:
			return k.its[kids[0]], true
		case n.Kind == impl.CFix:
			for _, bnd := range slices.Backward(kids[:len(kids)-1]) {
				if k.u.t[bnd].Num == num {
					return k.its[k.u.kids[bnd][0]], true
				}
			}
		case n.Kind == impl.CRule && kid == kids[1]:
			if name := k.lastName(kids[0], num); name >= 0 {
				return k.its[k.u.kids[name][0]], true
			}
		}
	}
	return toldType{}, false
}

// lastName is the node of a pattern that binds a number, the innermost and last one.
func (k *codeTeller) lastName(i int, num int64) int {
	for _, kid := range slices.Backward(k.u.kids[i]) {
		if name := k.lastName(kid, num); name >= 0 {
			return name
		}
	}
	if isOneOf(k.u.t[i].Kind, impl.QVar, impl.QAs) && k.u.t[i].Num == num {
		return i
	}
	return -1
}

func (k *codeTeller) isValue(i int) bool {
	kids := k.u.kids[i]
	switch k.u.t[i].Kind {
	case impl.CVar, impl.CGiven, impl.CInt, impl.CStr, impl.CCon, impl.CLam:
		return true
	case impl.CTuple:
		return !slices.ContainsFunc(kids, func(kid int) bool { return !k.isValue(kid) })
	case impl.CAll, impl.CInst:
		return k.isValue(kids[0])
	}
	return k.u.t[i].Kind == impl.CApp && k.u.t[kids[0]].Kind == impl.CCon && k.isValue(kids[1])
}

func (k *codeTeller) bodies(nodes []int) [][]impl.Node {
	out := [][]impl.Node{}
	for _, i := range nodes {
		out = append(out, k.its[i].body)
	}
	return out
}

// typedKids wants types of the kids of a node that are code.
func (k *codeTeller) typedKids(i int, kids ...int) [][]impl.Node {
	for _, kid := range kids {
		k.need(len(k.its[kid].vars) == 0, impl.CkClash, i)
	}
	return k.bodies(kids)
}

func (k *codeTeller) code(i int) {
	n := k.u.t[i]
	if n.Kind == impl.CBnd {
		k.function(i)
		return
	}
	if n.Kind == impl.CRule {
		k.typedKids(i, k.u.kids[i][1])
		return
	}
	its := k.typeAt(i)
	k.need(len(its.vars)+len(its.body) <= impl.MaxWide, impl.CkLarge, i)
	k.its[i] = its
}

func (k *codeTeller) function(i int) {
	inside := k.u.kids[i][1]
	for k.u.t[inside].Kind == impl.CAll {
		inside = k.u.kids[inside][0]
	}
	k.need(k.u.t[inside].Kind == impl.CLam, impl.CkValue, i)
	k.need(k.its[k.u.kids[i][0]].is(k.its[k.u.kids[i][1]]), impl.CkClash, i)
}

func (k *codeTeller) typeAt(i int) toldType {
	n, kids := k.u.t[i], k.u.kids[i]
	switch n.Kind {
	case impl.CVar:
		its, found := k.binder(i, n.Num)
		k.need(found, impl.CkVar, i)
		return its
	case impl.CAll:
		k.need(!k.scoped(i, n.Num), impl.CkScope, i)
		k.need(k.isValue(kids[0]), impl.CkValue, i)
		own := k.renamed(toldType{nil, k.its[kids[0]].body}, n.Num)
		return toldType{append(own.vars, k.its[kids[0]].vars...), own.body}
	case impl.CInst:
		its := k.its[kids[0]]
		k.need(len(its.vars) > 0, impl.CkClash, i)
		return toldType{its.vars[1:], varsTold(its.body, impl.TNum, its.vars[0], k.bodies(kids[1:]))}
	}
	return toldType{nil, k.plainType(i)}
}

func (k *codeTeller) plainType(i int) []impl.Node {
	n, kids := k.u.t[i], k.u.kids[i]
	last := len(kids) - 1
	switch n.Kind {
	case impl.CGiven:
		return givenType(n.Num, k.bodies(kids))
	case impl.CInt:
		return intType
	case impl.CStr:
		return stringType
	case impl.CCon:
		con, found := k.cons[n.Text]
		k.need(found && con.Params == len(kids), impl.CkCon, i)
		data := typeCon(con.Data, k.bodies(kids)...)
		if con.Has {
			return typeArrow(varsTold(con.Arg, impl.TNum, 1, k.bodies(kids)), data)
		}
		return data
	case impl.CTuple:
		return typeTuple(k.typedKids(i, kids...)...)
	case impl.CLam:
		return typeArrow(k.its[kids[0]].body, k.typedKids(i, kids[1])[0])
	case impl.CLet:
		k.need(k.its[kids[0]].is(k.its[kids[1]]), impl.CkClash, i)
		return k.typedKids(i, kids[2])[0]
	case impl.CFix:
		return k.typedKids(i, kids[last])[0]
	case impl.CCase, impl.CTry:
		return k.match(i)
	case impl.CRaise:
		k.need(k.its[kids[1]].isA(exnType), impl.CkClash, i)
		return k.its[kids[0]].body
	}
	return k.operation(i, k.typedKids(i, kids...))
}

// operation is a node with types for all its kids.
func (k *codeTeller) operation(i int, types [][]impl.Node) []impl.Node {
	same := func(a []impl.Node, b []impl.Node) { k.need(slices.Equal(a, b), impl.CkClash, i) }
	switch first, n := types[0], k.u.t[i]; {
	case n.Kind == impl.CApp:
		k.need(rootOf(first).Kind == impl.TArrow, impl.CkClash, i)
		parts := partsOfTerm(first)
		same(parts[0], types[1])
		return parts[1]
	case n.Kind == impl.CWhile:
		same(first, boolType)
		return unitType
	case n.Kind == impl.CUn && n.Text == "!":
		k.need(rootOf(first).Text == "ref", impl.CkClash, i)
		return partsOfTerm(first)[0]
	case n.Kind == impl.CUn:
		same(first, intType)
		return intType
	case n.Text == ":=":
		same(first, typeCon("ref", types[1]))
		return unitType
	case isOneOf(n.Text, "=", "<>"):
		same(first, types[1])
		return boolType
	case n.Text == "^":
		same(typeTuple(types...), typeTuple(stringType, stringType))
		return stringType
	case isOneOf(n.Text, "<", "<=", ">", ">="):
		same(typeTuple(types...), typeTuple(intType, intType))
		return boolType
	default:
		same(typeTuple(types...), typeTuple(intType, intType))
		return intType
	}
}

// partsOfTerm are the kids of a term, however large it is.
func partsOfTerm(it []impl.Node) [][]impl.Node {
	u, out := treeOf(it), [][]impl.Node{}
	for _, kid := range u.kids[len(it)-1] {
		out = append(out, it[u.from[kid]:kid+1])
	}
	return out
}

// ahead tells what the patterns of a match are held against.
func (k *codeTeller) ahead(i int) {
	kids := k.u.kids[i]
	k.typedKids(i, kids[0])
	for _, rule := range kids[1:] {
		k.of[k.u.kids[rule][0]] = k.its[kids[0]]
		if k.u.t[i].Kind == impl.CTry {
			k.of[k.u.kids[rule][0]] = toldType{nil, exnType}
		}
	}
}

func (k *codeTeller) match(i int) []impl.Node {
	codes := []int{}
	if k.u.t[i].Kind == impl.CTry {
		codes = append(codes, k.u.kids[i][0])
	}
	for _, rule := range k.u.kids[i][1:] {
		codes = append(codes, k.u.kids[rule][1])
	}
	types := k.bodies(codes)
	for _, ty := range types {
		k.need(slices.Equal(ty, types[0]), impl.CkClash, i)
	}
	return types[0]
}

func (k *codeTeller) pattern(i int) {
	n, kids, of := k.u.t[i], k.u.kids[i], k.of[i].body
	inside := [][]impl.Node{}
	switch n.Kind {
	case impl.QVar, impl.QAs:
		k.need(k.its[kids[0]].isA(of), impl.CkClash, i)
		kids, inside = kids[1:], [][]impl.Node{of}
	case impl.PInt:
		k.need(slices.Equal(of, intType), impl.CkClash, i)
	case impl.PStr:
		k.need(slices.Equal(of, stringType), impl.CkClash, i)
	case impl.PTuple:
		k.need(rootOf(of).Kind == impl.TTuple && rootOf(of).Kids == len(kids), impl.CkClash, i)
		inside = partsOfTerm(of)
	case impl.PCon:
		con, found := k.cons[n.Text]
		k.need(found && con.Has == (len(kids) == 1), impl.CkCon, i)
		root := rootOf(of)
		k.need(root.Kind == impl.TCon && root.Text == con.Data && root.Kids == con.Params, impl.CkClash, i)
		inside = [][]impl.Node{varsTold(con.Arg, impl.TNum, 1, partsOfTerm(of))}
	}
	k.need(len(of) <= impl.MaxWide, impl.CkLarge, i)
	for j, kid := range kids {
		k.of[kid] = toldType{nil, inside[j]}
	}
}

// checkType holds TypeOf against the chapter told again.
func checkType(t *testing.T, program []impl.Node, c []impl.Node) ([]impl.Node, int, int) {
	t.Helper()
	ty, code, node := impl.TypeOf(program, c)
	want, wantCode, wantNode := typedAgain(program, c)
	if code != wantCode || node != wantNode || !slices.Equal(ty, want) {
		t.Fatalf("%s\nhas %s, code %d at node %d; want %s, %d at %d", codeShown(c), codeShown(ty), code, node, codeShown(want), wantCode, wantNode)
	}
	return ty, code, node
}

// codeReader reads what codeShown writes. An "!" behind a part marks its node.
type codeReader struct {
	rest   string
	nodes  []impl.Node
	marked int
}

// codeOf is the code, scheme or type that a text shows, and the node that is marked in it, or -1.
func codeOf(t *testing.T, text string) ([]impl.Node, int) {
	t.Helper()
	r := &codeReader{rest: text, marked: -1}
	r.term()
	if r.skip(); r.rest != "" {
		t.Fatalf("%s: read as %s, with %s left", text, codeShown(r.nodes), r.rest)
	}
	return r.nodes, r.marked
}

func (r *codeReader) skip() {
	for len(r.rest) > 0 && isOneOf(r.rest[0], ' ', '\n', '\t') {
		r.rest = r.rest[1:]
	}
}

func (r *codeReader) has(symbol byte) bool {
	r.skip()
	if len(r.rest) == 0 || r.rest[0] != symbol {
		return false
	}
	r.rest = r.rest[1:]
	return true
}

func (r *codeReader) while(fits func(b byte) bool) string {
	end := 0
	for end < len(r.rest) && fits(r.rest[end]) {
		end++
	}
	word := r.rest[:end]
	r.rest = r.rest[end:]
	return word
}

func (r *codeReader) number() int64 {
	r.skip()
	num, _ := strconv.ParseInt(r.while(func(b byte) bool { return '0' <= b && b <= '9' || b == '-' }), 10, 64)
	return num
}

func (r *codeReader) kids(end byte) int {
	count := 0
	for !r.has(end) && r.rest != "" {
		r.term()
		r.has(',')
		count++
	}
	return count
}

func (r *codeReader) term() {
	root := impl.Node{}
	switch {
	case r.has('#'):
		root = impl.Node{Kind: impl.TNum, Num: r.number()}
	case r.has('['):
		root = impl.Node{Kind: impl.TArrow, Kids: r.kids(']')}
	case r.has('('):
		root = impl.Node{Kind: impl.TTuple, Kids: r.kids(')')}
	default:
		root = r.named()
	}
	r.nodes = append(r.nodes, root)
	if r.has('!') {
		r.marked = len(r.nodes) - 1
	}
}

func (r *codeReader) named() impl.Node {
	word := r.while(func(b byte) bool { return 'a' <= b && b <= 'z' || 'A' <= b && b <= 'Z' || '0' <= b && b <= '9' })
	root := impl.Node{Kind: impl.TCon, Text: word}
	for _, l := range codeList() {
		if codeKindName(l.kind) == word {
			root = impl.Node{Kind: l.kind}
		}
	}
	if r.skip(); len(r.rest) > 0 && r.rest[0] == '"' {
		quote, _ := strconv.QuotedPrefix(r.rest)
		root.Text, _ = strconv.Unquote(quote)
		r.rest = r.rest[len(quote):]
	}
	root.Num = r.number()
	if r.has('(') {
		root.Kids = r.kids(')')
	}
	return root
}

// What is shown is read back.
func TestCodeIsReadBack(t *testing.T) {
	codedPrograms(t, 60, func(c *coder, src string, program []impl.Node) {
		it, _ := impl.Elaborate(program)
		if len(it) == 0 || len(it) > 3000 {
			return
		}
		if back, _ := codeOf(t, codeShown(it)); !slices.Equal(back, it) {
			t.Fatalf("%s is read as %s", codeShown(it), codeShown(back))
		}
	})
}
