package tests

import (
	"slices"
	"strconv"
	"strings"
	"testing"

	"loop.example/s02665/impl"
)

// codeKinds are the names of the kinds of code, from CVar on.
const codeKinds = "CVar CGiven CInt CStr CCon CTuple CLam CApp CAll CInst CLet CFix CBnd CCase CRule CRaise CTry CWhile CBin CUn QVar QAs"

func codeKindName(kind int) string {
	names := strings.Fields(codeKinds)
	switch {
	case kind == impl.TAll:
		return "TAll"
	case impl.CVar <= kind && kind < impl.CVar+len(names):
		return names[kind-impl.CVar]
	case impl.KProgram <= kind && kind <= impl.EOr:
		return kindName(kind)
	}
	return "kind " + strconv.Itoa(kind)
}

// codeShown writes code as the document does, with types as plainShown has them.
func codeShown(c []impl.Node) string {
	if len(c) > 3000 {
		return strconv.Itoa(len(c)) + " nodes"
	}
	free := []string{}
	for _, n := range c {
		if n.Kids < 0 || n.Kids > len(free) {
			return "no term"
		}
		first := len(free) - n.Kids
		free = append(free[:first], codeNodeShown(n, free[first:]))
	}
	return strings.Join(free, " and ")
}

func codeNodeShown(n impl.Node, kids []string) string {
	inside := strings.Join(kids, ", ")
	out := codeKindName(n.Kind)
	switch {
	case n.Kind == impl.TNum && n.Text == "" && n.Kids == 0:
		out = "#" + strconv.FormatInt(n.Num, 10)
	case n.Kind == impl.TArrow && n.Num == 0 && n.Text == "":
		out = "[" + inside + "]"
	case n.Kind == impl.TTuple && n.Num == 0 && n.Text == "":
		out = "(" + inside + ")"
	default:
		if n.Kind == impl.TCon {
			out = n.Text
		} else if n.Text != "" || isOneOf(n.Kind, impl.CStr, impl.PStr) {
			out += " " + strconv.Quote(n.Text)
		}
		if n.Num != 0 || isOneOf(n.Kind, impl.CInt, impl.PInt) {
			out += " " + strconv.FormatInt(n.Num, 10)
		}
		if n.Kids > 0 {
			out += "(" + inside + ")"
		}
	}
	if n.At != 0 {
		out += "@" + strconv.Itoa(n.At)
	}
	return out
}

// elaborator tells chapter 11 again: what stands for a node is a term that is put together from those
// of its kids, decs from the last one on.
type elaborator struct {
	u       tree
	binders map[int64]impl.Binder
	uses    map[int][][]impl.Node
	params  map[int]int64 // the first one of a node
}

func newElaborator(program []impl.Node) *elaborator {
	typed := impl.Infer(program)
	w := &elaborator{treeOf(program), map[int64]impl.Binder{}, map[int][][]impl.Node{}, map[int]int64{}}
	for _, b := range typed.Binders {
		w.binders[b.Num] = b
	}
	for _, use := range typed.Uses {
		w.uses[use.Node] = use.Types
	}
	next := int64(len(typed.Binders) + 1)
	for i, n := range program {
		switch n.Kind {
		case impl.EFn:
			w.params[i] = next
			next++
		case impl.FBind:
			w.params[i] = next
			next += int64(len(w.u.kids[w.u.kids[i][0]]) - 1)
		}
	}
	return w
}

func alls(kind int, b impl.Binder, c []impl.Node) []impl.Node {
	for k := b.Count - 1; k >= 0; k-- {
		c = unplaced(kind, b.From+int64(k), "", c)
	}
	return c
}

func cvar(num int64) []impl.Node {
	return unplaced(impl.CVar, num, "")
}

func crule(pat []impl.Node, c []impl.Node) []impl.Node {
	return unplaced(impl.CRule, 0, "", pat, c)
}

func ccase(text string, of []impl.Node, rules ...[]impl.Node) []impl.Node {
	return unplaced(impl.CCase, 0, text, append([][]impl.Node{of}, rules...)...)
}

func insts(c []impl.Node, types ...[]impl.Node) []impl.Node {
	for _, ty := range types {
		c = unplaced(impl.CInst, 0, "", c, ty)
	}
	return c
}

// choice is what an EIf becomes.
func choice(a []impl.Node, b []impl.Node, c []impl.Node) []impl.Node {
	return ccase("Match", a, crule(unplaced(impl.PCon, 0, "true"), b), crule(unplaced(impl.PCon, 0, "false"), c))
}

func (w *elaborator) exps(nodes []int) [][]impl.Node {
	out := [][]impl.Node{}
	for _, i := range nodes {
		out = append(out, w.exp(i))
	}
	return out
}

func (w *elaborator) pats(nodes []int) [][]impl.Node {
	out := [][]impl.Node{}
	for _, i := range nodes {
		out = append(out, w.pat(i))
	}
	return out
}

// rules are those of Rules and of FClauses.
func (w *elaborator) rules(nodes []int) [][]impl.Node {
	out := [][]impl.Node{}
	for _, i := range nodes {
		kids := w.u.kids[i]
		last := len(kids) - 1
		pats := w.pats(kids[:last])
		pat := pats[0]
		if last > 1 {
			pat = unplaced(impl.PTuple, 0, "", pats...)
		}
		out = append(out, crule(pat, w.exp(kids[last])))
	}
	return out
}

// sameKind are exps that become code of another kind and nothing else.
var sameKind = map[int]int{impl.ETuple: impl.CTuple, impl.EApp: impl.CApp, impl.EBin: impl.CBin, impl.EUn: impl.CUn, impl.EWhile: impl.CWhile, impl.EInt: impl.CInt, impl.EStr: impl.CStr}

func (w *elaborator) exp(i int) []impl.Node {
	n, kids := w.u.t[i], w.u.kids[i]
	if kind := sameKind[n.Kind]; kind != 0 {
		return unplaced(kind, n.Num, n.Text, w.exps(kids)...)
	}
	switch n.Kind {
	case impl.EVar:
		if n.Num < 0 {
			return unplaced(impl.CGiven, n.Num, "", w.uses[i]...)
		}
		return insts(cvar(n.Num), w.uses[i]...)
	case impl.ECon:
		return unplaced(impl.CCon, 0, n.Text, w.uses[i]...)
	case impl.EType:
		return w.exp(kids[0])
	case impl.EFn:
		x := w.params[i]
		return unplaced(impl.CLam, x, "", w.uses[i][0], ccase("Match", cvar(x), w.rules(kids)...))
	case impl.ECase:
		return ccase("Match", w.exp(kids[0]), w.rules(kids[1:])...)
	case impl.EHandle:
		return unplaced(impl.CTry, 0, "", append(w.exps(kids[:1]), w.rules(kids[1:])...)...)
	case impl.EIf:
		return choice(w.exp(kids[0]), w.exp(kids[1]), w.exp(kids[2]))
	case impl.EAnd:
		return choice(w.exp(kids[0]), w.exp(kids[1]), unplaced(impl.CCon, 0, "false"))
	case impl.EOr:
		return choice(w.exp(kids[0]), unplaced(impl.CCon, 0, "true"), w.exp(kids[1]))
	case impl.ESeq:
		c := w.exp(kids[len(kids)-1])
		for _, kid := range slices.Backward(kids[:len(kids)-1]) {
			c = ccase("Match", w.exp(kid), crule(wildPat, c))
		}
		return c
	case impl.ERaise:
		return unplaced(impl.CRaise, 0, "", w.uses[i][0], w.exp(kids[0]))
	}
	return w.around(kids[:len(kids)-1], w.exp(kids[len(kids)-1]))
}

func (w *elaborator) pat(i int) []impl.Node {
	n, kids := w.u.t[i], w.u.kids[i]
	switch n.Kind {
	case impl.PVar:
		return unplaced(impl.QVar, n.Num, "", w.binders[n.Num].Type)
	case impl.PAs:
		return unplaced(impl.QAs, n.Num, "", w.binders[n.Num].Type, w.pat(kids[0]))
	case impl.PType:
		return w.pat(kids[0])
	}
	return unplaced(n.Kind, n.Num, n.Text, w.pats(kids)...)
}

func (w *elaborator) around(decs []int, c []impl.Node) []impl.Node {
	for _, dec := range slices.Backward(decs) {
		kids := w.u.kids[dec]
		switch w.u.t[dec].Kind {
		case impl.DVal:
			c = w.val(kids[0], w.exp(kids[1]), c)
		case impl.DFun:
			binds := [][]impl.Node{}
			for _, kid := range kids {
				binds = append(binds, w.function(kid))
			}
			c = unplaced(impl.CFix, 0, "", append(binds, c)...)
		}
	}
	return c
}

func (w *elaborator) val(pat int, e []impl.Node, c []impl.Node) []impl.Node {
	if n := w.u.t[pat]; n.Kind == impl.PVar {
		x := w.binders[n.Num]
		return unplaced(impl.CLet, x.Num, "", alls(impl.TAll, x, x.Type), alls(impl.CAll, x, e), c)
	}
	return ccase("Bind", e, crule(w.pat(pat), c))
}

func (w *elaborator) function(i int) []impl.Node {
	f, first, xs := w.binders[w.u.t[i].Num], w.params[i], [][]impl.Node{}
	for k := range w.uses[i] {
		xs = append(xs, cvar(first+int64(k)))
	}
	s := xs[0]
	if len(xs) > 1 {
		s = unplaced(impl.CTuple, 0, "", xs...)
	}
	c := ccase("Match", s, w.rules(w.u.kids[i])...)
	for k, ty := range slices.Backward(w.uses[i]) {
		c = unplaced(impl.CLam, first+int64(k), "", ty, c)
	}
	return unplaced(impl.CBnd, f.Num, "", alls(impl.TAll, f, f.Type), alls(impl.CAll, f, c))
}

// elaboratedAgain is the code of a program that has types, however large.
func elaboratedAgain(program []impl.Node) []impl.Node {
	w := newElaborator(program)
	unit := unplaced(impl.CTuple, 0, "")
	shown := outerAgain(program)
	shown = shown[max(0, len(shown)-impl.MaxShown):]
	c := unit
	if len(shown) > 0 {
		parts := [][]impl.Node{unit}
		for _, i := range shown {
			x := w.binders[program[i].Num]
			parts = append(parts, insts(cvar(x.Num), slices.Repeat([][]impl.Node{unitType}, x.Count)...))
		}
		c = unplaced(impl.CTuple, 0, "", parts...)
	}
	return w.around(w.u.kids[len(program)-1], c)
}

// checkCode holds what Elaborate answers against the chapter told again, and wants it in form.
func checkCode(t *testing.T, program []impl.Node) []impl.Node {
	t.Helper()
	c, code := impl.Elaborate(program)
	if impl.Infer(program).Code != impl.TyOk {
		if code != impl.CoProgram || len(c) > 0 {
			t.Fatalf("%s\ncode %d, %s", impl.Print(program), code, codeShown(c))
		}
		return nil
	}
	want := elaboratedAgain(program)
	if len(want) > impl.MaxCode {
		if code != impl.CoLarge || len(c) > 0 {
			t.Fatalf("%s\ncode %d, %d nodes of %d", impl.Print(program), code, len(c), len(want))
		}
		return nil
	}
	if code != impl.CoOk || !slices.Equal(c, want) {
		t.Fatalf("%s\ncode %d, %s\nwant %s", impl.Print(program), code, codeShown(c), codeShown(want))
	}
	if !impl.Form(c) {
		t.Fatalf("%s\nnot in form: %s", impl.Print(program), codeShown(c))
	}
	return c
}

// codeIs wants this code of a source.
func codeIs(t *testing.T, src string, want string) {
	t.Helper()
	if got := codeShown(checkCode(t, resolved(t, src))); got != want {
		t.Errorf("%s\n%s\nwant\n%s", src, got, want)
	}
}

// inBind is what stands in the code of "val _ = " and an exp.
func inBind(t *testing.T, src string) string {
	t.Helper()
	got := codeShown(checkCode(t, resolved(t, src)))
	const front, behind = `CCase "Bind"(`, `, CRule(PWild, CTuple))`
	if !strings.HasPrefix(got, front) || !strings.HasSuffix(got, behind) {
		t.Fatalf("%s: %s", src, got)
	}
	return strings.TrimSuffix(strings.TrimPrefix(got, front), behind)
}

// expCodeIs wants this code of an exp in a program with nodesFront.
func expCodeIs(t *testing.T, exp string, want string) {
	t.Helper()
	if got := inBind(t, nodesFront+"val _ = "+exp); got != want {
		t.Errorf("%s\n%s\nwant\n%s", exp, got, want)
	}
}
