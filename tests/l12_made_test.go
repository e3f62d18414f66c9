package tests

import (
	"math/rand"
	"slices"
	"testing"

	"loop.example/s02665/impl"
)

// codeBinder is a binder that is in scope, with the variables of its scheme.
type codeBinder struct {
	num  int64
	vars []int64
	body []impl.Node
}

// codeMaker makes up code that has a type, with a slip now and then. Numbers are few, so that binders
// and variables have those of others.
type codeMaker struct {
	rnd   *rand.Rand
	env   []codeBinder
	alls  []int64
	slips int
}

func (m *codeMaker) one(several ...[]impl.Node) []impl.Node {
	return several[m.rnd.Intn(len(several))]
}

func (m *codeMaker) num() int64 {
	return int64(1 + m.rnd.Intn(6))
}

// freeNum is one that no CAll around has, most of the time.
func (m *codeMaker) freeNum() int64 {
	num := int64(1 + m.rnd.Intn(4))
	for slices.Contains(m.alls, num) && m.rnd.Intn(40) > 0 {
		num = int64(1 + m.rnd.Intn(9))
	}
	return num
}

func (m *codeMaker) typ(deep int) []impl.Node {
	if deep == 0 || m.rnd.Intn(3) == 0 {
		if len(m.alls) > 0 && m.rnd.Intn(2) == 0 {
			return typeNum(m.alls[m.rnd.Intn(len(m.alls))])
		}
		return m.one(intType, stringType, boolType, unitType, exnType, typeCon("t"))
	}
	a, b := m.typ(deep-1), m.typ(deep-1)
	return m.one(typeArrow(a, b), typeTuple(a, b), typeTuple(a, b, a), typeCon("list", a), typeCon("opt", a), typeCon("two", a, b), typeCon("ref", a), typeCon("nest", a), typeCon("fan", b))
}

// within makes code where a binder is in scope.
func (m *codeMaker) within(b codeBinder, make func() []impl.Node) []impl.Node {
	before := len(m.env)
	m.env = append(m.env, b)
	c := make()
	m.env = m.env[:before]
	return c
}

func (m *codeMaker) withAll(num int64, make func() []impl.Node) []impl.Node {
	before := len(m.alls)
	m.alls = append(m.alls, num)
	c := make()
	m.alls = m.alls[:before]
	return c
}

// uses are the binders in scope that may have a type, with types put for their variables.
func (m *codeMaker) uses(ty []impl.Node) [][]impl.Node {
	out := [][]impl.Node{}
	for i, b := range m.env {
		if slices.ContainsFunc(m.env[i+1:], func(later codeBinder) bool { return later.num == b.num }) {
			continue
		}
		body := b.body
		for k, num := range b.vars {
			body = varsTold(body, impl.TNum, num, [][]impl.Node{typeMeta(int64(k + 1))})
		}
		found, is := impl.Instance(body, ty)
		if !is {
			continue
		}
		c := cvar(b.num)
		for k := range b.vars {
			put := m.typ(1)
			for _, bind := range found {
				if bind.Num == int64(k+1) {
					put = bind.Type
				}
			}
			c = insts(c, put)
		}
		out = append(out, c)
	}
	return out
}

func (m *codeMaker) code(ty []impl.Node, deep int) []impl.Node {
	if m.slips > 0 && m.rnd.Intn(m.slips) == 0 {
		ty = m.typ(1)
	}
	if uses := m.uses(ty); len(uses) > 0 && m.rnd.Intn(2) == 0 {
		return m.one(uses...)
	}
	if deep <= 0 || m.rnd.Intn(3) == 0 {
		return m.plain(ty, deep)
	}
	deep--
	other, num := m.typ(2), m.num()
	switch m.rnd.Intn(10) {
	case 0:
		return unplaced(impl.CApp, 0, "", m.code(typeArrow(other, ty), deep), m.code(other, deep))
	case 1, 2:
		return m.let(ty, deep)
	case 3:
		return m.fix(ty, deep)
	case 4, 5:
		return m.match(ty, deep)
	case 6:
		return unplaced(impl.CRaise, 0, "", ty, m.code(exnType, deep))
	case 7:
		return unplaced(impl.CUn, 0, "!", m.code(typeCon("ref", ty), deep))
	case 8:
		return m.putAway(ty, deep)
	}
	return unplaced(impl.CApp, 0, "", unplaced(impl.CLam, num, "", other, m.within(codeBinder{num, nil, other}, func() []impl.Node { return m.code(ty, deep) })), m.code(other, deep))
}

// scheme has a variable for a part of a type, and what is put for it.
func (m *codeMaker) scheme(ty []impl.Node) (codeBinder, []impl.Node) {
	u := treeOf(ty)
	i := m.rnd.Intn(len(ty))
	num := m.freeNum()
	body := slices.Concat(ty[:u.from[i]], typeNum(num), ty[i+1:])
	return codeBinder{m.num(), []int64{num}, body}, ty[u.from[i] : i+1]
}

// general is code of a scheme: a value under CAlls, with other numbers than the scheme has.
func (m *codeMaker) general(b codeBinder, deep int) []impl.Node {
	if len(b.vars) == 0 {
		return m.value(b.body, deep)
	}
	num := m.freeNum()
	rest := codeBinder{b.num, b.vars[1:], varsTold(b.body, impl.TNum, b.vars[0], [][]impl.Node{typeNum(num)})}
	return m.withAll(num, func() []impl.Node { return unplaced(impl.CAll, num, "", m.general(rest, deep)) })
}

func (b codeBinder) scheme() []impl.Node {
	out := b.body
	for _, num := range slices.Backward(b.vars) {
		out = unplaced(impl.TAll, num, "", out)
	}
	return out
}

func (m *codeMaker) let(ty []impl.Node, deep int) []impl.Node {
	other := m.typ(2)
	if m.rnd.Intn(2) == 0 {
		num := m.num()
		return unplaced(impl.CLet, num, "", other, m.code(other, deep), m.within(codeBinder{num, nil, other}, func() []impl.Node { return m.code(ty, deep) }))
	}
	b, _ := m.scheme(typeArrow(other, ty))
	return unplaced(impl.CLet, b.num, "", b.scheme(), m.general(b, deep), m.within(b, func() []impl.Node { return m.code(ty, deep) }))
}

// putAway is a CInst of a CAll.
func (m *codeMaker) putAway(ty []impl.Node, deep int) []impl.Node {
	b, part := m.scheme(ty)
	return insts(m.general(b, deep), part)
}

func (m *codeMaker) fix(ty []impl.Node, deep int) []impl.Node {
	binders := []codeBinder{}
	for range 1 + m.rnd.Intn(2) {
		b := codeBinder{m.num(), nil, typeArrow(m.typ(1), m.typ(1))}
		if m.rnd.Intn(2) == 0 {
			b, _ = m.scheme(b.body)
			if rootOf(b.body).Kind != impl.TArrow {
				b = codeBinder{m.num(), nil, typeArrow(intType, ty)}
			}
		}
		binders = append(binders, b)
	}
	before := len(m.env)
	m.env = append(m.env, binders...)
	parts := [][]impl.Node{}
	for _, b := range binders {
		parts = append(parts, unplaced(impl.CBnd, b.num, "", b.scheme(), m.general(b, deep)))
	}
	parts = append(parts, m.code(ty, deep))
	m.env = m.env[:before]
	return unplaced(impl.CFix, 0, "", parts...)
}

func (m *codeMaker) match(ty []impl.Node, deep int) []impl.Node {
	of, kind, text := m.typ(2), impl.CCase, "Match"
	first := m.code(of, deep)
	if m.rnd.Intn(3) == 0 {
		of, kind, text = exnType, impl.CTry, ""
		first = m.code(ty, deep)
	}
	parts := [][]impl.Node{first}
	for range 1 + m.rnd.Intn(2) {
		before := len(m.env)
		pat := m.pat(of, 2)
		parts = append(parts, crule(pat, m.code(ty, deep)))
		m.env = m.env[:before]
	}
	return unplaced(kind, 0, text, parts...)
}

func (m *codeMaker) pat(of []impl.Node, deep int) []impl.Node {
	if m.slips > 0 && m.rnd.Intn(m.slips) == 0 {
		of = m.typ(1)
	}
	choice := m.rnd.Intn(4)
	if deep == 0 {
		choice %= 2
	}
	switch choice {
	case 0:
		return wildPat
	case 1:
		num := m.num()
		m.env = append(m.env, codeBinder{num, nil, of})
		if deep > 0 && m.rnd.Intn(2) == 0 {
			return unplaced(impl.QAs, num, "", of, m.pat(of, deep-1))
		}
		return unplaced(impl.QVar, num, "", of)
	}
	root, kids := rootOf(of), partsOfTerm(of)
	pair := func(a []impl.Node, b []impl.Node) []impl.Node {
		return unplaced(impl.PTuple, 0, "", m.pat(a, deep-1), m.pat(b, deep-1))
	}
	switch {
	case root.Kind == impl.TTuple:
		pats := [][]impl.Node{}
		for _, kid := range kids {
			pats = append(pats, m.pat(kid, deep-1))
		}
		return unplaced(impl.PTuple, 0, "", pats...)
	case root.Text == "int":
		return unplaced(impl.PInt, 3, "")
	case root.Text == "string":
		return unplaced(impl.PStr, 0, "s")
	case root.Text == "bool":
		return unplaced(impl.PCon, 0, "false")
	case root.Text == "exn":
		return unplaced(impl.PCon, 0, "F", m.pat(intType, deep-1))
	case root.Text == "t":
		return unplaced(impl.PCon, 0, "B", m.pat(of, deep-1))
	case root.Text == "list":
		return unplaced(impl.PCon, 0, "::", pair(kids[0], of))
	case root.Text == "opt":
		return unplaced(impl.PCon, 0, "Some", m.pat(kids[0], deep-1))
	case root.Text == "two":
		return unplaced(impl.PCon, 0, "Two", pair(kids[1], kids[0]))
	case root.Text == "nest":
		return unplaced(impl.PCon, 0, "Nest", m.pat(typeCon("nest", typeTuple(kids[0], kids[0])), deep-1))
	case root.Text == "fan":
		return unplaced(impl.PCon, 0, "Fan", m.pat(typeArrow(kids[0], of), deep-1))
	}
	return wildPat
}

// plain is code that the root of its type asks for.
func (m *codeMaker) plain(ty []impl.Node, deep int) []impl.Node {
	root, kids := rootOf(ty), partsOfTerm(ty)
	two := func(kind int, text string, a []impl.Node, b []impl.Node) []impl.Node {
		return unplaced(kind, 0, text, m.code(a, deep-1), m.code(b, deep-1))
	}
	if deep <= 0 {
		return m.value(ty, 0)
	}
	switch {
	case root.Text == "int":
		ops := []string{"+", "-", "*", "/", "%"}
		return m.one(unplaced(impl.CUn, 0, "~", m.code(intType, deep-1)), two(impl.CBin, ops[m.rnd.Intn(5)], intType, intType), unplaced(impl.CApp, 0, "", unplaced(impl.CGiven, -2, ""), m.code(stringType, deep-1)))
	case root.Text == "string":
		return m.one(two(impl.CBin, "^", stringType, stringType), unplaced(impl.CApp, 0, "", unplaced(impl.CGiven, int64(-5-m.rnd.Intn(2)), ""), m.code(intType, deep-1)))
	case root.Text == "bool":
		ops, other := []string{"<", "<=", ">", ">="}, m.typ(1)
		return m.one(two(impl.CBin, ops[m.rnd.Intn(4)], intType, intType), two(impl.CBin, "=", other, other), two(impl.CBin, "<>", other, other))
	case root.Kind == impl.TTuple && len(kids) == 0:
		other := m.typ(1)
		return m.one(two(impl.CWhile, "", boolType, other), two(impl.CBin, ":=", typeCon("ref", other), other))
	case root.Text == "ref":
		return unplaced(impl.CApp, 0, "", unplaced(impl.CGiven, -8, "", kids[0]), m.code(kids[0], deep-1))
	}
	return m.value(ty, deep)
}

// value is code of a type that is a value, if there is one.
func (m *codeMaker) value(ty []impl.Node, deep int) []impl.Node {
	root, kids := rootOf(ty), partsOfTerm(ty)
	con := func(name string, arg []impl.Node) []impl.Node {
		return unplaced(impl.CApp, 0, "", unplaced(impl.CCon, 0, name, kids...), m.value(arg, deep-1))
	}
	switch {
	case root.Kind == impl.TArrow:
		num := m.num()
		return unplaced(impl.CLam, num, "", kids[0], m.within(codeBinder{num, nil, kids[0]}, func() []impl.Node { return m.code(kids[1], deep-1) }))
	case root.Kind == impl.TTuple:
		parts := [][]impl.Node{}
		for _, kid := range kids {
			parts = append(parts, m.value(kid, deep-1))
		}
		return unplaced(impl.CTuple, 0, "", parts...)
	case root.Text == "int":
		return unplaced(impl.CInt, 7, "")
	case root.Text == "string":
		return unplaced(impl.CStr, 0, "s")
	case root.Text == "bool":
		return unplaced(impl.CCon, 0, "true")
	case root.Text == "exn":
		return m.one(unplaced(impl.CCon, 0, "Div"), con("F", intType))
	case root.Text == "t":
		a := unplaced(impl.CCon, 0, "A")
		return m.one(a, unplaced(impl.CApp, 0, "", unplaced(impl.CCon, 0, "B"), a))
	case isOneOf(root.Text, "list", "opt", "two", "nest"):
		empty := unplaced(impl.CCon, 0, map[string]string{"list": "nil", "opt": "None", "two": "Neither", "nest": "Nil"}[root.Text], kids...)
		if root.Text == "opt" && deep > 0 {
			return m.one(empty, con("Some", kids[0]))
		}
		if root.Text == "two" && deep > 0 {
			return m.one(empty, con("Two", typeTuple(kids[1], kids[0])))
		}
		return empty
	case root.Text == "fan":
		return con("Box", kids[0])
	}
	if uses := m.uses(ty); len(uses) > 0 {
		return m.one(uses...)
	}
	return unplaced(impl.CRaise, 0, "", ty, unplaced(impl.CCon, 0, "Div"))
}

// changedInForm is code with a part changed for another of its sort, or another number or text.
func changedInForm(rnd *rand.Rand, c []impl.Node) []impl.Node {
	u, list := treeOf(c), codeList()
	letter := func(i int) string {
		at := slices.IndexFunc(list, func(l codeListed) bool { return l.kind == c[i].Kind })
		return list[at].letter
	}
	for range 100 {
		out := slices.Clone(c)
		i, k := rnd.Intn(len(c)), rnd.Intn(len(c))
		switch n := &out[i]; rnd.Intn(7) {
		case 0, 1, 2:
			if letter(i) != letter(k) {
				continue
			}
			out = slices.Concat(c[:u.from[i]], c[u.from[k]:k+1], c[i+1:])
		case 3:
			n.Num = c[k].Num
		case 4:
			n.Num = int64(rnd.Intn(6))
		case 5:
			n.Text = []string{"+", "=", "<", "^", ":=", "~", "!", "int", "list", "t", "Some", "None", "::", "nil", "true", "A", "F", "E"}[rnd.Intn(18)]
		case 6:
			if letter(i) != "c" {
				continue
			}
			part := c[u.from[i] : i+1]
			part = [][]impl.Node{unplaced(impl.CAll, int64(1+rnd.Intn(5)), "", part), insts(part, intType), unplaced(impl.CTuple, 0, "", part, part), unplaced(impl.CLam, int64(1+rnd.Intn(5)), "", intType, part)}[rnd.Intn(4)]
			out = slices.Concat(c[:u.from[i]], part, c[i+1:])
		}
		if formAgain(out) && !slices.Equal(out, c) {
			return out
		}
	}
	return c
}

// Code that is made up, and the same with something changed: TypeOf is what the chapter says.
func TestTypeOfMadeUpCode(t *testing.T) {
	program := resolved(t, checkedFront)
	right, wrong, kinds, schemes := 0, map[int]int{}, map[int]int{}, 0
	for seed := range int64(4000) {
		m := &codeMaker{rnd: rand.New(rand.NewSource(seed)), slips: []int{0, 60, 20}[seed%3]}
		c := m.code(m.typ(2), 2+int(seed%3))
		if seed%5 == 0 {
			b, _ := m.scheme(m.typ(2))
			c = m.general(b, 3)
		}
		if len(c) > 800 {
			continue
		}
		ty, code, _ := checkType(t, program, c)
		if code != impl.CkOk {
			wrong[code]++
		} else if right++; len(c) > 20 {
			for _, n := range c {
				kinds[n.Kind]++
			}
		}
		if len(ty) > 0 && rootOf(ty).Kind == impl.TAll {
			schemes++
		}
		for range 4 {
			_, code, _ := checkType(t, program, changedInForm(m.rnd, c))
			wrong[code]++
		}
	}
	if right < 1000 || schemes < 150 {
		t.Errorf("%d are right, %d have schemes", right, schemes)
	}
	for _, code := range []int{impl.CkOk, impl.CkVar, impl.CkScope, impl.CkType, impl.CkCon, impl.CkClash, impl.CkValue} {
		if wrong[code] < 25 {
			t.Errorf("code %d was met %d times", code, wrong[code])
		}
	}
	for _, l := range codeList() {
		if kinds[l.kind] < 15 {
			t.Errorf("%s was met %d times in code that is right", codeKindName(l.kind), kinds[l.kind])
		}
	}
}
