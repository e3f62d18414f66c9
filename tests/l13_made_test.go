package tests

import (
	"math/rand"
	"slices"
	"strconv"
	"strings"
	"testing"

	"loop.example/s02665/impl"
)

// plainName is a number that is bound, with the sort of value that it is meant to have.
type plainName struct {
	num  int64
	sort string
}

// plainMaker makes up plain code that goes well for a while most of the time: it thinks of sorts of
// values, not of types, and slips now and then. Numbers are few, if not said otherwise.
type plainMaker struct {
	drawer
	scope []plainName
	slips int
	nums  int
}

const plainSorts = "int string bool unit tuple con fun ref list"

func (m *plainMaker) num() int64 {
	return int64(1 + m.rnd.Intn(max(6, m.nums)))
}

func (m *plainMaker) within(num int64, sort string, one func() []impl.Node) []impl.Node {
	before := slices.Clone(m.scope)
	m.scope = append(m.scope, plainName{num, sort})
	out := one()
	m.scope = before
	return out
}

func (m *plainMaker) code(sort string, deep int) []impl.Node {
	if m.rnd.Intn(m.slips) == 0 {
		sort = m.one(plainSorts)
	}
	names := []int64{}
	for i, name := range m.scope {
		hidden := slices.ContainsFunc(m.scope[i+1:], func(later plainName) bool { return later.num == name.num })
		if name.sort == sort && !hidden {
			names = append(names, name.num)
		}
	}
	if len(names) > 0 && m.rnd.Intn(3) == 0 {
		return cvar(names[m.rnd.Intn(len(names))])
	}
	if m.rnd.Intn(40*m.slips) == 0 {
		return cvar(m.num())
	}
	if deep <= 0 || m.rnd.Intn(2) == 0 {
		return m.sorted(sort, deep-1)
	}
	return m.larger(sort, deep-1)
}

func (m *plainMaker) larger(sort string, deep int) []impl.Node {
	other, num := m.one(plainSorts), m.num()
	inside := func() []impl.Node { return m.code(sort, deep) }
	switch m.rnd.Intn(9) {
	case 0, 1:
		return unplaced(impl.CLet, num, "", m.code(other, deep), m.within(num, other, inside))
	case 2:
		return unplaced(impl.CApp, 0, "", unplaced(impl.CLam, num, "", m.within(num, other, inside)), m.code(other, deep))
	case 3:
		return m.fix(sort, deep)
	case 4, 5:
		return ccase(m.one("Match Bind"), m.code(other, deep), m.rules(other, sort, deep)...)
	case 6:
		return unplaced(impl.CTry, 0, "", append([][]impl.Node{m.code(sort, deep)}, m.rules("con", sort, deep)...)...)
	case 7:
		return ccase("Match", m.code("unit", deep), crule(wildPat, m.code(sort, deep)))
	}
	if m.rnd.Intn(3) == 0 {
		return unplaced(impl.CRaise, 0, "", m.code("con", deep))
	}
	return unplaced(impl.CUn, 0, "!", unplaced(impl.CApp, 0, "", unplaced(impl.CGiven, -8, ""), m.code(sort, deep)))
}

// fix has functions that may call each other, and themselves.
func (m *plainMaker) fix(sort string, deep int) []impl.Node {
	before, parts, nums := slices.Clone(m.scope), [][]impl.Node{}, []int64{}
	for range 1 + m.rnd.Intn(2) {
		nums = append(nums, m.num())
		m.scope = append(m.scope, plainName{nums[len(nums)-1], "fun"})
	}
	for _, num := range nums {
		x, from := m.num(), m.one(plainSorts)
		lam := unplaced(impl.CLam, x, "", m.within(x, from, func() []impl.Node { return m.code(sort, deep) }))
		if m.rnd.Intn(10*m.slips) == 0 {
			lam = m.code("fun", 0)
		}
		parts = append(parts, unplaced(impl.CBnd, num, "", lam))
	}
	parts = append(parts, m.code(sort, deep))
	m.scope = before
	return unplaced(impl.CFix, 0, "", parts...)
}

func (m *plainMaker) rules(from string, to string, deep int) [][]impl.Node {
	out := [][]impl.Node{}
	for range 1 + m.rnd.Intn(3) {
		before := slices.Clone(m.scope)
		pat := m.pat(from, 2)
		out = append(out, crule(pat, m.code(to, deep)))
		m.scope = before
	}
	return out
}

func (m *plainMaker) pat(sort string, deep int) []impl.Node {
	if m.rnd.Intn(m.slips) == 0 {
		sort = m.one(plainSorts)
	}
	num := m.num()
	switch pick := m.rnd.Intn(8); {
	case pick == 0:
		return wildPat
	case pick < 3 || deep == 0:
		m.scope = append(m.scope, plainName{num, sort})
		return unplaced(impl.QVar, num, "")
	case pick == 3:
		m.scope = append(m.scope, plainName{num, sort})
		return unplaced(impl.QAs, num, "", m.pat(sort, deep-1))
	}
	pair := func(a string, b string) []impl.Node {
		return unplaced(impl.PTuple, 0, "", m.pat(a, deep-1), m.pat(b, deep-1))
	}
	switch sort {
	case "int":
		return unplaced(impl.PInt, int64(m.rnd.Intn(3)), "")
	case "string":
		return unplaced(impl.PStr, 0, m.one("a ab"))
	case "bool":
		return unplaced(impl.PCon, 0, m.one("true false"))
	case "unit":
		return unplaced(impl.PTuple, 0, "")
	case "tuple":
		return pair("int", "con")
	case "con":
		if m.rnd.Intn(2) == 0 {
			return unplaced(impl.PCon, 0, m.one("A Div Match"))
		}
		return unplaced(impl.PCon, 0, m.one("B C"), m.pat("int", deep-1))
	case "list":
		if m.rnd.Intn(2) == 0 {
			return unplaced(impl.PCon, 0, "nil")
		}
		return unplaced(impl.PCon, 0, "::", pair("int", "list"))
	}
	return wildPat
}

// sorted is code that the sort of its value asks for.
func (m *plainMaker) sorted(sort string, deep int) []impl.Node {
	bin := func(ops string, a string, b string) []impl.Node {
		return unplaced(impl.CBin, 0, m.one(ops), m.code(a, deep), m.code(b, deep))
	}
	tuple := func(sorts ...string) []impl.Node {
		kids := [][]impl.Node{}
		for _, s := range sorts {
			kids = append(kids, m.code(s, deep))
		}
		return unplaced(impl.CTuple, 0, "", kids...)
	}
	app := func(f []impl.Node, arg []impl.Node) []impl.Node { return unplaced(impl.CApp, 0, "", f, arg) }
	given := func(num int64) []impl.Node { return unplaced(impl.CGiven, num, "") }
	con := func(names string) []impl.Node { return unplaced(impl.CCon, 0, m.one(names)) }
	if deep < 0 {
		return m.leaf(sort)
	}
	some := m.one(plainSorts)
	switch pick := m.rnd.Intn(3); sort + strconv.Itoa(pick) {
	case "int0":
		return bin("+ - * / %", "int", "int")
	case "int1":
		return unplaced(impl.CUn, 0, "~", m.code("int", deep))
	case "int2":
		return app(given(-2-int64(m.rnd.Intn(2))), m.code(m.one("string tuple"), deep))
	case "string0":
		return bin("^", "string", "string")
	case "string1":
		return app(given(-5-int64(m.rnd.Intn(2))), m.code("int", deep))
	case "string2":
		return app(given(-4), tuple("string", "int", "int"))
	case "bool0":
		return bin("< <= > >=", "int", "int")
	case "bool1":
		return bin("= <>", some, some)
	case "bool2":
		return app(given(-7), m.code("bool", deep))
	case "unit0":
		return app(given(-1), m.code("string", deep))
	case "unit1":
		return bin(":=", "ref", some)
	case "unit2":
		return unplaced(impl.CWhile, 0, "", m.code("bool", deep), m.code("unit", deep))
	case "tuple0":
		return tuple("int", "con")
	case "tuple1":
		return tuple("string", "int")
	case "tuple2":
		return tuple("tuple", "list", "fun")
	case "con0":
		return app(con("B C"), m.code("int", deep))
	case "con1":
		return app(con("B"), m.code("con", deep))
	case "con2":
		return app(con("A"), m.code(some, deep))
	case "fun0", "fun1":
		num := m.num()
		return unplaced(impl.CLam, num, "", m.within(num, some, func() []impl.Node { return m.code(m.one(plainSorts), deep) }))
	case "list0":
		return app(con("::"), tuple("int", "list"))
	case "list1":
		return app(con("::"), tuple("con", "list"))
	case "list2":
		return app(con("::"), tuple("int", some))
	}
	if sort == "fun" {
		return con("B ::")
	}
	return app(given(-8), m.code(some, deep))
}

func (m *plainMaker) leaf(sort string) []impl.Node {
	switch sort {
	case "int":
		return unplaced(impl.CInt, int64(m.rnd.Intn(5)-2), "")
	case "string":
		return unplaced(impl.CStr, 0, m.one("a ab"))
	case "unit":
		return unplaced(impl.CTuple, 0, "")
	case "tuple":
		return unplaced(impl.CTuple, 0, "", m.leaf("int"), m.leaf("con"))
	case "fun":
		return unplaced(impl.CGiven, -1-int64(m.rnd.Intn(8)), "")
	case "ref":
		return unplaced(impl.CApp, 0, "", unplaced(impl.CGiven, -8, ""), m.leaf("int"))
	}
	names := map[string]string{"bool": "true false", "con": "A Div Match", "list": "nil"}
	return unplaced(impl.CCon, 0, m.one(names[sort]))
}

// changedPlain has a part changed for another of its sort, or another number or text.
func changedPlain(rnd *rand.Rand, c []impl.Node) []impl.Node {
	u, list := treeOf(c), plainList()
	letter := func(i int) string {
		return list[slices.IndexFunc(list, func(l codeListed) bool { return l.kind == c[i].Kind })].letter
	}
	for range 100 {
		out := slices.Clone(c)
		i, k := rnd.Intn(len(c)), rnd.Intn(len(c))
		switch n := &out[i]; rnd.Intn(5) {
		case 0, 1:
			if letter(i) != letter(k) {
				continue
			}
			out = slices.Concat(c[:u.from[i]], c[u.from[k]:k+1], c[i+1:])
		case 2:
			n.Num = c[k].Num
		case 3:
			n.Num = int64(rnd.Intn(12) - 5)
		case 4:
			n.Text = []string{"+", "=", "<", "^", ":=", "~", "!", "Some", "None", "::", "nil", "true", "A", "Stop", "Num", "Bind"}[rnd.Intn(16)]
		}
		if plainFormAgain(out) && !slices.Equal(out, c) {
			return out
		}
	}
	return c
}

// holdsAtFuels holds Run against the chapter with several fuels, and asks promise 17 of all of them:
// once it has ended, it ends just so with more.
func holdsAtFuels(t *testing.T, rnd *rand.Rand, c []impl.Node, most int) impl.Outcome {
	t.Helper()
	last := checkRun(t, c, most)
	fuels := []int{0, 1, last.Used - 1, last.Used, last.Used + 1, most + 1}
	for range 4 {
		fuels = append(fuels, rnd.Intn(last.Used+2))
	}
	if last.Used < 40 {
		for fuel := range last.Used {
			fuels = append(fuels, fuel)
		}
	}
	for _, fuel := range fuels {
		got := checkRun(t, c, max(0, fuel))
		switch {
		case fuel < last.Used && (got.Kind != impl.RunFuel || got.Used != max(0, fuel) || got.Text != "" || !strings.HasPrefix(last.Out, got.Out)):
			t.Fatalf("%s\nwith %d: %+v, and with %d: %+v", codeShown(c), fuel, got, most, last)
		case fuel >= last.Used && last.Kind != impl.RunFuel && got != last:
			t.Fatalf("%s\nwith %d: %+v, and with %d: %+v", codeShown(c), fuel, got, most, last)
		}
	}
	return last
}

// Code without types, and the same with something changed: Run is what the chapter says.
func TestRunMadeUpPlainCode(t *testing.T) {
	kinds, met, outs, long := map[int]int{}, map[int]int{}, 0, 0
	for seed := range int64(5000) {
		m := &plainMaker{drawer: drawer{rand.New(rand.NewSource(seed))}, slips: []int{1000, 60, 15}[seed%3]}
		c := m.code(m.one(plainSorts), 2+int(seed%5))
		if len(c) > 1500 {
			continue
		}
		o := holdsAtFuels(t, m.rnd, c, 400)
		kinds[o.Kind]++
		if o.Out != "" {
			outs++
		}
		if o.Used > 30 && o.Kind != impl.RunFuel {
			long++
		}
		for _, n := range c {
			met[n.Kind]++
		}
		changed := holdsAtFuels(t, m.rnd, changedPlain(m.rnd, c), 400)
		kinds[changed.Kind]++
	}
	for kind := impl.RunValue; kind <= impl.RunStuck; kind++ {
		if kinds[kind] < 150 {
			t.Errorf("outcome %d was met %d times", kind, kinds[kind])
		}
	}
	for _, l := range plainList() {
		if met[l.kind] < 150 {
			t.Errorf("%s was met %d times", codeKindName(l.kind), met[l.kind])
		}
	}
	if outs < 200 || long < 300 {
		t.Errorf("%d have put something out, %d are long", outs, long)
	}
}

// Promise 15: code with types that TypeOf accepts is never stuck, also with something changed.
func TestRunMadeUpCode(t *testing.T) {
	program := resolved(t, checkedFront)
	kinds, changed, stuck := map[int]int{}, 0, 0
	for seed := range int64(4000) {
		m := &codeMaker{rnd: rand.New(rand.NewSource(seed)), slips: []int{0, 60, 20}[seed%3]}
		c := m.code(m.typ(2), 2+int(seed%3))
		if seed%5 == 0 {
			b, _ := m.scheme(m.typ(2))
			c = m.general(b, 3)
		}
		if len(c) > 800 {
			continue
		}
		codes := [][]impl.Node{c}
		for range 3 {
			codes = append(codes, changedInForm(m.rnd, c))
		}
		for i, it := range codes {
			plain := checkErase(t, it)
			o := holdsAtFuels(t, m.rnd, plain, 600)
			_, code, _ := impl.TypeOf(program, it)
			switch {
			case code == impl.CkOk && o.Kind == impl.RunStuck:
				t.Fatalf("%s\nhas a type, and is stuck: %+v", codeShown(it), o)
			case code == impl.CkOk && i == 0:
				kinds[o.Kind]++
			case code == impl.CkOk:
				changed++
			case o.Kind == impl.RunStuck:
				stuck++
			}
		}
	}
	if kinds[impl.RunValue] < 800 || kinds[impl.RunRaise] < 200 || kinds[impl.RunFuel] < 10 || changed < 500 || stuck < 200 {
		t.Errorf("%v, %d changed ones have types, %d without are stuck", kinds, changed, stuck)
	}
}
