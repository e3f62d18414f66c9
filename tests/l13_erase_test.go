package tests

import (
	"math/rand"
	"slices"
	"testing"

	"loop.example/s02665/impl"
)

func isTyping(kind int) bool {
	return isOneOf(kind, impl.TCon, impl.TArrow, impl.TTuple, impl.TNum, impl.TAll)
}

// erased puts a node together anew from those of its parts that are no types.
func (u tree) erased(i int) []impl.Node {
	n, kids := u.t[i], u.kids[i]
	if isOneOf(n.Kind, impl.CAll, impl.CInst) {
		return u.erased(kids[0])
	}
	parts := [][]impl.Node{}
	for _, kid := range kids {
		if !isTyping(u.t[kid].Kind) {
			parts = append(parts, u.erased(kid))
		}
	}
	return unplaced(n.Kind, n.Num, n.Text, parts...)
}

// checkErase wants code without types, in plain form, just as the chapter says.
func checkErase(t *testing.T, c []impl.Node) []impl.Node {
	t.Helper()
	got, ok := impl.Erase(c)
	if !formAgain(c) {
		if ok || len(got) > 0 {
			t.Fatalf("%s is not in form, and is erased to %s", codeShown(c), codeShown(got))
		}
		return nil
	}
	want := treeOf(c).erased(len(c) - 1)
	if !ok || !slices.Equal(got, want) || !impl.PlainForm(got) {
		t.Fatalf("%s\nis erased to %s, %v\nwant %s", codeShown(c), codeShown(got), ok, codeShown(want))
	}
	return got
}

func TestEraseKinds(t *testing.T) {
	for _, c := range [][2]string{
		{"CVar 3", "CVar 3"}, {"CGiven -1", "CGiven -1"}, {"CGiven -8(list(int))", "CGiven -8"}, {"CInt -5", "CInt -5"}, {"CStr \"s\"", "CStr \"s\""},
		{"CCon \"A\"", "CCon \"A\""}, {"CCon \"A\"(int, (), [#1, #2])", "CCon \"A\""}, {"CTuple", "CTuple"}, {"CTuple(CGiven -8(int), CCon \"nil\"(int))", "CTuple(CGiven -8, CCon \"nil\")"},
		{"CLam 4([int, int], CVar 4)", "CLam 4(CVar 4)"}, {"CApp(CLam 1((), CVar 1), CTuple)", "CApp(CLam 1(CVar 1), CTuple)"},
		{"CAll 1(CInt 2)", "CInt 2"}, {"CInst(CVar 1, int)", "CVar 1"}, {"CAll 1(CAll 2(CAll 3(CVar 4)))", "CVar 4"}, {"CInst(CInst(CInst(CVar 1, int), #1), ())", "CVar 1"},
		{"CInst(CAll 1(CInst(CAll 2(CVar 3), int)), bool)", "CVar 3"}, {"CAll 1(CInst(CAll 2(CTuple(CAll 3(CVar 1), CInst(CVar 2, int))), #1))", "CTuple(CVar 1, CVar 2)"},
		{"CAll 1(CLam 2(#1, CAll 3(CLam 4(#3, CInst(CVar 2, #3)))))", "CLam 2(CLam 4(CVar 2))"},
		{"CLet 1(int, CInt 1, CVar 1)", "CLet 1(CInt 1, CVar 1)"}, {"CLet 1(TAll 1(TAll 2([#1, #2])), CAll 1(CAll 2(CInt 1)), CInst(CInst(CVar 1, int), int))", "CLet 1(CInt 1, CVar 1)"},
		{"CFix(CBnd 1([int, int], CLam 2(int, CVar 1)), CVar 1)", "CFix(CBnd 1(CLam 2(CVar 1)), CVar 1)"},
		{"CFix(CBnd 1(TAll 1(#1), CAll 1(CLam 2(#1, CVar 2))), CBnd 3(int, CInt 3), CInst(CVar 1, int))", "CFix(CBnd 1(CLam 2(CVar 2)), CBnd 3(CInt 3), CVar 1)"},
		{"CCase \"Bind\"(CInt 1, CRule(PWild, CInt 2), CRule(QVar 1(int), CVar 1))", "CCase \"Bind\"(CInt 1, CRule(PWild, CInt 2), CRule(QVar 1, CVar 1))"},
		{"CRaise(list(#1), CCon \"Div\")", "CRaise(CCon \"Div\")"}, {"CTry(CRaise(int, CVar 1), CRule(PCon \"Div\", CInt 1))", "CTry(CRaise(CVar 1), CRule(PCon \"Div\", CInt 1))"},
		{"CWhile(CCon \"true\", CInst(CVar 1, int))", "CWhile(CCon \"true\", CVar 1)"}, {"CBin \":=\"(CInst(CVar 1, int), CAll 1(CInt 2))", "CBin \":=\"(CVar 1, CInt 2)"}, {"CUn \"~\"(CAll 1(CInt 2))", "CUn \"~\"(CInt 2)"},
		{"CTry(CInt 1, CRule(PTuple(QAs 1((int, int), PTuple(QVar 2(int), PInt 3)), PCon \"A\"(QVar 3(#1)), PStr \"\", PTuple, PWild), CInt 2))", "CTry(CInt 1, CRule(PTuple(QAs 1(PTuple(QVar 2, PInt 3)), PCon \"A\"(QVar 3), PStr \"\", PTuple, PWild), CInt 2))"},
		{"CTry(CInt 1, CRule(QAs 1(int, QAs 1(bool, QVar 1(()))), CInt 2))", "CTry(CInt 1, CRule(QAs 1(QAs 1(QVar 1)), CInt 2))"},
	} {
		it, _ := codeOf(t, c[0])
		want, _ := codeOf(t, c[1])
		if got := checkErase(t, it); !slices.Equal(got, want) {
			t.Errorf("%s is erased to %s, want %s", c[0], codeShown(got), c[1])
		}
	}
}

// Every kind around every kind, and with CAlls and CInsts between.
func TestErasePlaces(t *testing.T) {
	parts := codeParts()
	for _, l := range codeList() {
		it := codeLettered(l.kind, l.someNum(), l.someText(), l.some)
		for _, house := range codeHouses(l.letter, it) {
			checkErase(t, house)
			checkErase(t, unplaced(impl.CAll, 7, "", insts(house, parts['t'])))
			checkErase(t, insts(unplaced(impl.CAll, 7, "", house), parts['t']))
		}
		if l.letter != "c" {
			continue
		}
		for _, house := range codeHouses("c", insts(unplaced(impl.CAll, 7, "", insts(it, parts['t'])), parts['t'])) {
			checkErase(t, house)
		}
	}
}

// Code that is not in form: nothing, and false.
func TestEraseNoForm(t *testing.T) {
	one := unplaced(impl.CInt, 1, "")
	placed := unplaced(impl.CTuple, 0, "", one, one)
	placed[0].At = 1
	codes := badLists()
	for letter, part := range codeParts() {
		if letter != 'c' {
			codes[string(letter)+" by itself"] = part
		}
	}
	for name, it := range map[string][]impl.Node{
		"nil": nil, "empty": {}, "two": append(one, one...), "a tuple of one": unplaced(impl.CTuple, 0, "", one), "a place": placed, "a program": resolved(t, "val x = 1"), "an unknown": unplaced(impl.CLam, 1, "", typeMeta(1), one),
		"a scheme for a type": unplaced(impl.CLam, 1, "", allsOver(1, intType), one), "1001 variables": unplaced(impl.CLet, 1, "", allsOver(1001, intType), one, one), "number 0": unplaced(impl.CVar, 0, ""),
		"plain code": unplaced(impl.CLam, 1, "", one), "a plain name": ccase("Match", one, crule(unplaced(impl.QVar, 1, ""), one)), "a type": intType, "a TAll in a CAll": unplaced(impl.CAll, 1, "", allsOver(1, intType)),
		"too many nodes":    append(slices.Repeat(one, impl.MaxCode), impl.Node{Kind: impl.CTuple, Kids: impl.MaxCode}),
		"too many in types": unplaced(impl.CLam, 1, "", listsOf(impl.MaxCode-2, intType), one),
	} {
		codes[name] = it
	}
	for name, c := range codes {
		if got, ok := impl.Erase(c); ok || len(got) > 0 {
			t.Errorf("%s is erased to %s", name, codeShown(got))
		}
	}
}

func TestEraseMadeUpCode(t *testing.T) {
	kinds, right, wrong := map[int]int{}, 0, 0
	for seed := range int64(1500) {
		m := &codeMaker{rnd: rand.New(rand.NewSource(seed)), slips: []int{0, 60, 20}[seed%3]}
		c := m.code(m.typ(2), 2+int(seed%3))
		if seed%5 == 0 {
			b, _ := m.scheme(m.typ(2))
			c = m.general(b, 3)
		}
		if len(c) > 800 {
			continue
		}
		for _, n := range c {
			kinds[n.Kind]++
		}
		checkErase(t, c)
		checkErase(t, changedInForm(m.rnd, c))
		changed := changedCode(m.rnd, c)
		if checkErase(t, changed); formAgain(changed) {
			right++
		} else {
			wrong++
		}
	}
	for _, l := range codeList() {
		if kinds[l.kind] < 15 {
			t.Errorf("%s was met %d times", codeKindName(l.kind), kinds[l.kind])
		}
	}
	if right < 200 || wrong < 200 {
		t.Errorf("%d in form, %d not", right, wrong)
	}
}

// As long as code may be: the answer is in plain form, and what is left of it.
func TestEraseLongCode(t *testing.T) {
	for name, c := range deepCodes() {
		soon(t, name, func() {
			got, ok := impl.Erase(c.c)
			left := 0
			for _, n := range c.c {
				if !isTyping(n.Kind) && !isOneOf(n.Kind, impl.CAll, impl.CInst) {
					left++
				}
			}
			if !ok || len(got) != left || !impl.PlainForm(got) {
				t.Errorf("%s: %d nodes of %d, want %d", name, len(got), len(c.c), left)
			}
		})
	}
	one := unplaced(impl.CInt, 1, "")
	for n, want := range map[int]bool{impl.MaxCode: true, impl.MaxCode + 1: false} {
		c := wrapped(n-1, one, node(impl.CAll, 1, "", 1))
		if got, ok := impl.Erase(c); ok != want || want && !slices.Equal(got, one) {
			t.Errorf("%d nodes: %v", n, ok)
		}
	}
}

func TestEraseMemory(t *testing.T) {
	for _, text := range []string{"CInt 1", "CAll 1(CInst(CVar 1, #1))", "CTuple(CInt 1, CInt 2)", "CLet 1(TAll 1(#1), CAll 1(CLam 2(#1, CVar 2)), CTry(CInst(CVar 1, int), CRule(QAs 1(int, QVar 2(int)), CVar 2)))", "CTuple(CInt 1)", "int"} {
		c, _ := codeOf(t, text)
		arguments := &kept{}
		it := arguments.roomy(c)
		sharesNothing(t, text, arguments, func() [][]impl.Node {
			plain, _ := impl.Erase(it)
			return [][]impl.Node{plain}
		})
	}
	c, _ := codeOf(t, "CLam 1(CTuple(CVar 1, CInt 2))")
	arguments := &kept{}
	it := arguments.roomy(c)
	if !impl.PlainForm(it) || impl.PlainForm(it[1:]) || !arguments.stay() {
		t.Error("PlainForm writes into its argument")
	}
}
