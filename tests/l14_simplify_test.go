package tests

import (
	"math/rand"
	"slices"
	"strconv"
	"testing"

	"loop.example/s02665/impl"
)

// called is a function of so many arguments with as many: each pass does away with one of them, and
// the first one with none.
func called(n int) []impl.Node {
	c := unplaced(impl.CTuple, 0, "", cvar(1), cvar(int64(n)))
	for i := range n {
		c = unplaced(impl.CLam, int64(n-i), "", c)
	}
	for i := range n {
		c = unplaced(impl.CApp, 0, "", c, unplaced(impl.CInt, int64(100+i), ""))
	}
	return c
}

// Simplify goes on as long as something changes, but not for more than MaxPass times.
func TestSimplifyPasses(t *testing.T) {
	for n := 2; n < impl.MaxPass+8; n++ {
		c, passes := called(n), 0
		for less := impl.Less(c); !slices.Equal(less, c); less = impl.Less(c) {
			c = less
			passes++
		}
		if passes != n+1 || codeShown(c) != "CTuple(CInt 100, CInt "+strconv.Itoa(99+n)+")" {
			t.Fatalf("%d arguments: %s after %d times", n, codeShown(c), passes)
		}
		want, at := called(n), 0
		for ; at < impl.MaxPass; at++ {
			want = lessAgain(want)
		}
		got := impl.Simplify(called(n))
		if !slices.Equal(got, want) || slices.Equal(got, c) != (passes <= impl.MaxPass) {
			t.Errorf("%d arguments: %s, want %s", n, codeShown(got), codeShown(want))
		}
		keepsPromise18(t, called(n), 1000)
	}
	// Just as often, and once more.
	last, next := impl.Simplify(called(impl.MaxPass-1)), impl.Simplify(called(impl.MaxPass))
	if codeShown(last) != "CTuple(CInt 100, CInt 118)" || codeShown(next) != "CLet 20(CInt 119, CTuple(CInt 100, CVar 20))" {
		t.Errorf("%s, and %s", codeShown(last), codeShown(next))
	}
}

// Where nothing changes, the same again.
func TestSimplifyStays(t *testing.T) {
	for _, code := range []string{"CInt 1", "CVar 1", "CTuple", "CLam 1(CVar 1)", "CLet 1(CTuple, CVar 1)", `CBin "="(CInt 1, CInt 1)`, `CCase "Match"(CInt 1, CRule(PInt 2, CInt 3))`, "CLet 1(CInt 5, CLet 1(CInt 6, CVar 1))", "CFix(CBnd 1(CLam 2(CVar 1)), CVar 1)"} {
		simpleIs(t, code, code)
		staysCode(t, code)
	}
	for code, want := range map[string]string{
		`CLet 1(CBin "+"(CInt 1, CInt 2), CLet 2(CBin "*"(CVar 1, CVar 1), CBin "-"(CVar 2, CVar 1)))`:                                                         "CInt 6",
		`CApp(CApp(CLam 1(CLam 2(CBin "^"(CVar 1, CVar 2))), CStr "a"), CStr "b")`:                                                                             `CStr "ab"`,
		`CLet 1(CLam 2(CVar 2), CApp(CVar 1, CInt 3))`:                                                                                                         `CLet 1(CLam 2(CVar 2), CApp(CVar 1, CInt 3))`,
		`CCase "Match"(CTuple(CInt 1, CInt 2), CRule(QVar 1, CCase "Match"(CInt 3, CRule(QVar 2, CTuple(CVar 1, CVar 2)))))`:                                   "CLet 1(CTuple(CInt 1, CInt 2), CTuple(CVar 1, CInt 3))",
		`CCase "Match"(CBin "<"(CInt 1, CInt 2), CRule(PCon "true", CApp(CLam 1(CVar 1), CApp(CLam 2(CVar 2), CInt 7))), CRule(PCon "false", CRaise(CVar 9)))`: "CInt 7",
	} {
		simpleIs(t, code, want)
	}
}

// isLess holds code against the chapter, and against promise 18 with several fuels.
func isLess(t *testing.T, rnd *rand.Rand, c []impl.Node, most int) impl.Outcome {
	t.Helper()
	checkLess(t, c)
	o := keepsPromise18(t, c, most)
	fuels := []int{0, 1, o.Used - 1, o.Used, o.Used + 1, rnd.Intn(o.Used + 1)}
	for _, fuel := range fuels {
		keepsPromise18(t, c, max(0, fuel))
	}
	return o
}

// countRules adds up which rules are used.
func countRules(c []impl.Node, rules *[6]int) {
	_, used := lessByRules(c)
	for rule, times := range used {
		rules[rule] += times
	}
}

// Promise 18, for code that is made up without types: with few numbers, so that many are bound twice,
// and with many.
func TestLessMadeUpPlainCode(t *testing.T) {
	kinds, rules, shorter, changed := map[int]int{}, [6]int{}, 0, 0
	for seed := range int64(3000) {
		m := &plainMaker{drawer: drawer{rand.New(rand.NewSource(seed))}, slips: []int{1000, 60, 15}[seed%3], nums: []int{6, 20, 1000}[seed/3%3]}
		c := m.code(m.one(plainSorts), 2+int(seed%5))
		if len(c) > 500 {
			continue
		}
		o := isLess(t, m.rnd, c, 400)
		kinds[o.Kind]++
		countRules(c, &rules)
		if simple := impl.Run(impl.Simplify(c), 400); simple.Used < o.Used {
			shorter++
		}
		other := changedPlain(m.rnd, c)
		if isLess(t, m.rnd, other, 400).Kind == impl.RunValue {
			changed++
		}
	}
	if kinds[impl.RunValue] < 1000 || kinds[impl.RunRaise] < 100 || kinds[impl.RunFuel] < 10 || kinds[impl.RunStuck] < 50 || changed < 500 || shorter < 500 {
		t.Errorf("%v, %d changed ones have values, %d use less", kinds, changed, shorter)
	}
	for _, rule := range []int{1, 2, 3, 4, 5} {
		if rules[rule] < 300 {
			t.Errorf("rule %d was used %d times", rule, rules[rule])
		}
	}
}

// Promise 18, for code that has types.
func TestLessMadeUpCode(t *testing.T) {
	kinds, rules := map[int]int{}, [6]int{}
	for seed := range int64(1500) {
		m := &codeMaker{rnd: rand.New(rand.NewSource(seed)), slips: []int{0, 60, 20}[seed%3]}
		c := m.code(m.typ(2), 2+int(seed%3))
		if len(c) > 600 {
			continue
		}
		for _, it := range [][]impl.Node{c, changedInForm(m.rnd, c)} {
			plain, _ := impl.Erase(it)
			kinds[isLess(t, m.rnd, plain, 600).Kind]++
			countRules(plain, &rules)
		}
	}
	if kinds[impl.RunValue] < 500 || kinds[impl.RunRaise] < 150 || slices.Min(rules[1:]) < 30 {
		t.Errorf("%v, rules %v", kinds, rules)
	}
}

// Promise 18, for the plain code of programs.
func TestLessOfPrograms(t *testing.T) {
	rnd, kinds, rules := rand.New(rand.NewSource(18)), map[int]int{}, [6]int{}
	codedPrograms(t, 200, func(_ *coder, src string, program []impl.Node) {
		plain, _ := impl.Desugar(program)
		kinds[isLess(t, rnd, plain, 3000).Kind]++
		countRules(plain, &rules)
	})
	if kinds[impl.RunValue] < 150 || kinds[impl.RunRaise] < 80 || slices.Min(rules[1:]) < 30 {
		t.Errorf("%v, rules %v", kinds, rules)
	}
}
