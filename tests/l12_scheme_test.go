package tests

import (
	"math/rand"
	"slices"
	"testing"

	"loop.example/s02665/impl"
)

// sameAgain tells again what SameScheme is, of schemes for which code has room.
func sameAgain(a []impl.Node, b []impl.Node) bool {
	fronts := [2][]int64{}
	for i, s := range [][]impl.Node{a, b} {
		if !formAgain(unplaced(impl.CLet, 1, "", s, unplaced(impl.CInt, 1, ""), unplaced(impl.CInt, 1, ""))) {
			return false
		}
		for _, n := range slices.Backward(s) {
			if n.Kind != impl.TAll {
				break
			}
			if slices.Contains(fronts[i], n.Num) {
				return false
			}
			fronts[i] = append(fronts[i], n.Num)
		}
	}
	return len(fronts[0]) == len(fronts[1]) && slices.Equal(frontTold(a, fronts[0]), frontTold(b, fronts[1]))
}

// frontTold is the type behind the TAlls, in which their variables are below 0.
func frontTold(s []impl.Node, front []int64) []impl.Node {
	out := slices.Clone(s[:len(s)-len(front)])
	for i, n := range out {
		if at := slices.Index(front, n.Num); n.Kind == impl.TNum && at >= 0 {
			out[i].Num = int64(-1 - at)
		}
	}
	return out
}

// sameIs wants an answer in both orders.
func sameIs(t *testing.T, a []impl.Node, b []impl.Node, want bool) {
	t.Helper()
	if impl.SameScheme(a, b) != want || impl.SameScheme(b, a) != want {
		t.Errorf("%s and %s: want %v", codeShown(a), codeShown(b), want)
	}
	if len(a)+len(b) < 3000 && sameAgain(a, b) != want {
		t.Errorf("%s and %s: told again it is not %v", codeShown(a), codeShown(b), want)
	}
}

func TestSameScheme(t *testing.T) {
	classes := [][]string{
		{"int"}, {"string"}, {"list(int)"}, {"list"}, {"int(int)"}, {"()"}, {"(int, int)"}, {"[int, int]"}, {"[int, string]"}, {"[string, int]"}, {"#1"}, {"#2"}, {"[#1, #2]"}, {"[#2, #1]"}, {"[#1, #1]"}, {"u(#3, v)"},
		{"TAll 1(int)", "TAll 2(int)", "TAll 9223372036854775807(int)"},
		{"TAll 1(#1)", "TAll 2(#2)"}, {"TAll 1(#2)", "TAll 3(#2)"}, {"TAll 2(#1)", "TAll 4(#1)"},
		{"TAll 1([#1, #1])", "TAll 2([#2, #2])"}, {"TAll 1([#1, #2])", "TAll 4([#4, #2])"}, {"TAll 1([#2, #1])", "TAll 5([#2, #5])"},
		{"TAll 1(TAll 2(int))", "TAll 2(TAll 1(int))"},
		{"TAll 1(TAll 2([#1, #2]))", "TAll 2(TAll 1([#2, #1]))", "TAll 7(TAll 5([#7, #5]))"},
		{"TAll 1(TAll 2([#2, #1]))", "TAll 2(TAll 1([#1, #2]))", "TAll 5(TAll 7([#7, #5]))"},
		{"TAll 1(TAll 2([#1, #1]))", "TAll 2(TAll 1([#2, #2]))"}, {"TAll 1(TAll 2([#2, #2]))", "TAll 2(TAll 1([#1, #1]))"},
		{"TAll 1(TAll 2([#1, #3]))", "TAll 2(TAll 1([#2, #3]))"}, {"TAll 1(TAll 3([#1, #2]))", "TAll 3(TAll 1([#3, #2]))"},
		{"TAll 1(TAll 2(TAll 3([#1, (#2, #3)])))", "TAll 3(TAll 1(TAll 2([#3, (#1, #2)])))"},
		{"TAll 1(TAll 2([#1, [#2, #3]]))", "TAll 5(TAll 4([#5, [#4, #3]]))"}, {"TAll 5(TAll 4([#5, [#4, #4]]))"},
	}
	for i, class := range classes {
		for j, other := range classes {
			for _, a := range class {
				for _, b := range other {
					one, _ := codeOf(t, a)
					two, _ := codeOf(t, b)
					sameIs(t, one, two, i == j)
				}
			}
		}
	}
	for _, text := range []string{
		"TAll 1(TAll 1(int))", "TAll 1(TAll 2(TAll 1(#1)))", "TAll 1(TAll 2(TAll 2(int)))", "TAll 0(int)", "TAll -1(int)", "TAll -1(#-1)", "#0", "#-1", "list(#0)", "TAll 1([#1, #-1])", "[int, TAll 1(int)]", "list(TAll 1(#1))", "TAll 1([TAll 2(int), int])", "TAll(int)",
		"[int]", "[int, int, int]", "(int)", "TAll 1", "TAll 1(int, int)", "CInt 1", "CVar 1", "PWild", "CLet 1(int, CInt 1, CInt 1)", "QVar 1(int)", "TAll 1(CInt 1)", "CRule(PWild, CInt 1)", "[int, CInt 1]",
	} {
		it, _ := codeOf(t, text)
		sameIs(t, it, it, false)
		sameIs(t, it, intType, false)
	}
	for _, it := range [][]impl.Node{typeMeta(1), unplaced(impl.TVar, 0, "a"), unplaced(impl.TNum, 1, "a"), unplaced(impl.TCon, 1, "int"), unplaced(impl.TAll, 1, "a", intType), unplaced(impl.TTuple, 1, ""), unplaced(impl.TAll, 1, "", typeMeta(2)), typeCon("list", typeMeta(1)), unplaced(impl.EInt, 1, "")} {
		sameIs(t, it, it, false)
	}
	// One of them is wrong in what need not be the same.
	for wrong, right := range map[string]string{"TAll 0(#0)": "TAll 1(#1)", "TAll -1(#-1)": "TAll 1(#1)", "TAll -3(int)": "TAll 3(int)", "TAll 1(TAll 1(#1))": "TAll 1(TAll 2(#2))", "TAll 2(TAll 2(int))": "TAll 1(TAll 2(int))", "TAll \"a\" 1(int)": "TAll 1(int)", "TAll 1(TAll 2(TAll 1([#2, int])))": "TAll 1(TAll 2(TAll 3([#2, int])))"} {
		one, _ := codeOf(t, wrong)
		other, _ := codeOf(t, right)
		sameIs(t, one, other, false)
	}
	at := allsOver(1, intType)
	at[1].At = 2
	sameIs(t, at, allsOver(1, intType), false)
	placed := slices.Clone(intType)
	placed[0].At = 3
	sameIs(t, placed, placed, false)
	sameIs(t, placed, intType, false)
}

func TestSameSchemeNoTerms(t *testing.T) {
	one := impl.Node{Kind: impl.TCon, Text: "int"}
	arrow := impl.Node{Kind: impl.TArrow, Kids: 2}
	for name, it := range map[string][]impl.Node{
		"nil": nil, "empty": {}, "two types": {one, one}, "three and an arrow": {one, one, one, arrow}, "too many kids": {one, arrow}, "below 0": {one, {Kind: impl.TCon, Text: "list", Kids: -1}},
		"a TAll alone": {{Kind: impl.TAll, Num: 1, Kids: 1}}, "two under TAlls": {one, one, {Kind: impl.TAll, Num: 1, Kids: 1}},
	} {
		if impl.SameScheme(it, it) || impl.SameScheme(it, intType) || impl.SameScheme(intType, it) {
			t.Errorf("%s is a scheme", name)
		}
	}
	for name, it := range badLists() {
		if impl.SameScheme(it, it) {
			t.Errorf("%s is a scheme", name)
		}
	}
}

func TestSameSchemeLimits(t *testing.T) {
	for n, want := range map[int]bool{999: true, 1000: true, 1001: false, 1500: false} {
		sameIs(t, allsOver(n, typeNum(int64(n))), allsOver(n, typeNum(int64(n))), want)
		sameIs(t, allsOver(n, typeNum(3)), allsOver(n, typeNum(4)), false)
	}
	// The last variable of many, under other numbers.
	other := allsOver(1000, typeNum(1001))
	for i, n := range other {
		if n.Kind == impl.TAll {
			other[i].Num = 2001 - n.Num
		}
	}
	sameIs(t, other, allsOver(1000, typeNum(1000)), true)
	for n, want := range map[int]bool{impl.MaxCode - 1: true, impl.MaxCode: true, impl.MaxCode + 1: false} {
		for name, it := range map[string][]impl.Node{"deep": listsOf(n-1, typeNum(1)), "wide": typeTuple(slices.Repeat([][]impl.Node{intType}, n-1)...), "with variables": allsOver(1000, typeTuple(slices.Repeat([][]impl.Node{typeNum(7)}, n-1001)...))} {
			if len(it) != n {
				t.Fatalf("%s: %d nodes", name, len(it))
			}
			soon(t, name, func() { sameIs(t, it, slices.Clone(it), want) })
		}
	}
	arguments := &kept{}
	a, b := arguments.roomy(allsOver(3, typeArrow(typeNum(1), typeNum(3)))), arguments.roomy(allsOver(3, typeArrow(typeNum(1), typeNum(3))))
	if !impl.SameScheme(a, b) || impl.SameScheme(a[:3], b) || !arguments.stay() {
		t.Error("SameScheme writes into its arguments")
	}
}

// All small schemes against each other.
func TestSameSchemeSmall(t *testing.T) {
	rnd := rand.New(rand.NewSource(12))
	some := func() []impl.Node {
		leaf := func() []impl.Node {
			return [][]impl.Node{typeNum(1), typeNum(2), typeNum(3), intType}[rnd.Intn(4)]
		}
		ty := leaf()
		if rnd.Intn(3) > 0 {
			ty = typeArrow(leaf(), leaf())
		}
		for range rnd.Intn(4) {
			ty = unplaced(impl.TAll, int64(1+rnd.Intn(3)), "", ty)
		}
		return ty
	}
	same, yes := map[string]int{}, 0
	for range 150000 {
		a, b := some(), some()
		want := sameAgain(a, b)
		if impl.SameScheme(a, b) != want {
			t.Fatalf("%s and %s: want %v", codeShown(a), codeShown(b), want)
		}
		if want && !slices.Equal(a, b) {
			same[codeShown(a)+" "+codeShown(b)]++
			yes++
		}
	}
	if len(same) < 50 || yes < 200 {
		t.Errorf("%d are the same under other numbers, %d times", len(same), yes)
	}
}
