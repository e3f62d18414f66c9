package tests

import (
	"strconv"
	"strings"
	"testing"

	"loop.example/s02665/impl"
)

// Rule 3 with each kind of code in front: atoms are put for the variable, all else is not.
func TestLessRule3Atoms(t *testing.T) {
	atoms := []string{"CInt 5", "CInt -5", `CStr "a"`, `CStr ""`, `CCon "A"`, `CCon "::"`, "CGiven -1", "CGiven -8"}
	for _, atom := range atoms {
		lessIs(t, "CLet 1("+atom+", CVar 1)", atom)
		lessIs(t, "CLet 1("+atom+", CTuple(CVar 1, CVar 1, CVar 2))", "CTuple("+atom+", "+atom+", CVar 2)")
		lessIs(t, "CLet 1("+atom+", CInt 7)", "CInt 7")
		lessIs(t, "CLet 1("+atom+", CLam 2(CTuple(CVar 1, CVar 2)))", "CLam 2(CTuple("+atom+", CVar 2))")
		// Under every code.
		lessIs(t, "CLet 1("+atom+`, CFix(CBnd 2(CLam 3(CVar 1)), CTry(CVar 1, CRule(QVar 4, CWhile(CVar 1, CRaise(CUn "!"(CVar 1)))))))`, `CFix(CBnd 2(CLam 3(`+atom+`)), CTry(`+atom+`, CRule(QVar 4, CWhile(`+atom+`, CRaise(CUn "!"(`+atom+`))))))`)
		lessIs(t, "CLet 1("+atom+`, CCase "Match"(CVar 9, CRule(PTuple(QVar 5, QAs 6(PInt 1)), CApp(CVar 1, CVar 5))))`, `CCase "Match"(CVar 9, CRule(PTuple(QVar 5, QAs 6(PInt 1)), CApp(`+atom+`, CVar 5)))`)
	}
	for kind, code := range everyCode() {
		code = strings.NewReplacer("CVar 1", "CVar 9", " 1(", " 60(", " 2(", " 61(").Replace(code)
		c, _ := codeOf(t, code)
		less := codeShown(impl.Less(c))
		switch {
		case isOneOf(kind, impl.CInt, impl.CStr, impl.CCon, impl.CGiven):
			lessIs(t, "CLet 1("+code+", CVar 1)", code)
		default:
			// A CVar that has no binder at all is no atom: its number is not single.
			lessIs(t, "CLet 1("+code+", CVar 1)", "CLet 1("+less+", CVar 1)")
		}
	}
	// The first code is looked at as it stands in c, not as it becomes.
	lessIs(t, `CLet 1(CBin "+"(CInt 1, CInt 2), CVar 1)`, "CLet 1(CInt 3, CVar 1)")
	lessIs(t, `CLet 1(CCase "Match"(CInt 1, CRule(PWild, CInt 2)), CVar 1)`, "CLet 1(CInt 2, CVar 1)")
	lessIs(t, "CLet 1(CLet 2(CInt 5, CVar 2), CVar 1)", "CLet 1(CInt 5, CVar 1)")
	simpleIs(t, `CLet 1(CBin "+"(CInt 1, CInt 2), CVar 1)`, "CInt 3")
}

// A CVar is an atom if its number is single.
func TestLessRule3Variables(t *testing.T) {
	lessIs(t, "CLam 1(CLet 2(CVar 1, CTuple(CVar 2, CVar 2)))", "CLam 1(CTuple(CVar 1, CVar 1))")
	lessIs(t, "CFix(CBnd 1(CLam 3(CVar 3)), CLet 2(CVar 1, CApp(CVar 2, CInt 1)))", "CFix(CBnd 1(CLam 3(CVar 3)), CApp(CVar 1, CInt 1))")
	lessIs(t, `CCase "Match"(CVar 9, CRule(QVar 1, CLet 2(CVar 1, CVar 2)))`, `CCase "Match"(CVar 9, CRule(QVar 1, CVar 1))`)
	lessIs(t, `CCase "Match"(CVar 9, CRule(QAs 1(PWild), CLet 2(CVar 1, CVar 2)))`, `CCase "Match"(CVar 9, CRule(QAs 1(PWild), CVar 1))`)
	lessIs(t, "CLet 1(CTuple, CLet 2(CVar 1, CVar 2))", "CLet 1(CTuple, CVar 1)")
	// With what has been put for it so far.
	lessIs(t, "CLet 1(CInt 5, CLet 2(CVar 1, CLet 3(CVar 2, CTuple(CVar 1, CVar 2, CVar 3))))", "CTuple(CInt 5, CInt 5, CInt 5)")
	lessIs(t, "CLam 1(CLet 2(CVar 1, CLet 3(CVar 2, CLet 4(CVar 3, CTuple(CVar 4, CVar 2)))))", "CLam 1(CTuple(CVar 1, CVar 1))")
	lessIs(t, "CLet 1(CInt 5, CLet 2(CTuple(CVar 1, CInt 6), CLet 3(CVar 2, CTuple(CVar 3, CVar 1))))", "CLet 2(CTuple(CInt 5, CInt 6), CTuple(CVar 2, CInt 5))")
	// A number that is not single: bound twice, or by nobody, or above MaxNum.
	staysCode(t, "CLam 1(CLam 1(CLet 2(CVar 1, CVar 2)))", "CLet 2(CVar 1, CVar 2)", "CLam 200001(CLet 2(CVar 200001, CVar 2))", "CTuple(CLam 1(CLet 2(CVar 1, CVar 2)), CLam 1(CVar 1))")
	lessIs(t, "CLam 200000(CLet 2(CVar 200000, CVar 2))", "CLam 200000(CVar 200000)")
	// Itself: it means nothing there.
	lessIs(t, "CLet 1(CVar 1, CTuple(CVar 1, CInt 2))", "CTuple(CVar 1, CInt 2)")
	// A binder that is not around it, and is single all the same.
	lessIs(t, "CTuple(CLam 1(CVar 1), CLet 2(CVar 1, CVar 2))", "CTuple(CLam 1(CVar 1), CVar 1)")
	lessIs(t, "CLet 2(CVar 1, CLam 1(CVar 2))", "CLam 1(CVar 1)")
	// Outside of the CLet its variable stays what it is.
	lessIs(t, "CTuple(CLet 1(CInt 5, CVar 1), CVar 1)", "CTuple(CInt 5, CVar 1)")
	lessIs(t, "CTuple(CVar 1, CLet 1(CInt 5, CVar 1), CVar 1)", "CTuple(CVar 1, CInt 5, CVar 1)")
	lessIs(t, "CLet 2(CTuple(CVar 1, CInt 3), CLet 1(CInt 5, CTuple(CVar 1, CVar 2)))", "CLet 2(CTuple(CVar 1, CInt 3), CTuple(CInt 5, CVar 2))")
	lessIs(t, "CTuple(CLet 1(CInt 5, CVar 1), CLet 2(CVar 1, CVar 2))", "CTuple(CInt 5, CVar 1)")
	// A CLet inside the first code of another.
	lessIs(t, "CLet 1(CTuple(CLet 2(CInt 3, CVar 2), CInt 1), CVar 1)", "CLet 1(CTuple(CInt 3, CInt 1), CVar 1)")
	lessIs(t, "CLet 1(CInt 4, CLet 2(CTuple(CLet 3(CVar 1, CVar 3), CInt 1), CVar 2))", "CLet 2(CTuple(CInt 4, CInt 1), CVar 2)")
}

// Numbers that are bound twice: each pair of kinds of binders, inside one another and side by side.
func TestLessBoundTwice(t *testing.T) {
	binders := []string{"CLet 1(#, $)", "CApp(CGiven -8, CLam 1($))", "CFix(CBnd 1(CLam 50($)), $)", `CCase "Match"(CVar 90, CRule(QVar 1, $))`, `CCase "Match"(CVar 90, CRule(QAs 1(PWild), $))`, `CTry(CVar 90, CRule(PTuple(PWild, QVar 1), $))`, `CTry(CVar 90, CRule(PCon "A"(QAs 1(PInt 3)), $))`}
	with := func(binder string, first string, inside string) string {
		return strings.ReplaceAll(strings.Replace(binder, "#", first, 1), "$", inside)
	}
	for _, binder := range binders {
		once := with(binder, "CTuple", "CLet 2(CVar 1, CVar 2)")
		if strings.Count(binder, "$") > 1 {
			once = strings.Replace(with(binder, "CTuple", "$"), "$", "CInt 1", 1)
			once = strings.Replace(once, "$", "CLet 2(CVar 1, CVar 2)", 1)
		}
		lessIs(t, once, strings.Replace(once, "CLet 2(CVar 1, CVar 2)", "CVar 1", 1))
		for _, other := range binders {
			inside := strings.Replace(with(other, "CInt 6", "$"), "$", "CVar 1", 1)
			inside = strings.Replace(inside, "$", "CInt 1", 1)
			around := strings.Replace(with(binder, "CInt 5", "$"), "$", "CInt 8", strings.Count(binder, "$")-1)
			around = strings.Replace(around, "$", inside, 1)
			staysCode(t, around, "CTuple("+strings.Replace(around, inside, "CVar 1", 1)+", "+inside+")")
		}
	}
	staysCode(t, "CLet 1(CInt 5, CLet 1(CInt 6, CVar 1))", "CFix(CBnd 1(CLam 2(CInt 1)), CBnd 1(CLam 3(CInt 2)), CLet 4(CVar 1, CVar 4))", `CCase "Match"(CVar 9, CRule(PTuple(QVar 1, QVar 1), CLet 4(CVar 1, CVar 4)))`, `CCase "Match"(CVar 9, CRule(QAs 1(QVar 1), CLet 4(CVar 1, CVar 4)))`)
	// A single one inside ones that are not.
	lessIs(t, "CLet 1(CInt 5, CLet 2(CInt 7, CLet 1(CVar 2, CTuple(CVar 1, CVar 2))))", "CLet 1(CInt 5, CLet 1(CInt 7, CTuple(CVar 1, CInt 7)))")
	// Single is meant of the code that was handed in: here a binder falls away, and still the other is not single.
	lessIs(t, "CTuple(CLet 2(CLam 1(CVar 1), CInt 3), CLet 1(CInt 4, CVar 1))", "CTuple(CInt 3, CLet 1(CInt 4, CVar 1))")
	simpleIs(t, "CTuple(CLet 2(CLam 1(CVar 1), CInt 3), CLet 1(CInt 4, CVar 1))", "CTuple(CInt 3, CInt 4)")
	lessIs(t, `CTuple(CCase "Match"(CInt 1, CRule(PWild, CInt 2), CRule(QVar 1, CVar 1)), CLet 1(CInt 4, CVar 1))`, "CTuple(CInt 2, CLet 1(CInt 4, CVar 1))")
	lessIs(t, `CTuple(CCase "Match"(CInt 1, CRule(PWild, CInt 2), CRule(QVar 1, CVar 1)), CLam 1(CLet 3(CVar 1, CVar 3)))`, "CTuple(CInt 2, CLam 1(CLet 3(CVar 1, CVar 3)))")
}

func TestLessNumbers(t *testing.T) {
	for num, is := range map[int64]bool{1: true, 2: true, impl.MaxNum - 1: true, impl.MaxNum: true, impl.MaxNum + 1: false, 1 << 40: false, 1<<63 - 1: false} {
		x := strconv.FormatInt(num, 10)
		for code, want := range map[string]string{
			"CLet " + x + "(CInt 5, CVar " + x + ")":                       "CInt 5",
			"CLet " + x + "(CInt 5, CInt 6)":                               "CInt 6",
			"CLet " + x + "(CTuple, CInt 6)":                               "CInt 6",
			"CLet " + x + "(CLam 3(CVar 3), CInt 6)":                       "CInt 6",
			"CLam " + x + "(CLet 5(CVar " + x + ", CVar 5))":               "CLam " + x + "(CVar " + x + ")",
			"CLet " + x + "(CGiven -1, CLet " + x + "(CGiven -2, CInt 1))": "CInt 1",
		} {
			if !is {
				want = code
			}
			lessIs(t, code, want)
		}
	}
	for _, num := range []string{"0", "-1", "-200000"} {
		for _, code := range []string{"CLet " + num + "(CInt 5, CInt 6)", "CLet 1(CVar " + num + ", CVar 1)", "CLam " + num + "(CInt 1)", "CApp(CLam " + num + "(CInt 1), CInt 2)"} {
			c, _ := codeOf(t, code)
			if len(impl.Less(c)) != 0 || len(impl.Simplify(c)) != 0 {
				t.Errorf("%s: %s", code, codeShown(impl.Less(c)))
			}
		}
	}
}

// Rule 4: what does nothing, and is asked for nowhere.
func TestLessRule4(t *testing.T) {
	for kind, code := range everyCode() {
		code = strings.NewReplacer("CVar 1", "CVar 9", " 1(", " 60(", " 2(", " 61(").Replace(code)
		c, _ := codeOf(t, code)
		less := impl.Less(c)
		// Twice, so that the number is not single and rule 3 does not fit.
		want := "CLet 1(" + codeShown(less) + ", CLet 1(CVar 8, CInt 3))"
		if impl.Known(less) || isOneOf(rootOf(less).Kind, impl.CLam, impl.CGiven) {
			want = "CLet 1(CVar 8, CInt 3)"
		}
		lessIs(t, "CLet 1("+code+", CLet 1(CVar 8, CInt 3))", want)
		if isOneOf(kind, impl.CVar, impl.CFix, impl.CRaise, impl.CTry, impl.CWhile) != strings.HasPrefix(want, "CLet 1("+code) {
			t.Errorf("%s: %s", code, want)
		}
	}
	for _, code := range []string{"CTuple(CInt 1, CInt 2)", `CApp(CCon "A", CTuple)`, `CTuple(CTuple, CApp(CCon "A", CStr "a"))`, "CLam 2(CVar 99)", "CLam 2(CRaise(CVar 2))", "CTuple"} {
		lessIs(t, "CLet 1("+code+", CInt 3)", "CInt 3")
		// A CVar of its number anywhere: inside, in the first code, outside of the CLet, where it means another.
		staysCode(t, "CLet 1("+code+", CVar 1)", "CTuple(CLet 1("+code+", CInt 3), CVar 1)", "CTuple(CVar 1, CLet 1("+code+", CInt 3))", "CLet 1("+code+", CLam 1(CVar 1))", "CTuple(CLam 1(CVar 1), CLet 1("+code+", CInt 3))", "CLet 9(CTuple(CVar 1, CInt 1), CTuple(CVar 9, CLet 1("+code+", CInt 3)))")
	}
	staysCode(t, "CLet 1(CLam 2(CVar 1), CInt 3)", "CLet 1(CVar 9, CInt 3)", "CLet 1(CTuple(CInt 1, CVar 9), CInt 3)", `CLet 1(CApp(CGiven -8, CInt 1), CInt 3)`, "CLet 1(CTuple(CLam 2(CVar 2), CInt 1), CInt 3)", `CLet 1(CBin "/"(CInt 1, CInt 0), CInt 3)`, `CLet 1(CApp(CCon "A", CGiven -1), CInt 3)`, `CLet 1(CTuple(CGiven -1, CInt 1), CInt 3)`)
	// CVars of c count that fall away on the way: the next time they are gone.
	used := `CLet 1(CTuple, CCase "Match"(CInt 1, CRule(PInt 1, CInt 2), CRule(PWild, CVar 1)))`
	lessIs(t, used, "CLet 1(CTuple, CInt 2)")
	simpleIs(t, used, "CInt 2")
	// What has become known, or a function.
	lessIs(t, `CLet 1(CBin "+"(CInt 1, CInt 2), CInt 3)`, "CInt 3")
	lessIs(t, `CLet 1(CTuple(CBin "<"(CInt 1, CInt 2), CInt 2), CInt 3)`, "CInt 3")
	lessIs(t, "CLet 1(CLet 2(CInt 5, CLam 3(CVar 2)), CInt 3)", "CInt 3")
	lessIs(t, `CLet 1(CCase "Match"(CInt 1, CRule(PWild, CGiven -1)), CInt 3)`, "CInt 3")
	lessIs(t, "CLam 4(CLet 1(CTuple(CInt 1, CLet 2(CVar 4, CVar 2)), CInt 3))", "CLam 4(CLet 1(CTuple(CInt 1, CVar 4), CInt 3))")
}

// Each rule once on the way up: what a rule makes is not looked at again.
func TestLessOnce(t *testing.T) {
	for _, c := range []struct{ code, first, second string }{
		// Rule 5 makes a CLet that the third or the fourth would fit.
		{"CApp(CLam 1(CVar 1), CInt 2)", "CLet 1(CInt 2, CVar 1)", "CInt 2"},
		{"CApp(CLam 1(CInt 3), CTuple)", "CLet 1(CTuple, CInt 3)", "CInt 3"},
		{"CApp(CLam 1(CInt 3), CLam 2(CVar 2))", "CLet 1(CLam 2(CVar 2), CInt 3)", "CInt 3"},
		// Rule 2 makes a CLet.
		{`CCase "Match"(CInt 5, CRule(QVar 1, CVar 1))`, "CLet 1(CInt 5, CVar 1)", "CInt 5"},
		{`CCase "Match"(CTuple, CRule(QVar 1, CInt 4))`, "CLet 1(CTuple, CInt 4)", "CInt 4"},
		// Rule 2 gives a code that has been looked at, and nothing more is done where it now stands.
		{`CCase "Match"(CInt 1, CRule(PWild, CApp(CLam 1(CVar 1), CInt 2)))`, "CLet 1(CInt 2, CVar 1)", "CInt 2"},
		// Rule 4 gives the second code.
		{"CLet 1(CTuple, CApp(CLam 2(CVar 2), CInt 2))", "CLet 2(CInt 2, CVar 2)", "CInt 2"},
		// Rule 3 makes kids that other rules fit, around them: these come later on the way up.
		{`CLet 1(CInt 2, CCase "Match"(CVar 1, CRule(PInt 2, CBin "+"(CVar 1, CInt 1))))`, "CInt 3", "CInt 3"},
		{`CLet 1(CCon "A", CCase "Match"(CApp(CVar 1, CInt 1), CRule(PCon "A"(PInt 1), CVar 1)))`, `CCon "A"`, `CCon "A"`},
		{"CLet 1(CInt 2, CApp(CLam 2(CVar 2), CVar 1))", "CLet 2(CInt 2, CVar 2)", "CInt 2"},
		// A sum over what is put in only the next time.
		{`CApp(CLam 1(CBin "+"(CVar 1, CInt 1)), CInt 2)`, `CLet 1(CInt 2, CBin "+"(CVar 1, CInt 1))`, "CInt 3"},
	} {
		lessIs(t, c.code, c.first)
		lessIs(t, c.first, c.second)
		simpleIs(t, c.code, c.second)
	}
}

// Where both the third and the fourth rule fit, both say the same; where rule 3 fits it is ahead of
// what would become of its kids.
func TestLessFirstRule(t *testing.T) {
	lessIs(t, "CLet 1(CInt 5, CInt 6)", "CInt 6")
	lessIs(t, "CLet 1(CGiven -1, CInt 6)", "CInt 6")
	lessIs(t, "CLet 1(CInt 5, CLet 2(CVar 1, CInt 6))", "CInt 6")
	// Not single, so it is the fourth: what stands inside is not replaced.
	lessIs(t, "CTuple(CLet 1(CInt 5, CInt 6), CLam 1(CInt 7))", "CTuple(CInt 6, CLam 1(CInt 7))")
	// Not single, and asked for.
	staysCode(t, "CTuple(CLet 1(CInt 5, CInt 6), CLam 1(CVar 1))")
	// The third, where the fourth does not fit.
	lessIs(t, "CTuple(CLet 1(CInt 5, CVar 1), CVar 1)", "CTuple(CInt 5, CVar 1)")
	// Rule 2 ahead of everything with the CLet that it makes; rule 1 inside it first.
	lessIs(t, `CCase "Match"(CBin "+"(CInt 1, CInt 1), CRule(QVar 1, CBin "*"(CInt 2, CInt 3)))`, "CLet 1(CInt 2, CInt 6)")
}
