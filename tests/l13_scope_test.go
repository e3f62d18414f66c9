package tests

import (
	"strconv"
	"strings"
	"testing"

	"loop.example/s02665/impl"
)

// valueOf wants what code gives, whatever it uses.
func valueOf(t *testing.T, code string, text string) {
	t.Helper()
	endsLike(t, code, impl.Outcome{Text: text})
}

func stuckIs(t *testing.T, code string) {
	t.Helper()
	endsLike(t, code, impl.Outcome{Kind: impl.RunStuck})
}

// The innermost of several binders with one number, of every two kinds that bind.
func TestRunInnermost(t *testing.T) {
	// Each binds 1 to the number in front of what is inside.
	binders := map[string]string{
		"CLet":   "CLet 1(#, $)",
		"CLam":   "CApp(CLam 1($), #)",
		"QVar":   "CCase \"Match\"(#, CRule(QVar 1, $))",
		"QAs":    "CCase \"Match\"(#, CRule(QAs 1(PWild), $))",
		"a part": "CCase \"Bind\"(CTuple(CInt 0, #), CRule(PTuple(PInt 0, QVar 1), $))",
		"a rule": "CTry(CRaise(CApp(CCon \"E\", #)), CRule(PCon \"E\"(QVar 1), $))",
	}
	put := func(code string, num string, inside string) string {
		return strings.Replace(strings.Replace(code, "#", num, 1), "$", inside, 1)
	}
	fix := "CFix(CBnd 1(CLam 9(CVar 9)), $)"
	for outer, a := range binders {
		valueOf(t, put(a, "CInt 5", "CVar 1"), "5")
		valueOf(t, put(a, "CInt 5", "CLet 2(CInt 6, CTuple(CVar 1, CVar 2))"), "(5, 6)")
		stuckIs(t, put(a, "CInt 5", "CVar 2"))
		// What it is bound to is outside it.
		stuckIs(t, put(a, "CVar 1", "CInt 5"))
		for inner, b := range binders {
			code := put(a, "CInt 5", "CTuple("+put(b, "CInt 6", "CVar 1")+", CVar 1)")
			valueOf(t, code, "(6, 5)")
			valueOf(t, put(a, "CInt 5", put(b, `CBin "+"(CVar 1, CInt 1)`, "CVar 1")), "6")
			valueOf(t, put(a, "CInt 5", put(b, "CInt 6", put(a, "CInt 7", "CVar 1"))), "7")
			if t.Failed() {
				t.Fatalf("%s around %s", outer, inner)
			}
		}
		valueOf(t, put(a, "CInt 5", "CTuple("+put(fix, "", "CVar 1")+", CVar 1)"), "(fn, 5)")
		valueOf(t, put(fix, "", "CTuple("+put(a, "CInt 5", "CVar 1")+", CVar 1)"), "(5, fn)")
	}
}

// Of two binders with one number that bind at once the last counts.
func TestRunTwice(t *testing.T) {
	match := func(value string, pat string, c string) string {
		return `CCase "Match"(` + value + `, CRule(` + pat + `, ` + c + `))`
	}
	pair := "CTuple(CInt 3, CInt 4)"
	valueOf(t, match(pair, "PTuple(QVar 1, QVar 1)", "CVar 1"), "4")
	valueOf(t, match(pair, "PTuple(QVar 1, QVar 2)", "CTuple(CVar 1, CVar 2)"), "(3, 4)")
	// A QAs binds ahead of what is in its pattern, though its node stands behind it.
	valueOf(t, match(pair, "QAs 1(PTuple(QVar 1, PWild))", "CVar 1"), "3")
	valueOf(t, match(pair, "QAs 1(PTuple(PWild, PWild))", "CVar 1"), "(3, 4)")
	valueOf(t, match(pair, "QAs 1(QAs 1(PTuple(QVar 1, QVar 1)))", "CVar 1"), "4")
	valueOf(t, match(pair, "QAs 1(QAs 1(PTuple(PInt 3, PInt 4)))", "CVar 1"), "(3, 4)")
	valueOf(t, match(pair, "PTuple(QAs 1(QVar 2), QAs 2(QVar 1))", "CTuple(CVar 1, CVar 2)"), "(4, 4)")
	valueOf(t, match(pair, "PTuple(QAs 1(QVar 2), QVar 1)", "CTuple(CVar 1, CVar 2)"), "(4, 3)")
	valueOf(t, match(pair, "PTuple(QVar 1, QAs 2(QVar 1))", "CTuple(CVar 1, CVar 2)"), "(4, 4)")
	valueOf(t, match("CTuple(CTuple(CInt 1, CInt 2), CInt 3)", "PTuple(QAs 1(PTuple(QVar 2, QVar 1)), QVar 2)", "CTuple(CVar 1, CVar 2)"), "(2, 3)")
	valueOf(t, match(`CApp(CCon "A", CInt 7)`, `QAs 1(PCon "A"(QVar 1))`, "CVar 1"), "7")
	// What a pattern binds that does not fit is forgotten.
	valueOf(t, `CLet 1(CInt 9, CCase "Match"(`+pair+`, CRule(PTuple(QVar 1, PInt 5), CVar 1), CRule(PTuple(PWild, QVar 2), CTuple(CVar 1, CVar 2))))`, "(9, 4)")
	valueOf(t, `CLet 1(CInt 9, CCase "Match"(`+pair+`, CRule(QAs 1(PTuple(QVar 2, PInt 5)), CVar 1), CRule(PTuple(QVar 2, QVar 3), CTuple(CVar 1, CVar 2, CVar 3))))`, "(9, 3, 4)")
	stuckIs(t, `CCase "Match"(`+pair+`, CRule(PTuple(QVar 1, PInt 5), CVar 1), CRule(PWild, CVar 1))`)
	// CBnds.
	valueOf(t, "CFix(CBnd 1(CLam 2(CInt 3)), CBnd 1(CLam 2(CInt 4)), CApp(CVar 1, CInt 0))", "4")
	valueOf(t, "CFix(CBnd 1(CLam 2(CInt 3)), CBnd 5(CLam 2(CApp(CVar 1, CInt 0))), CBnd 1(CLam 2(CInt 4)), CApp(CVar 5, CInt 0))", "4")
	valueOf(t, `CFix(CBnd 1(CLam 2(CInt 3)), CBnd 1(CLam 2(CCase "Match"(CVar 2, CRule(PInt 0, CInt 4), CRule(PWild, CApp(CVar 1, CInt 0))))), CApp(CVar 1, CInt 1))`, "4")
	// A parameter with the number of its function.
	valueOf(t, "CFix(CBnd 1(CLam 1(CVar 1)), CApp(CVar 1, CInt 8))", "8")
}

// Closures keep the binders that they saw.
func TestRunClosures(t *testing.T) {
	valueOf(t, "CLet 1(CInt 5, CLet 2(CLam 3(CVar 1), CLet 1(CInt 6, CApp(CVar 2, CInt 0))))", "5")
	valueOf(t, "CLet 1(CInt 5, CLet 2(CLam 1(CVar 1), CLet 1(CInt 6, CTuple(CVar 1, CApp(CVar 2, CInt 7)))))", "(6, 7)")
	valueOf(t, "CLet 2(CApp(CLam 1(CLam 3(CTuple(CVar 1, CVar 3))), CInt 5), CLet 1(CInt 6, CLet 3(CInt 8, CApp(CVar 2, CInt 7))))", "(5, 7)")
	valueOf(t, `CLet 2(CCase "Match"(CTuple(CInt 1, CInt 2), CRule(PTuple(QVar 3, QVar 4), CLam 5(CTuple(CVar 3, CVar 4, CVar 5)))), CLet 3(CInt 9, CLet 4(CInt 9, CApp(CVar 2, CInt 3))))`, "(1, 2, 3)")
	// One that is called in another's scope does not see it.
	stuckIs(t, "CLet 1(CLam 2(CVar 3), CLet 3(CInt 1, CApp(CVar 1, CInt 0)))")
	stuckIs(t, "CApp(CLam 1(CApp(CVar 1, CInt 0)), CLam 2(CVar 1))")
	// Each time it is made anew.
	valueOf(t, "CLet 1(CLam 2(CLam 3(CVar 2)), CLet 4(CApp(CVar 1, CInt 5), CLet 5(CApp(CVar 1, CInt 6), CTuple(CApp(CVar 4, CTuple), CApp(CVar 5, CTuple)))))", "(5, 6)")
	// In a loop: each closure has its own.
	loop := `CLet 1(CApp(CGiven -8, CInt 0), CLet 2(CApp(CGiven -8, CCon "nil"), CCase "Match"(CWhile(CBin "<"(CUn "!"(CVar 1), CInt 3),
		CLet 3(CUn "!"(CVar 1), CCase "Match"(CBin ":="(CVar 2, CApp(CCon "::", CTuple(CLam 4(CVar 3), CUn "!"(CVar 2)))), CRule(PWild, CBin ":="(CVar 1, CBin "+"(CVar 3, CInt 1)))))), CRule(PWild,
		CCase "Match"(CUn "!"(CVar 2), CRule(PCon "::"(PTuple(QVar 5, PCon "::"(PTuple(QVar 6, PCon "::"(PTuple(QVar 7, PCon "nil")))))), CTuple(CApp(CVar 5, CTuple), CApp(CVar 6, CTuple), CApp(CVar 7, CTuple))))))))`
	valueOf(t, loop, "(2, 1, 0)")
	// References are shared by those who saw them.
	valueOf(t, `CLet 1(CApp(CGiven -8, CInt 0), CLet 2(CLam 3(CBin ":="(CVar 1, CVar 3)), CLet 4(CVar 1, CCase "Match"(CApp(CVar 2, CInt 5), CRule(PWild, CTuple(CUn "!"(CVar 1), CUn "!"(CVar 4)))))))`, "(5, 5)")
}

// The functions of a CFix know all of it, and what is around it.
func TestRunFix(t *testing.T) {
	even := func(last string) string {
		return `CFix(CBnd 1(CLam 3(CCase "Match"(CVar 3, CRule(PInt 0, CCon "true"), CRule(PWild, CApp(CVar 2, CBin "-"(CVar 3, CInt 1)))))), ` +
			`CBnd 2(CLam 3(CCase "Match"(CVar 3, CRule(PInt 0, CCon "false"), CRule(PWild, CApp(CVar 1, CBin "-"(CVar 3, CInt 1)))))), ` + last + `)`
	}
	valueOf(t, even("CTuple(CApp(CVar 1, CInt 10), CApp(CVar 2, CInt 10), CApp(CVar 1, CInt 7), CApp(CVar 2, CInt 7))"), "(true, false, false, true)")
	valueOf(t, "CLet 9("+even("CVar 2")+", CLet 1(CInt 0, CLet 2(CInt 0, CApp(CVar 9, CInt 5))))", "true")
	valueOf(t, "CLet 1(CInt 5, CFix(CBnd 2(CLam 3(CTuple(CVar 1, CVar 3))), CLet 1(CInt 6, CApp(CVar 2, CInt 7))))", "(5, 7)")
	// Inside one another.
	valueOf(t, "CFix(CBnd 1(CLam 2(CFix(CBnd 3(CLam 4(CTuple(CVar 2, CVar 4, CVar 1))), CVar 3))), CApp(CApp(CVar 1, CInt 5), CInt 6))", "(5, 6, fn)")
	valueOf(t, "CFix(CBnd 1(CLam 2(CInt 1)), CFix(CBnd 3(CLam 4(CApp(CVar 1, CInt 0))), CBnd 1(CLam 2(CInt 2)), CTuple(CApp(CVar 3, CInt 0), CApp(CVar 1, CInt 0))))", "(2, 2)")
	// Behind it nothing is known of it.
	stuckIs(t, "CLet 4(CFix(CBnd 1(CLam 2(CVar 2)), CInt 3), CVar 1)")
	// The fuel of a call: CApp, both kids, the body.
	givesText(t, "CFix(CBnd 1(CLam 2(CInt 3)), CInt 4)", "4", 2)
	givesText(t, "CFix("+strings.Repeat("CBnd 1(CLam 2(CInt 3)), ", 20)+"CApp(CVar 1, CInt 4))", "3", 5)
}

// A CVar far from its binder, of each kind, and closures that were made far outside.
func TestRunFarBinders(t *testing.T) {
	for _, deep := range []int{1, 2, 3, 5, 10, 100, 1000} {
		front, behind, sum := "", "", "CInt 0"
		for i := range deep {
			num := strconv.Itoa(i + 10)
			front += []string{"CLet " + num + "(CInt " + num + ", ", "CApp(CLam " + num + "(", "CCase \"Match\"(CTuple(CInt " + num + ", CTuple), CRule(PTuple(QVar " + num + ", QVar 5), ", "CCase \"Match\"(CInt 0, CRule(PInt 0, ", "CFix(CBnd 3(CLam 4(CVar 4)), CBnd " + num + "(CLam 4(CInt " + num + ")), "}[i%5]
			behind = []string{")", "), CInt " + num + ")", "))", "))", ")"}[i%5] + behind
			switch i % 5 {
			case 0, 1, 2:
				sum = "CBin \"+\"(" + sum + ", CVar " + num + ")"
			case 4:
				sum = "CBin \"+\"(" + sum + ", CApp(CVar " + num + ", CTuple))"
			}
		}
		want := 0
		for i := range deep {
			if i%5 != 3 {
				want += i + 10
			}
		}
		valueOf(t, front+sum+behind, strconv.Itoa(want))
		valueOf(t, "CLet 1(CInt 7, "+front+"CVar 1"+behind+")", "7")
		valueOf(t, "CApp(CLet 1(CInt 7, "+front+"CLam 2(CTuple(CVar 1, CVar 2))"+behind+"), CInt 8)", "(7, 8)")
		stuckIs(t, front+"CVar 1"+behind)
	}
}
