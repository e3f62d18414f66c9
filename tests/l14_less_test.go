package tests

import (
	"math"
	"slices"
	"strconv"
	"strings"
	"testing"

	"loop.example/s02665/impl"
)

// lessIs wants what code becomes, and that it keeps promise 18.
func lessIs(t *testing.T, code string, want string) {
	t.Helper()
	c, _ := codeOf(t, code)
	if !impl.PlainForm(c) {
		t.Fatalf("%s is not in plain form", code)
	}
	if got := checkLess(t, c); codeShown(got) != want {
		t.Errorf("%s\nbecomes %s\nwant    %s", code, codeShown(got), want)
	}
	keepsPromise18(t, c, impl.MaxFuel)
}

// staysCode wants that nothing becomes less.
func staysCode(t *testing.T, codes ...string) {
	t.Helper()
	for _, code := range codes {
		c, _ := codeOf(t, code)
		lessIs(t, code, codeShown(c))
	}
}

// simpleIs wants what code becomes in the end.
func simpleIs(t *testing.T, code string, want string) {
	t.Helper()
	c, _ := codeOf(t, code)
	checkLess(t, c)
	if got := codeShown(impl.Simplify(c)); got != want {
		t.Errorf("%s\nin the end becomes %s\nwant    %s", code, got, want)
	}
	keepsPromise18(t, c, impl.MaxFuel)
}

// keepsPromise18 wants of what code becomes that it is no longer and in plain form, and that it does
// the same with no more fuel wherever the code itself ends well.
func keepsPromise18(t *testing.T, c []impl.Node, fuel int) impl.Outcome {
	t.Helper()
	o := impl.Run(c, fuel)
	for name, less := range map[string][]impl.Node{"Less": impl.Less(c), "Simplify": impl.Simplify(c)} {
		if len(less) > len(c) || !impl.PlainForm(less) {
			t.Fatalf("%s\nhas %d nodes, and after %s %d: %s", codeShown(c), len(c), name, len(less), codeShown(less))
		}
		if !isOneOf(o.Kind, impl.RunValue, impl.RunRaise) {
			continue
		}
		got := impl.Run(less, fuel)
		if got.Kind != o.Kind || got.Text != o.Text || got.Out != o.Out || got.Used > o.Used {
			t.Fatalf("%s\ndoes %s\nafter %s %s\ndoes %s", codeShown(c), outcomeShown(o), name, codeShown(less), outcomeShown(got))
		}
		// The fuel that it uses is enough.
		if exact := impl.Run(less, got.Used); exact != got {
			t.Fatalf("%s\nwith %d does %s", codeShown(less), got.Used, outcomeShown(exact))
		}
	}
	return o
}

func TestLessRule1(t *testing.T) {
	least, most := strconv.FormatInt(math.MinInt64, 10), strconv.FormatInt(math.MaxInt64, 10)
	for _, c := range []struct{ op, a, b, want string }{
		{"+", "2", "3", "CInt 5"}, {"-", "2", "3", "CInt -1"}, {"*", "-2", "3", "CInt -6"}, {"/", "7", "2", "CInt 3"}, {"%", "7", "2", "CInt 1"},
		{"<", "2", "3", `CCon "true"`}, {"<", "3", "3", `CCon "false"`}, {"<=", "3", "3", `CCon "true"`}, {"<=", "4", "3", `CCon "false"`}, {">", "4", "3", `CCon "true"`}, {">", "3", "3", `CCon "false"`}, {">=", "3", "3", `CCon "true"`}, {">=", "2", "3", `CCon "false"`},
		// Toward zero.
		{"/", "-7", "2", "CInt -3"}, {"/", "7", "-2", "CInt -3"}, {"/", "-7", "-2", "CInt 3"}, {"%", "-7", "2", "CInt -1"}, {"%", "7", "-2", "CInt 1"}, {"%", "-7", "-2", "CInt -1"},
		// Both ends.
		{"+", most, "1", "CInt " + least}, {"+", least, "-1", "CInt " + most}, {"-", least, "1", "CInt " + most}, {"-", most, "-1", "CInt " + least}, {"-", "0", least, "CInt " + least}, {"*", most, "2", "CInt -2"}, {"*", least, "-1", "CInt " + least}, {"*", least, least, "CInt 0"},
		{"/", least, "-1", "CInt " + least}, {"%", least, "-1", "CInt 0"}, {"/", least, "1", "CInt " + least}, {"<", least, most, `CCon "true"`}, {">=", least, most, `CCon "false"`},
		{"/", "0", "5", "CInt 0"}, {"%", "0", "5", "CInt 0"},
	} {
		lessIs(t, `CBin "`+c.op+`"(CInt `+c.a+`, CInt `+c.b+`)`, c.want)
	}
	for _, num := range []string{"0", "5", "-5", least, most} {
		staysCode(t, `CBin "/"(CInt `+num+`, CInt 0)`, `CBin "%"(CInt `+num+`, CInt 0)`, `CBin "="(CInt `+num+`, CInt `+num+`)`, `CBin "<>"(CInt `+num+`, CInt `+num+`)`)
	}
	for num, want := range map[string]string{"4": "CInt -4", "-4": "CInt 4", "0": "CInt 0", least: "CInt " + least, most: "CInt -9223372036854775807"} {
		lessIs(t, `CUn "~"(CInt `+num+`)`, want)
	}
	staysCode(t,
		`CUn "!"(CInt 4)`, `CUn "~"(CStr "a")`, `CUn "~"(CVar 1)`, `CUn "~"(CTuple)`, `CBin ":="(CInt 1, CInt 2)`, `CBin "^"(CInt 1, CInt 2)`, `CBin "+"(CInt 1, CStr "a")`, `CBin "+"(CStr "a", CInt 1)`, `CBin "+"(CStr "a", CStr "a")`, `CBin "<"(CStr "a", CStr "b")`,
		`CBin "+"(CInt 1, CVar 1)`, `CBin "+"(CVar 1, CInt 1)`, `CBin "*"(CInt 0, CVar 1)`, `CBin "="(CStr "a", CStr "a")`, `CBin "<>"(CStr "a", CStr "b")`, `CBin "="(CCon "A", CCon "A")`, `CBin "="(CTuple, CTuple)`, `CBin ":="(CStr "a", CStr "b")`, `CBin "/"(CVar 1, CInt 0)`,
	)
	// Kids first.
	lessIs(t, `CBin "+"(CInt 2, CBin "*"(CInt 3, CInt 4))`, "CInt 14")
	lessIs(t, `CUn "~"(CUn "~"(CBin "-"(CInt 1, CUn "~"(CInt 2))))`, "CInt 3")
	lessIs(t, `CBin "/"(CInt 1, CBin "-"(CInt 2, CInt 2))`, `CBin "/"(CInt 1, CInt 0)`)
	lessIs(t, `CBin "="(CBin "+"(CInt 1, CInt 1), CInt 2)`, `CBin "="(CInt 2, CInt 2)`)
	lessIs(t, `CBin "<"(CBin "+"(CInt 1, CVar 1), CBin "+"(CInt 1, CInt 1))`, `CBin "<"(CBin "+"(CInt 1, CVar 1), CInt 2)`)
}

func TestLessTexts(t *testing.T) {
	lessIs(t, `CBin "^"(CStr "a", CStr "b")`, `CStr "ab"`)
	lessIs(t, `CBin "^"(CStr "", CStr "")`, `CStr ""`)
	lessIs(t, `CBin "^"(CStr "\xff", CBin "^"(CStr "\n", CStr "\""))`, `CStr "\xff\n\""`)
	staysCode(t, `CBin "^"(CStr "a", CVar 1)`, `CBin "^"(CVar 1, CStr "")`, `CBin "^"(CStr "a", CInt 1)`, `CBin "^"(CCon "A", CStr "")`)
	for _, first := range []int{0, 1, 500, impl.MaxString - 1, impl.MaxString, impl.MaxString + 1, 3000} {
		for _, second := range []int{0, 1, 500, 501, impl.MaxString - first, impl.MaxString - first + 1} {
			if second < 0 {
				continue
			}
			a, b := strings.Repeat("a", first), strings.Repeat("b", second)
			c := unplaced(impl.CBin, 0, "^", unplaced(impl.CStr, 0, a), unplaced(impl.CStr, 0, b))
			want := c
			if first+second <= impl.MaxString {
				want = unplaced(impl.CStr, 0, a+b)
			}
			if got := checkLess(t, c); !slices.Equal(got, want) {
				t.Errorf("%d and %d bytes: %d nodes", first, second, len(got))
			}
			keepsPromise18(t, c, 100)
		}
	}
	// Step by step up to the end, and not one further.
	half := strings.Repeat("s", impl.MaxString/2)
	both := `CBin "^"(CStr "` + half + `", CStr "` + half + `")`
	lessIs(t, both, `CStr "`+half+half+`"`)
	lessIs(t, `CBin "^"(`+both+`, CStr "")`, `CStr "`+half+half+`"`)
	lessIs(t, `CBin "^"(`+both+`, CStr "x")`, `CBin "^"(CStr "`+half+half+`", CStr "x")`)
}

// Rule 2 with each kind of pattern: those that fit a code, and those that do not.
func TestLessRule2(t *testing.T) {
	pair, some := `CTuple(CInt 1, CStr "a")`, `CApp(CCon "Some", CInt 1)`
	fitting := map[string][]string{
		"CInt 5":   {"PWild", "PInt 5"},
		"CInt -5":  {"PInt -5"},
		`CStr "a"`: {`PStr "a"`},
		`CStr ""`:  {`PStr ""`},
		`CCon "A"`: {`PCon "A"`},
		"CTuple":   {"PTuple", "PWild"},
		pair:       {"PTuple(PWild, PWild)", "PTuple(PInt 1, PWild)", `PTuple(PInt 1, PStr "a")`},
		some:       {"PWild", `PCon "Some"(PWild)`, `PCon "Some"(PInt 1)`},
		`CApp(CCon "::", CTuple(CInt 1, CApp(CCon "::", CTuple(CInt 2, CCon "nil"))))`: {`PCon "::"(PTuple(PWild, PCon "::"(PTuple(PInt 2, PCon "nil"))))`, `PCon "::"(PTuple(PWild, PCon "::"(PWild)))`},
	}
	unfit := map[string][]string{
		"CInt 5":   {"PInt 6", "PInt -5", `PStr "5"`, "PTuple", `PCon "A"`, `PCon "A"(PWild)`, "PTuple(PWild, PWild)"},
		`CStr "a"`: {`PStr ""`, `PStr "ab"`, "PInt 0", `PCon "a"`, "PTuple"},
		`CCon "A"`: {`PCon "B"`, `PCon "A"(PWild)`, `PStr "A"`, "PInt 0", "PTuple"},
		"CTuple":   {"PTuple(PWild, PWild)", "PInt 0", `PStr ""`, `PCon ""`},
		pair:       {"PTuple", "PTuple(PWild, PWild, PWild)", `PTuple(PInt 1, PStr "b")`, `PTuple(PInt 2, PStr "a")`, `PTuple(PStr "a", PInt 1)`, "PInt 1"},
		some:       {`PCon "Some"`, `PCon "Other"(PWild)`, `PCon "Some"(PInt 2)`, `PCon "Some"(PTuple)`, "PTuple(PWild, PWild)", "PInt 1"},
	}
	for code, pats := range fitting {
		for _, pat := range pats {
			for _, text := range []string{"Match", "Bind"} {
				match := `CCase "` + text + `"(` + code + `, `
				lessIs(t, match+`CRule(`+pat+`, CVar 70))`, "CVar 70")
				lessIs(t, match+`CRule(`+pat+`, CVar 70), CRule(PWild, CVar 71))`, "CVar 70")
				lessIs(t, match+`CRule(`+pat+`, CTuple(CVar 70, CInt 1)))`, "CTuple(CVar 70, CInt 1)")
				// Behind some that do not fit.
				behind := ""
				for _, other := range unfit[code] {
					behind += `CRule(` + other + `, CVar 99), `
				}
				lessIs(t, match+behind+`CRule(`+pat+`, CVar 70), CRule(QVar 1, CVar 99))`, "CVar 70")
			}
		}
	}
	for code, pats := range unfit {
		all := `CCase "Match"(` + code
		for _, pat := range pats {
			staysCode(t, `CCase "Match"(`+code+`, CRule(`+pat+`, CInt 1))`)
			lessIs(t, `CCase "Match"(`+code+`, CRule(`+pat+`, CVar 99), CRule(PWild, CInt 2))`, "CInt 2")
			all += `, CRule(` + pat + `, CInt 1)`
		}
		staysCode(t, all+")")
		lessIs(t, all+", CRule(QVar 3, CVar 3))", "CLet 3("+code+", CVar 3)")
	}
}

// Rule 2 with patterns that have names.
func TestLessRule2Names(t *testing.T) {
	lessIs(t, `CCase "Match"(CInt 5, CRule(QVar 7, CBin "+"(CVar 7, CVar 7)))`, `CLet 7(CInt 5, CBin "+"(CVar 7, CVar 7))`)
	lessIs(t, `CCase "Bind"(CTuple(CInt 1, CCon "A"), CRule(PInt 1, CVar 9), CRule(QVar 7, CInt 3), CRule(PWild, CVar 9))`, `CLet 7(CTuple(CInt 1, CCon "A"), CInt 3)`)
	// A number that nobody is asked about: it may be any.
	lessIs(t, `CCase "Match"(CInt 5, CRule(QVar 9223372036854775807, CVar 9223372036854775807))`, "CLet 9223372036854775807(CInt 5, CVar 9223372036854775807)")
	lessIs(t, `CCase "Match"(CInt 5, CRule(QVar 200001, CInt 1))`, "CLet 200001(CInt 5, CInt 1)")
	staysCode(t,
		// A QAs alone, and with a pattern; names inside, in front of rules that would fit, too.
		`CCase "Match"(CInt 5, CRule(QAs 7(PWild), CVar 7))`, `CCase "Match"(CInt 5, CRule(QAs 7(PInt 5), CInt 1), CRule(PWild, CInt 2))`, `CCase "Match"(CInt 5, CRule(QAs 7(QVar 8), CVar 7))`,
		`CCase "Match"(CTuple(CInt 1, CInt 2), CRule(PTuple(QVar 7, PWild), CVar 7), CRule(PWild, CInt 3))`, `CCase "Match"(CTuple(CInt 1, CInt 2), CRule(PTuple(PWild, QVar 7), CInt 3), CRule(PWild, CInt 3))`,
		`CCase "Match"(CApp(CCon "A", CInt 1), CRule(PCon "A"(QVar 7), CVar 7), CRule(PWild, CInt 3))`, `CCase "Match"(CApp(CCon "A", CInt 1), CRule(PCon "A"(QAs 7(PInt 1)), CVar 7))`,
	)
	// Names in patterns that do not fit count for nothing.
	lessIs(t, `CCase "Match"(CTuple(CInt 1, CInt 2), CRule(PTuple(QVar 7, PInt 3), CVar 7), CRule(QAs 7(PInt 1), CVar 7), CRule(PTuple(PInt 1, PWild), CInt 3))`, "CInt 3")
	lessIs(t, `CCase "Match"(CApp(CCon "A", CInt 1), CRule(PCon "B"(QVar 7), CVar 7), CRule(PCon "A"(PInt 2), CVar 9), CRule(QVar 8, CVar 8))`, `CLet 8(CApp(CCon "A", CInt 1), CVar 8)`)
}

// Rule 2 asks for a known code, and for a CCase.
func TestLessRule2Others(t *testing.T) {
	for kind, code := range everyCode() {
		if isOneOf(kind, impl.CInt, impl.CStr, impl.CCon, impl.CTuple, impl.CApp, impl.CLet, impl.CBin, impl.CUn, impl.CCase) {
			continue
		}
		staysCode(t, `CCase "Match"(`+code+`, CRule(PWild, CInt 1))`, `CCase "Match"(`+code+`, CRule(QVar 9, CVar 9))`, `CCase "Match"(CTuple(CInt 1, `+code+`), CRule(PWild, CInt 1))`, `CCase "Match"(CApp(CCon "A", `+code+`), CRule(PWild, CInt 1))`)
	}
	// What has become known.
	lessIs(t, `CCase "Match"(CBin "+"(CInt 1, CInt 2), CRule(PInt 3, CVar 8), CRule(PWild, CVar 9))`, "CVar 8")
	lessIs(t, `CCase "Match"(CBin "<"(CInt 1, CInt 2), CRule(PCon "true", CVar 8), CRule(PCon "false", CVar 9))`, "CVar 8")
	lessIs(t, `CCase "Match"(CCase "Match"(CInt 1, CRule(PWild, CInt 2)), CRule(PInt 2, CVar 8))`, "CVar 8")
	lessIs(t, `CCase "Match"(CTuple(CInt 1, CUn "~"(CInt 1)), CRule(PTuple(PWild, PInt -1), CVar 8))`, "CVar 8")
	// A CTry is left alone.
	staysCode(t, "CTry(CInt 1, CRule(PWild, CInt 2))", "CTry(CInt 1, CRule(QVar 2, CVar 2))", `CTry(CRaise(CCon "A"), CRule(PCon "A", CInt 2))`, `CTry(CCon "A", CRule(PCon "A", CInt 2))`)
	// Inside of it, and in rules, everything is done.
	lessIs(t, `CTry(CBin "+"(CInt 1, CInt 1), CRule(PWild, CBin "+"(CInt 2, CInt 2)))`, "CTry(CInt 2, CRule(PWild, CInt 4))")
	lessIs(t, `CCase "Match"(CVar 9, CRule(PInt 1, CBin "+"(CInt 1, CInt 1)), CRule(QVar 8, CUn "~"(CInt 1)))`, `CCase "Match"(CVar 9, CRule(PInt 1, CInt 2), CRule(QVar 8, CInt -1))`)
}

func TestLessRule5(t *testing.T) {
	lessIs(t, `CApp(CLam 1(CBin "+"(CVar 1, CInt 1)), CBin "="(CInt 1, CInt 2))`, `CLet 1(CBin "="(CInt 1, CInt 2), CBin "+"(CVar 1, CInt 1))`)
	for _, code := range everyCode() {
		c, _ := codeOf(t, code)
		lessIs(t, `CApp(CLam 40(CVar 40), `+code+`)`, `CLet 40(`+codeShown(impl.Less(c))+`, CVar 40)`)
		lessIs(t, `CApp(CLam 40(`+code+`), CInt 3)`, `CLet 40(CInt 3, `+codeShown(impl.Less(c))+`)`)
	}
	// Numbers that are no matter: above MaxNum, bound twice, unused.
	lessIs(t, "CApp(CLam 200001(CInt 1), CInt 2)", "CLet 200001(CInt 2, CInt 1)")
	lessIs(t, "CApp(CLam 1(CLam 1(CVar 1)), CInt 2)", "CLet 1(CInt 2, CLam 1(CVar 1))")
	lessIs(t, "CApp(CLam 1(CVar 2), CLam 1(CVar 1))", "CLet 1(CLam 1(CVar 1), CVar 2)")
	// Each CApp once: inner ones first.
	lessIs(t, "CApp(CLam 1(CApp(CLam 2(CVar 2), CVar 1)), CApp(CLam 3(CVar 3), CInt 1))", "CLet 1(CLet 3(CInt 1, CVar 3), CLet 2(CVar 1, CVar 2))")
	lessIs(t, "CApp(CApp(CLam 1(CLam 2(CVar 1)), CInt 1), CInt 2)", "CApp(CLet 1(CInt 1, CLam 2(CVar 1)), CInt 2)")
	// What has become a CLam: by the third rule, by the second.
	lessIs(t, "CApp(CLet 1(CInt 1, CLam 2(CVar 1)), CInt 2)", "CLet 2(CInt 2, CInt 1)")
	lessIs(t, `CApp(CCase "Match"(CInt 1, CRule(PWild, CLam 2(CVar 2))), CInt 2)`, "CLet 2(CInt 2, CVar 2)")
	staysCode(t, "CApp(CVar 1, CInt 2)", "CApp(CGiven -1, CInt 2)", `CApp(CCon "A", CLam 1(CVar 1))`, "CLam 1(CVar 1)", "CTuple(CLam 1(CVar 1), CInt 1)", "CFix(CBnd 1(CLam 2(CVar 2)), CApp(CVar 1, CInt 2))", "CApp(CInt 1, CInt 2)")
}
