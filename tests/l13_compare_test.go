package tests

import (
	"math/rand"
	"strconv"
	"strings"
	"testing"

	"loop.example/s02665/impl"
)

// comparesTo wants what = gives, and the other for <>, both with so many comparisons.
func comparesTo(t *testing.T, a string, b string, same bool, comparisons int) {
	t.Helper()
	used := 1 + usedBy(t, a) + usedBy(t, b) + comparisons
	givesText(t, `CBin "="(`+a+`, `+b+`)`, strconv.FormatBool(same), used)
	givesText(t, `CBin "<>"(`+a+`, `+b+`)`, strconv.FormatBool(!same), used)
}

func usedBy(t *testing.T, code string) int {
	t.Helper()
	c, _ := codeOf(t, code)
	return checkRun(t, c, impl.MaxFuel).Used
}

func TestCompareValues(t *testing.T) {
	con := func(name string, arg string) string { return `CApp(CCon "` + name + `", ` + arg + `)` }
	for _, c := range []struct {
		a, b        string
		same        bool
		comparisons int
	}{
		{"CInt 1", "CInt 1", true, 1}, {"CInt 1", "CInt 2", false, 1}, {"CInt -9223372036854775808", "CInt 9223372036854775807", false, 1}, {"CInt 0", "CInt 0", true, 1},
		{`CStr ""`, `CStr ""`, true, 1}, {`CStr "a"`, `CStr "a"`, true, 1}, {`CStr "a"`, `CStr "b"`, false, 1}, {`CStr "a"`, `CStr "ab"`, false, 1}, {`CStr "\xff"`, `CStr "\xfe"`, false, 1},
		{"CTuple", "CTuple", true, 1}, {"CTuple(CInt 1, CInt 2)", "CTuple(CInt 1, CInt 2)", true, 3}, {"CTuple(CInt 1, CInt 2)", "CTuple(CInt 1, CInt 3)", false, 3}, {"CTuple(CInt 1, CInt 2)", "CTuple(CInt 0, CInt 2)", false, 2},
		// Up to the first that differ: what is behind it may be anything.
		{`CTuple(CInt 1, CStr "a", CInt 3)`, `CTuple(CInt 2, CInt 5, CGiven -1)`, false, 2}, {"CTuple(CInt 1, CTuple(CInt 2, CInt 3), CGiven -1)", "CTuple(CInt 1, CTuple(CInt 2, CInt 4), CGiven -1)", false, 5},
		{`CCon "A"`, `CCon "A"`, true, 1}, {`CCon "A"`, `CCon "B"`, false, 1}, {`CCon "true"`, `CCon "false"`, false, 1}, {con("A", "CInt 1"), con("A", "CInt 1"), true, 2}, {con("A", "CInt 1"), con("A", "CInt 2"), false, 2},
		{con("A", "CInt 1"), con("B", "CInt 1"), false, 1}, {con("A", "CInt 1"), con("B", `CStr "s"`), false, 1}, {con("A", "CGiven -1"), con("B", "CInt 1"), false, 1},
		// With and without a value.
		{con("A", "CInt 1"), `CCon "A"`, false, 1}, {`CCon "A"`, con("A", "CInt 1"), false, 1}, {`CCon "A"`, con("B", "CInt 1"), false, 1}, {`CCon "nil"`, con("::", "CTuple(CInt 1, CCon \"nil\")"), false, 1}, {con("A", "CGiven -1"), `CCon "A"`, false, 1},
		{con("A", con("A", `CCon "A"`)), con("A", con("A", `CCon "A"`)), true, 3}, {con("A", con("A", `CCon "A"`)), con("A", `CCon "A"`), false, 2},
		// Constructors that take a value are no functions.
		{`CCon "::"`, `CCon "::"`, true, 1}, {`CCon "::"`, `CCon "Some"`, false, 1},
		// References: the same one, another one with the same in it.
		{"CApp(CGiven -8, CInt 1)", "CApp(CGiven -8, CInt 1)", false, 1}, {"CTuple(CInt 1, CApp(CGiven -8, CGiven -1))", "CTuple(CInt 1, CApp(CGiven -8, CGiven -1))", false, 3},
	} {
		comparesTo(t, c.a, c.b, c.same, c.comparisons)
		comparesTo(t, c.b, c.a, c.same, c.comparisons)
	}
	list := func(parts ...string) string {
		out := `CCon "nil"`
		for i := range parts {
			out = con("::", "CTuple("+parts[len(parts)-1-i]+", "+out+")")
		}
		return out
	}
	comparesTo(t, list("CInt 1", "CInt 2"), list("CInt 1", "CInt 2"), true, 7)
	comparesTo(t, list("CInt 1", "CInt 2"), list("CInt 1"), false, 4)
	comparesTo(t, list("CInt 1", "CInt 2"), list("CInt 1", "CInt 3"), false, 6)
	comparesTo(t, list(), list(), true, 1)
}

func TestCompareReferences(t *testing.T) {
	both := func(c string) string {
		return `CLet 1(CApp(CGiven -8, CInt 1), CLet 2(CVar 1, CLet 3(CApp(CGiven -8, CInt 1), ` + c + `)))`
	}
	givesText(t, both(`CBin "="(CVar 1, CVar 2)`), "true", 1+3+2+4+3+1)
	givesText(t, both(`CBin "<>"(CVar 1, CVar 2)`), "false", 1+3+2+4+3+1)
	givesText(t, both(`CBin "="(CVar 1, CVar 3)`), "false", 1+3+2+4+3+1)
	valueOf(t, both(`CBin "="(CTuple(CVar 1, CVar 3), CTuple(CVar 2, CVar 3))`), "true")
	valueOf(t, both(`CBin "="(CApp(CCon "A", CVar 1), CApp(CCon "A", CVar 2))`), "true")
	// They stay the same and others, whatever is put into them.
	valueOf(t, both(`CCase "Match"(CBin ":="(CVar 1, CInt 7), CRule(PWild, CTuple(CBin "="(CVar 1, CVar 2), CBin "="(CVar 1, CVar 3))))`), "(true, false)")
	// Circles are not gone round.
	valueOf(t, both(`CCase "Match"(CTuple(CBin ":="(CVar 1, CVar 1), CBin ":="(CVar 3, CVar 3)), CRule(PWild, CTuple(CBin "="(CVar 1, CVar 1), CBin "="(CVar 1, CVar 3), CBin "="(CUn "!"(CVar 1), CVar 1), CBin "="(CTuple(CVar 1, CVar 3), CTuple(CUn "!"(CVar 1), CUn "!"(CVar 3))))))`), "(true, false, true, true)")
	valueOf(t, both(`CCase "Match"(CTuple(CBin ":="(CVar 1, CApp(CCon "A", CVar 3)), CBin ":="(CVar 3, CApp(CCon "A", CVar 1))), CRule(PWild, CTuple(CBin "="(CUn "!"(CVar 1), CUn "!"(CVar 3)), CBin "="(CUn "!"(CVar 1), CApp(CCon "A", CVar 3)))))`), "(false, true)")
	// Functions inside are not looked at.
	valueOf(t, `CLet 1(CApp(CGiven -8, CGiven -1), CBin "="(CVar 1, CVar 1))`, "true")
}

// A function on one side: Equal, whatever is on the other.
func TestCompareFunctions(t *testing.T) {
	for _, f := range []string{"CLam 9(CVar 9)", "CGiven -1", "CGiven -8"} {
		for c, used := range oneOfEach() {
			for _, op := range []string{"=", "<>"} {
				raisesText(t, `CBin "`+op+`"(`+f+`, `+c+`)`, "Equal", 3+used)
				raisesText(t, `CBin "`+op+`"(`+c+`, `+f+`)`, "Equal", 3+used)
			}
		}
		raisesText(t, `CLet 1(`+f+`, CBin "="(CVar 1, CVar 1))`, "Equal", 6)
		// Deep inside, behind what is the same; not behind what differs.
		raisesText(t, `CBin "="(CTuple(CInt 1, `+f+`), CTuple(CInt 1, CInt 2))`, "Equal", 1+6+3)
		raisesText(t, `CBin "="(CApp(CCon "A", CTuple(CInt 1, CInt 5)), CApp(CCon "A", CTuple(CInt 1, `+f+`)))`, "Equal", 1+10+4)
		comparesTo(t, `CTuple(CInt 1, `+f+`)`, `CTuple(CInt 2, `+f+`)`, false, 2)
		comparesTo(t, `CApp(CCon "A", `+f+`)`, `CApp(CCon "B", `+f+`)`, false, 1)
		// Ahead of values of other kinds, and behind them.
		raisesText(t, `CBin "="(CTuple(`+f+`, CInt 1), CTuple(CInt 1, CStr "s"))`, "Equal", 1+6+2)
		stuckIs(t, `CBin "="(CTuple(CInt 1, `+f+`), CTuple(CStr "s", CInt 2))`)
		givesText(t, `CTry(CBin "="(`+f+`, CInt 1), CRule(PCon "Equal", CInt 4))`, "4", 6)
	}
}

// Other kinds with each other are stuck, at once and inside; so are tuples of unlike sizes.
func TestCompareOtherKinds(t *testing.T) {
	values := []struct{ sort, code string }{
		{"int", "CInt 1"}, {"string", `CStr "1"`}, {"tuple of 0", "CTuple"}, {"tuple of 2", "CTuple(CInt 1, CInt 1)"}, {"tuple of 3", "CTuple(CInt 1, CInt 1, CInt 1)"}, {"con", `CCon "A"`}, {"con", `CApp(CCon "A", CInt 1)`}, {"ref", "CApp(CGiven -8, CInt 1)"},
	}
	for _, a := range values {
		for _, b := range values {
			used := usedBy(t, a.code) + usedBy(t, b.code)
			if a.sort == b.sort {
				if got := checkRunOf(t, `CBin "="(`+a.code+`, `+b.code+`)`); got.Kind != impl.RunValue {
					t.Errorf("%s and %s: %+v", a.code, b.code, got)
				}
				continue
			}
			for _, op := range []string{"=", "<>"} {
				isStuck(t, `CBin "`+op+`"(`+a.code+`, `+b.code+`)`, 2+used)
				isStuck(t, `CTry(CBin "`+op+`"(`+a.code+`, `+b.code+`), CRule(PWild, CInt 1))`, 3+used)
			}
			isStuck(t, `CBin "="(CTuple(CInt 1, `+a.code+`), CTuple(CInt 1, `+b.code+`))`, 1+4+used+3)
			isStuck(t, `CBin "="(CApp(CCon "A", `+a.code+`), CApp(CCon "A", `+b.code+`))`, 1+4+used+2)
			comparesTo(t, `CTuple(CInt 1, `+a.code+`)`, `CTuple(CInt 2, `+b.code+`)`, false, 2)
		}
	}
}

// Tuples of unlike sizes: their parts are not looked at, and what differs ahead of them ends it before.
func TestCompareTuplesOfUnlikeSizes(t *testing.T) {
	two, three := "CTuple(CInt 1, CInt 2)", "CTuple(CInt 1, CInt 2, CInt 3)"
	isStuck(t, `CBin "="(`+two+`, `+three+`)`, 9)
	isStuck(t, `CBin "<>"(CTuple, `+two+`)`, 6)
	isStuck(t, `CBin "="(`+two+`, CTuple(CStr "", CGiven -1, CInt 1))`, 9)
	isStuck(t, `CBin "="(CTuple(CGiven -1, CInt 2), `+three+`)`, 9)
	isStuck(t, `CBin "="(CTuple(CInt 1, `+two+`), CTuple(CInt 1, `+three+`))`, 15)
	comparesTo(t, `CTuple(CInt 1, `+two+`)`, `CTuple(CInt 2, `+three+`)`, false, 2)
	comparesTo(t, `CApp(CCon "A", `+two+`)`, `CApp(CCon "B", `+three+`)`, false, 1)
	// A constructor with a value differs from one without, whatever that is.
	comparesTo(t, `CApp(CCon "A", `+two+`)`, `CCon "A"`, false, 1)
}

func checkRunOf(t *testing.T, code string) impl.Outcome {
	t.Helper()
	c, _ := codeOf(t, code)
	return checkRun(t, c, impl.MaxFuel)
}

// Being out of fuel inside a comparison, at each of its steps.
func TestCompareFuel(t *testing.T) {
	a := `CTuple(CInt 1, CApp(CCon "A", CTuple(CStr "s", CInt 2)), CTuple)`
	c, _ := codeOf(t, `CTry(CBin "="(`+a+`, `+a+`), CRule(PWild, CInt 1))`)
	before, steps := 2+2*8, 7
	for fuel := range before + steps + 3 {
		got := checkRun(t, c, fuel)
		want := impl.Outcome{Kind: impl.RunFuel, Used: fuel}
		if fuel >= before+steps {
			want = impl.Outcome{Text: "true", Used: before + steps}
		}
		if got != want {
			t.Errorf("with %d: %+v, want %+v", fuel, got, want)
		}
	}
}

// Values with parts that are shared: a comparison uses fuel for each time that it comes to one.
func TestCompareShared(t *testing.T) {
	for deep, want := range map[int]int{1: 3, 2: 7, 10: 2047, 14: 32767} {
		code := "CInt 1"
		for range deep {
			code = "CLet 1(" + code + ", CTuple(CVar 1, CVar 1))"
		}
		used := usedBy(t, code)
		givesText(t, `CLet 2(`+code+`, CBin "="(CVar 2, CVar 2))`, "true", 1+used+3+want)
	}
	deep := strings.Repeat("CLet 1(", 40) + "CInt 1" + strings.Repeat(", CTuple(CVar 1, CVar 1))", 40)
	c, _ := codeOf(t, `CLet 2(`+deep+`, CBin "="(CVar 2, CVar 2))`)
	soon(t, "doubled values", func() {
		if got := impl.Run(c, impl.MaxFuel); got != (impl.Outcome{Kind: impl.RunFuel, Used: impl.MaxFuel}) {
			t.Errorf("%+v", got)
		}
	})
}

// patternOf has for a value that is written as a pattern the code that gives it, and for a pattern its
// names as QVars and QAs.
func patternOf(it []impl.Node, isValue bool) []impl.Node {
	root, kids := rootOf(it), [][]impl.Node{}
	for _, kid := range impl.Kids(it) {
		kids = append(kids, patternOf(kid, isValue))
	}
	switch {
	case root.Kind == impl.PType:
		return kids[0]
	case root.Kind == impl.PVar:
		return unplaced(impl.QVar, 1, "")
	case root.Kind == impl.PAs:
		return unplaced(impl.QAs, 1, "", kids[0])
	case !isValue:
		return unplaced(root.Kind, root.Num, root.Text, kids...)
	case root.Kind == impl.PInt:
		return unplaced(impl.CInt, root.Num, "")
	case root.Kind == impl.PStr:
		return unplaced(impl.CStr, 0, root.Text)
	case root.Kind == impl.PTuple:
		return unplaced(impl.CTuple, 0, "", kids...)
	case len(kids) == 1:
		return unplaced(impl.CApp, 0, "", unplaced(impl.CCon, 0, root.Text), kids[0])
	}
	return unplaced(impl.CCon, 0, root.Text)
}

// Patterns fit as in chapter 10: as Fits says.
func TestRunPatternsFit(t *testing.T) {
	fitting, apart := 0, 0
	for seed := range int64(6000) {
		d := patDrawer{drawer{rand.New(rand.NewSource(seed))}}
		p, v := d.anyPat(int(seed%4)), d.anyPat(int(seed%3)+1)
		if seed%2 == 0 {
			ty := d.matchType(2)
			p, v = d.typedPat(ty, 3), d.typedPat(ty, 4)
		}
		hasNames := false
		for _, n := range v {
			hasNames = hasNames || isOneOf(n.Kind, impl.PWild, impl.PVar, impl.PAs, impl.PType)
		}
		if hasNames {
			continue
		}
		c := ccase("Match", patternOf(v, true), crule(patternOf(p, false), unplaced(impl.CInt, 1, "")), crule(wildPat, unplaced(impl.CInt, 0, "")))
		want := "0"
		if impl.Fits(p, v) {
			want = "1"
			fitting++
		} else {
			apart++
		}
		if got := checkRun(t, c, impl.MaxFuel); got.Text != want {
			t.Fatalf("%s: %+v, want %s", codeShown(c), got, want)
		}
	}
	if fitting < 200 || apart < 200 {
		t.Errorf("%d fit, %d do not", fitting, apart)
	}
}

// Patterns of each kind against values of each kind.
func TestRunPatternKinds(t *testing.T) {
	pats := []string{"PInt 1", "PInt 2", `PStr "a"`, `PStr ""`, "PTuple", "PTuple(PInt 1, PInt 2)", "PTuple(PWild, PWild)", "PTuple(PWild, PWild, PWild)", `PCon "A"`, `PCon "A"(PInt 1)`, `PCon "A"(PWild)`, `PCon "true"`, `PCon "B"(PWild)`}
	fits := map[string][]string{
		"CInt 1": {"PInt 1"}, `CStr "a"`: {`PStr "a"`}, "CTuple": {"PTuple"}, "CTuple(CInt 1, CInt 2)": {"PTuple(PInt 1, PInt 2)", "PTuple(PWild, PWild)"}, `CTuple(CStr "a", CInt 0)`: {"PTuple(PWild, PWild)"}, `CTuple(CStr "a", CInt 0, CInt 1)`: {"PTuple(PWild, PWild, PWild)"},
		`CCon "A"`: {`PCon "A"`}, `CCon "true"`: {`PCon "true"`}, `CApp(CCon "A", CInt 1)`: {`PCon "A"(PInt 1)`, `PCon "A"(PWild)`}, `CApp(CCon "true", CTuple)`: {}, "CLam 1(CVar 1)": {}, "CGiven -1": {}, "CApp(CGiven -8, CInt 1)": {},
	}
	for c, used := range oneOfEach() {
		for _, p := range pats {
			code := `CCase "Bind"(` + c + `, CRule(` + p + `, CInt 8))`
			if isOneOf(p, fits[c]...) {
				givesText(t, code, "8", 2+used)
				givesText(t, `CCase "Bind"(`+c+`, CRule(QAs 3(`+p+`), CInt 8))`, "8", 2+used)
			} else {
				raisesText(t, code, "Bind", 1+used)
				raisesText(t, `CCase "Match"(`+c+`, CRule(QAs 3(`+p+`), CInt 8))`, "Match", 1+used)
			}
		}
		// A name and a wild fit every one, and the name is what it was.
		it, _ := codeOf(t, c)
		shown := checkRun(t, it, 50).Text
		for _, p := range []string{"QVar 3", "QAs 3(PWild)", "QAs 3(QVar 4)"} {
			givesText(t, `CCase "Match"(`+c+`, CRule(`+p+`, CVar 3))`, shown, 2+used)
		}
	}
}
