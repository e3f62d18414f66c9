package tests

import (
	"math"
	"strconv"
	"strings"
	"testing"

	"loop.example/s02665/impl"
)

const runFront = "datatype 'a opt = None | Some of 'a datatype t = A | B of bool * t | C exception Stop of int "

// programEnds wants of a program that it ends so, and promises 14 and 17 of it.
func programEnds(t *testing.T, src string, want impl.Outcome) {
	t.Helper()
	program := resolved(t, src)
	keepsPromise14(t, program)
	if got := checkEnd(t, checkDesugar(t, program)); got != want {
		t.Errorf("%s\n%s\nwant %s", src, outcomeShown(got), outcomeShown(want))
	}
}

func expGives(t *testing.T, exp string, text string, used int) {
	t.Helper()
	programEnds(t, runFront+"val x = "+exp, impl.Outcome{Kind: impl.RunValue, Text: "((), " + text + ")", Used: used})
}

func expRaises(t *testing.T, exp string, text string, used int) {
	t.Helper()
	programEnds(t, runFront+"val x = "+exp, impl.Outcome{Kind: impl.RunRaise, Text: text, Used: used})
}

func TestRunExamples(t *testing.T) {
	expGives(t, "~7 / 2", "~3", 7)
	expGives(t, "~7 % 2", "~1", 7)
	expGives(t, "(~7 / 2, ~7 % 2)", "(~3, ~1)", 11)
	expGives(t, "(nil, [nil], Some [1], Some ~1, Some (Some 1))", "([], [[]], Some [1], Some (~1), Some (Some 1))", 26)
	expGives(t, "(B (true, A), fn x => x, ref 1, print, op ::)", "(B (true, A), fn, ref, fn, op ::)", 16)
	expGives(t, "(raise Stop 3) handle Div => 1 | Stop n => n + 1", "4", 12)
	expRaises(t, "(fn 1 => 1) 2", "Match", 6)
	expRaises(t, "let val [y] = [1, 2] in y end", "Bind", 11)
	expGives(t, "1 + 2", "3", 7)
	expGives(t, "(1, 2) = (1, 3)", "false", 14)
	programEnds(t, "", impl.Outcome{Text: "()", Used: 1})
	programEnds(t, "val x = print \"ab\" val y = print \"c\"", impl.Outcome{Text: "((), (), ())", Out: "abc", Used: 12})
}

func TestRunConstants(t *testing.T) {
	got := []int{impl.MaxFuel, impl.MaxOut, impl.MaxShow, impl.RunValue, impl.RunRaise, impl.RunFuel, impl.RunStuck, impl.RunArgs}
	want := []int{100000, 5000, 300, 0, 1, 2, 3, 4}
	for i := range want {
		if got[i] != want[i] {
			t.Errorf("constant %d is %d, want %d", i, got[i], want[i])
		}
	}
}

// RunArgs, and all else zero: code that is not plain, and fuel that is not from 0 to MaxFuel.
func TestRunArguments(t *testing.T) {
	args := impl.Outcome{Kind: impl.RunArgs}
	one := unplaced(impl.CInt, 1, "")
	noisy, _ := codeOf(t, `CApp(CGiven -1, CStr "a")`)
	for _, fuel := range []int{-1, -2, impl.MaxFuel + 1, impl.MaxFuel + 2, math.MaxInt, math.MinInt} {
		for _, c := range [][]impl.Node{one, noisy, nil} {
			if got := impl.Run(c, fuel); got != args {
				t.Errorf("with %d: %+v", fuel, got)
			}
		}
	}
	placed := unplaced(impl.CInt, 1, "")
	placed[0].At = 1
	for name, c := range map[string][]impl.Node{
		"nil": nil, "empty": {}, "a type": intType, "a pattern": wildPat, "a rule": crule(wildPat, one), "a program": resolved(t, "val x = 1"), "code with types": unplaced(impl.CLam, 1, "", intType, one), "a CAll": unplaced(impl.CAll, 1, "", one), "a CInst": insts(one, intType),
		"a place": placed, "two": append(one, one...), "types of a con": unplaced(impl.CCon, 0, "nil", intType),
	} {
		for _, fuel := range []int{-1, 0, 1, 50, impl.MaxFuel} {
			if got := impl.Run(c, fuel); got != args {
				t.Errorf("%s with %d: %+v", name, fuel, got)
			}
		}
	}
	for _, fuel := range []int{1, 2, impl.MaxFuel - 1, impl.MaxFuel} {
		if got := impl.Run(one, fuel); got != (impl.Outcome{Text: "1", Used: 1}) {
			t.Errorf("with %d: %+v", fuel, got)
		}
	}
	if got := impl.Run(noisy, 0); got != (impl.Outcome{Kind: impl.RunFuel}) {
		t.Errorf("with no fuel: %+v", got)
	}
}

// What each kind of code gives and uses.
func TestRunKinds(t *testing.T) {
	givesText(t, "CInt 5", "5", 1)
	givesText(t, "CInt -9223372036854775808", "~9223372036854775808", 1)
	givesText(t, `CStr "a b"`, `"a b"`, 1)
	givesText(t, `CCon "A"`, "A", 1)
	givesText(t, "CTuple", "()", 1)
	givesText(t, "CTuple(CInt 1, CTuple, CTuple(CInt 2, CInt 3))", "(1, (), (2, 3))", 6)
	for num := -8; num <= -1; num++ {
		givesText(t, "CGiven "+strconv.Itoa(num), "fn", 1)
	}
	givesText(t, "CLam 1(CVar 9)", "fn", 1)
	givesText(t, "CApp(CLam 1(CVar 1), CInt 2)", "2", 4)
	givesText(t, "CApp(CApp(CLam 1(CLam 2(CTuple(CVar 1, CVar 2))), CInt 3), CInt 4)", "(3, 4)", 9)
	givesText(t, `CApp(CCon "A", CInt 2)`, "A 2", 3)
	givesText(t, "CLet 1(CInt 5, CVar 1)", "5", 3)
	givesText(t, "CFix(CBnd 1(CLam 2(CVar 2)), CVar 1)", "fn", 2)
	givesText(t, "CFix(CBnd 1(CLam 2(CVar 2)), CBnd 3(CLam 4(CApp(CVar 1, CVar 4))), CApp(CVar 3, CInt 7))", "7", 8)
	givesText(t, `CCase "Match"(CInt 1, CRule(PWild, CInt 2))`, "2", 3)
	givesText(t, `CCase "Match"(CInt 3, CRule(PInt 1, CInt 2), CRule(QVar 1, CVar 1), CRule(PWild, CVar 9))`, "3", 3)
	raisesText(t, `CCase "Match"(CInt 3, CRule(PInt 1, CInt 2))`, "Match", 2)
	raisesText(t, `CCase "Bind"(CInt 3, CRule(PInt 1, CInt 2), CRule(PStr "", CInt 2))`, "Bind", 2)
	raisesText(t, `CRaise(CCon "Div")`, "Div", 2)
	raisesText(t, `CRaise(CApp(CCon "Stop", CInt -3))`, "Stop (~3)", 4)
	raisesText(t, `CRaise(CCon "true")`, "true", 2)
	raisesText(t, `CRaise(CApp(CCon "::", CTuple(CInt 1, CCon "nil")))`, "[1]", 6)
	givesText(t, "CTry(CInt 1, CRule(PWild, CInt 2))", "1", 2)
	givesText(t, `CTry(CRaise(CCon "Div"), CRule(PWild, CInt 2))`, "2", 4)
	givesText(t, `CWhile(CCon "false", CVar 9)`, "()", 2)
	givesText(t, `CBin "+"(CInt 1, CInt 2)`, "3", 3)
	givesText(t, `CUn "~"(CInt 1)`, "~1", 2)
	givesText(t, `CUn "!"(CApp(CGiven -8, CInt 1))`, "1", 4)
}

// Where each kind of code is stuck, and what it has used by then.
func TestRunStuck(t *testing.T) {
	isStuck(t, "CVar 1", 1)
	isStuck(t, "CTuple(CInt 1, CVar 1, CInt 2)", 3)
	isStuck(t, "CLet 1(CVar 1, CInt 1)", 2)
	isStuck(t, `CRaise(CInt 1)`, 2)
	for _, c := range []string{"CStr \"Div\"", "CLam 1(CVar 1)", "CGiven -1"} {
		isStuck(t, "CRaise("+c+")", 2)
		isStuck(t, "CTry(CRaise("+c+"), CRule(PWild, CInt 1))", 3)
	}
	isStuck(t, "CRaise(CTuple(CCon \"Div\", CCon \"Div\"))", 4)
	isStuck(t, "CRaise(CApp(CGiven -8, CCon \"Div\"))", 4)
	// A CBnd whose code is no CLam: nothing of it is evaluated, nor what is behind.
	for _, c := range []string{"CInt 1", "CVar 2", "CCon \"A\"", "CGiven -1", "CTuple", "CLet 3(CInt 1, CLam 4(CVar 4))", "CApp(CGiven -1, CStr \"a\")", "CRaise(CCon \"Div\")"} {
		isStuck(t, "CFix(CBnd 1("+c+"), CInt 1)", 1)
		isStuck(t, "CFix(CBnd 1(CLam 2(CVar 2)), CBnd 3("+c+"), CApp(CGiven -1, CStr \"a\"))", 1)
		isStuck(t, "CFix(CBnd 3("+c+"), CBnd 1(CLam 2(CVar 2)), CBnd 3(CLam 2(CVar 2)), CInt 1)", 1)
		isStuck(t, "CTry(CFix(CBnd 1("+c+"), CInt 1), CRule(PWild, CInt 1))", 2)
		// It is stuck when it is evaluated, not before.
		givesText(t, "CLam 5(CFix(CBnd 1("+c+"), CInt 1))", "fn", 1)
		raisesText(t, "CTuple(CRaise(CCon \"E\"), CFix(CBnd 1("+c+"), CInt 1))", "E", 3)
	}
}

// CApp with each kind of value in front. Both kids are evaluated before it is looked at.
func TestRunApplied(t *testing.T) {
	values := map[string]int{"CInt 1": 1, `CStr "a"`: 1, "CTuple": 1, "CTuple(CGiven -1, CGiven -1)": 3, `CApp(CCon "A", CInt 1)`: 3, `CApp(CCon "A", CTuple)`: 3, "CApp(CGiven -8, CLam 1(CVar 1))": 3, `CApp(CCon "::", CTuple(CInt 1, CCon "nil"))`: 5}
	for c, used := range values {
		isStuck(t, "CApp("+c+", CInt 1)", 2+used)
		isStuck(t, "CTry(CApp("+c+", CInt 1), CRule(PWild, CInt 1))", 3+used)
		raisesText(t, "CApp("+c+", CRaise(CCon \"Div\"))", "Div", 3+used)
		// A closure and a constructor take whatever it is.
		it, _ := codeOf(t, c)
		shown := checkRun(t, it, 50).Text
		givesText(t, "CApp(CLam 1(CVar 1), "+c+")", shown, 3+used)
		inside := shown
		if shown == "A 1" || shown == "A ()" {
			inside = "(" + shown + ")"
		}
		givesText(t, "CApp(CCon \"B\", "+c+")", "B "+inside, 2+used)
		givesText(t, "CApp(CGiven -8, "+c+")", "ref", 2+used)
	}
	isStuck(t, "CApp(CLam 1(CInt 4), CVar 2)", 3)
}

// Loops for ever, and prints first.
const forEver = `CFix(CBnd 70(CLam 71(CApp(CVar 70, CVar 71))), CApp(CVar 70, CInt 1))`

func printing(text string, c string) string {
	return `CCase "Match"(CApp(CGiven -1, CStr ` + strconv.Quote(text) + `), CRule(PWild, ` + c + `))`
}

// holed is code with a "$" for each kid that is evaluated, in order, and what may stand there.
type holed struct {
	code  string
	fills []string
}

func holedCodes() []holed {
	out := []holed{
		{"CTuple($, $, $)", []string{"CInt 1", "CStr \"\"", "CTuple"}},
		{"CApp($, $)", []string{"CLam 9(CVar 9)", "CInt 2"}}, {"CApp($, $)", []string{"CCon \"A\"", "CInt 2"}}, {"CApp($, $)", []string{"CGiven -2", "CStr \"abc\""}},
		{"CApp(CLam 9($), CInt 1)", []string{"CVar 9"}}, {"CLet 9($, $)", []string{"CInt 1", "CVar 9"}}, {"CFix(CBnd 9(CLam 8(CVar 8)), $)", []string{"CApp(CVar 9, CInt 1)"}},
		{"CFix(CBnd 9(CLam 8($)), CApp(CVar 9, CInt 1))", []string{"CVar 8"}},
		{"CCase \"Match\"($, CRule(PWild, $))", []string{"CInt 1", "CInt 2"}}, {"CCase \"Bind\"($, CRule(PInt 7, CVar 99), CRule(QVar 9, $), CRule(PWild, CVar 99))", []string{"CInt 1", "CVar 9"}},
		{"CTry($, CRule(PCon \"Other\", CVar 99))", []string{"CInt 1"}}, {"CTry(CRaise($), CRule(PCon \"Other\", CVar 99), CRule(PCon \"E\"(QVar 9), $))", []string{"CApp(CCon \"E\", CInt 1)", "CVar 9"}},
		{"CTry(CRaise(CCon \"E\"), CRule(PWild, $))", []string{"CInt 1"}}, {"CWhile($, CVar 99)", []string{"CCon \"false\""}},
		{"CUn \"~\"($)", []string{"CInt 1"}}, {"CUn \"!\"($)", []string{"CApp(CGiven -8, CInt 1)"}},
		{"CBin \"=\"($, $)", []string{"CTuple(CInt 1, CInt 2)", "CTuple(CInt 1, CInt 2)"}}, {"CBin \"<>\"($, $)", []string{"CCon \"A\"", "CCon \"B\""}}, {"CBin \":=\"($, $)", []string{"CApp(CGiven -8, CInt 1)", "CInt 1"}}, {"CBin \"^\"($, $)", []string{"CStr \"a\"", "CStr \"b\""}},
	}
	for _, op := range strings.Fields("< <= > >= + - * / %") {
		out = append(out, holed{"CBin \"" + op + "\"($, $)", []string{"CInt 7", "CInt 2"}})
	}
	return out
}

// filled puts codes in for the holes.
func (h holed) filled(codes []string) string {
	out := h.code
	for _, c := range codes {
		out = strings.Replace(out, "$", c, 1)
	}
	return out
}

// Kids from the left: each prints, and the one that raises, is stuck or out of fuel ends what is
// around it.
func TestRunKidsFromTheLeft(t *testing.T) {
	troubles := map[string]impl.Outcome{`CRaise(CCon "Div")`: {Kind: impl.RunRaise, Text: "Div"}, "CVar 99": {Kind: impl.RunStuck}, forEver: {Kind: impl.RunFuel, Used: impl.MaxFuel}}
	for _, h := range holedCodes() {
		codes := []string{}
		for k, fill := range h.fills {
			codes = append(codes, printing(strconv.Itoa(k+1), fill))
		}
		c, _ := codeOf(t, h.filled(codes))
		all := checkEnd(t, c)
		if all.Kind != impl.RunValue || all.Out != "123"[:len(codes)] {
			t.Errorf("%s: %+v", h.code, all)
		}
		for k, fill := range h.fills {
			for trouble, want := range troubles {
				codes[k] = printing(strconv.Itoa(k+1), trouble)
				want.Out = "123"[:k+1]
				endsLike(t, h.filled(codes), want)
				// Around it a CTry, which takes what raises and nothing else.
				caught := want
				if want.Kind == impl.RunRaise {
					caught.Kind, caught.Text = impl.RunValue, "77"
				}
				endsLike(t, "CTry("+h.filled(codes)+", CRule(PCon \"Div\", CInt 77))", caught)
				endsLike(t, "CTuple(CTry("+h.filled(codes)+", CRule(PCon \"Sub\", CInt 77)), "+printing("4", "CInt 1")+")", want)
				// In a function that is called from there.
				endsLike(t, "CLet 60(CLam 61("+h.filled(codes)+"), CTry(CApp(CVar 60, CInt 1), CRule(PCon \"Div\", CInt 77)))", caught)
			}
			codes[k] = printing(strconv.Itoa(k+1), fill)
		}
	}
}

// endsLike wants all but how much fuel is used, unless it is all.
func endsLike(t *testing.T, code string, want impl.Outcome) {
	t.Helper()
	c, _ := codeOf(t, code)
	got := checkEnd(t, c)
	if want.Kind != impl.RunFuel {
		want.Used = got.Used
	}
	if got != want {
		t.Errorf("%s\n%s\nwant %s", code, outcomeShown(got), outcomeShown(want))
	}
}

// What raises ends at the innermost CTry whose rules fit.
func TestRunTries(t *testing.T) {
	raise := func(name string) string { return `CRaise(CCon "` + name + `")` }
	try := func(c string, rules ...string) string { return "CTry(" + c + ", " + strings.Join(rules, ", ") + ")" }
	rule := func(name string, c string) string { return `CRule(PCon "` + name + `", ` + c + `)` }
	givesText(t, try(try(raise("A"), rule("A", "CInt 1")), rule("A", "CInt 2")), "1", 5)
	givesText(t, try(try(raise("A"), rule("B", "CInt 1")), rule("A", "CInt 2")), "2", 5)
	raisesText(t, try(try(raise("A"), rule("B", "CInt 1")), rule("C", "CInt 2")), "A", 4)
	givesText(t, try(try(try(raise("A"), rule("B", "CInt 1")), rule("C", "CInt 2")), rule("A", "CInt 3")), "3", 6)
	// Rules in their order, the first that fits.
	givesText(t, try(raise("A"), rule("B", "CInt 1"), rule("A", "CInt 2"), rule("A", "CInt 3")), "2", 4)
	givesText(t, try(raise("A"), "CRule(PWild, CInt 1)", rule("A", "CInt 2")), "1", 4)
	// A rule is outside its own CTry.
	raisesText(t, try(raise("A"), rule("A", raise("A"))), "A", 5)
	raisesText(t, try(raise("A"), rule("A", raise("B")), rule("B", "CInt 1")), "B", 5)
	givesText(t, try(try(raise("A"), rule("A", raise("B"))), rule("B", "CInt 1")), "1", 7)
	givesText(t, try(try(raise("A"), "CRule(QVar 1, CRaise(CVar 1))"), rule("A", "CInt 1")), "1", 7)
	// What it has is a value, whatever it was raised with.
	givesText(t, `CTry(CRaise(CApp(CCon "A", CTuple(CInt 1, CStr "s"))), CRule(PCon "A"(PTuple(QVar 1, QVar 2)), CTuple(CVar 2, CVar 1)))`, `("s", 1)`, 10)
	givesText(t, `CTry(CRaise(CCon "A"), CRule(PInt 1, CInt 1), CRule(PStr "A", CInt 2), CRule(PTuple, CInt 3), CRule(PCon "A"(PWild), CInt 4), CRule(PCon "A", CInt 5))`, "5", 4)
	// Nothing is raised: the rules are not looked at.
	givesText(t, try(`CCon "A"`, rule("A", "CInt 1")), "A", 2)
	// A CTry ends with its code: what is raised behind it goes by.
	raisesText(t, "CLet 1("+try("CInt 1", "CRule(PWild, CInt 2)")+", "+raise("A")+")", "A", 5)
	raisesText(t, "CApp("+try("CLam 1("+raise("A")+")", "CRule(PWild, CInt 2)")+", CInt 1)", "A", 6)
	// A function raises where it is called, not where it was made.
	givesText(t, "CLet 1(CLam 2("+raise("A")+"), CTry(CApp(CVar 1, CInt 1), CRule(PWild, CInt 3)))", "3", 9)
	raisesText(t, "CLet 1(CTry(CLam 2("+raise("A")+"), CRule(PWild, CInt 3)), CApp(CVar 1, CInt 1))", "A", 8)
	// Names of a rule of a CTry, and those around it.
	givesText(t, `CLet 1(CInt 5, CTry(CLet 1(CInt 6, CRaise(CCon "A")), CRule(PWild, CVar 1)))`, "5", 8)
	givesText(t, `CLet 1(CInt 5, CTry(CRaise(CCon "A"), CRule(QVar 1, CVar 1)))`, "A", 6)
	givesText(t, `CLet 1(CInt 5, CTry(CRaise(CCon "A"), CRule(PCon "B"(QVar 1), CInt 0), CRule(PCon "A", CVar 1)))`, "5", 6)
	// What was done before it raised is done.
	givesText(t, `CLet 1(CApp(CGiven -8, CInt 1), CTry(CTuple(CBin ":="(CVar 1, CInt 2), CRaise(CCon "A")), CRule(PWild, CUn "!"(CVar 1))))`, "2", 13)
	// Exceptions that operators and given functions raise.
	for _, c := range [][2]string{
		{`CBin "/"(CInt 1, CInt 0)`, "Div"}, {`CBin "%"(CInt 1, CInt 0)`, "Div"}, {`CApp(CGiven -5, CInt 256)`, "Chr"}, {`CApp(CGiven -3, CTuple(CStr "", CInt 0))`, "Subscript"}, {`CBin "="(CGiven -1, CGiven -1)`, "Equal"}, {`CCase "Match"(CInt 1, CRule(PInt 2, CInt 1))`, "Match"},
		{`CCase "Bind"(CInt 1, CRule(PInt 2, CInt 1))`, "Bind"}, {`CBin "^"(CStr "` + strings.Repeat("a", impl.MaxString) + `", CStr "b")`, "Size"},
	} {
		endsLike(t, try(c[0], "CRule(QVar 1, CVar 1)"), impl.Outcome{Text: c[1]})
		endsLike(t, try(c[0], rule("Other", "CVar 99"), rule(c[1], "CInt 3")), impl.Outcome{Text: "3"})
		endsLike(t, try(c[0], rule("Other", "CVar 99")), impl.Outcome{Kind: impl.RunRaise, Text: c[1]})
	}
}

func TestRunWhile(t *testing.T) {
	counting := func(test string, body string) string {
		return `CLet 1(CApp(CGiven -8, CInt 0), CLet 2(CWhile(` + test + `, ` + body + `), CTuple(CVar 2, CUn "!"(CVar 1))))`
	}
	less := `CBin "<"(CUn "!"(CVar 1), CInt 3)`
	more := `CBin ":="(CVar 1, CBin "+"(CUn "!"(CVar 1), CInt 1))`
	// CLet, ref 0, CLet and the CWhile once; four tests, three bodies; the tuple.
	givesText(t, counting(less, more), "((), 3)", 1+3+1+1+4*4+3*6+4)
	endsAs(t, counting(less, printing("x", more)), impl.Outcome{Text: "((), 3)", Out: "xxx", Used: 1 + 3 + 1 + 1 + 4*4 + 3*10 + 4})
	endsAs(t, counting(printing("t", less), more), impl.Outcome{Text: "((), 3)", Out: "tttt", Used: 1 + 3 + 1 + 1 + 4*8 + 3*6 + 4})
	// A test that is no bool, at once and later. With a value, true is not true.
	for _, test := range []string{"CInt 1", "CInt 0", "CTuple", `CStr "true"`, "CLam 1(CVar 1)", "CGiven -7", `CCon "True"`, `CCon "nil"`} {
		isStuck(t, "CWhile("+test+", CVar 9)", 2)
	}
	isStuck(t, `CWhile(CApp(CCon "true", CInt 1), CVar 9)`, 4)
	isStuck(t, `CWhile(CApp(CCon "false", CTuple), CVar 9)`, 4)
	isStuck(t, `CWhile(CApp(CGiven -8, CCon "true"), CVar 9)`, 4)
	isStuck(t, `CLet 1(CApp(CGiven -8, CCon "true"), CWhile(CUn "!"(CVar 1), CBin ":="(CVar 1, CInt 1)))`, 1+3+1+2+3+2)
	// What the second gives does not matter.
	givesText(t, `CLet 1(CApp(CGiven -8, CCon "true"), CWhile(CUn "!"(CVar 1), CCase "Match"(CBin ":="(CVar 1, CCon "false"), CRule(PWild, CInt 8))))`, "()", 1+3+1+2+5+2)
	// Raising, being stuck and out of fuel in both kids, the first and a later time.
	for trouble, want := range map[string]impl.Outcome{`CRaise(CCon "E")`: {Kind: impl.RunRaise, Text: "E"}, "CVar 99": {Kind: impl.RunStuck}, forEver: {Kind: impl.RunFuel, Used: impl.MaxFuel}} {
		second := `CCase "Match"(CUn "!"(CVar 1), CRule(PInt 1, ` + trouble + `), CRule(PWild, $))`
		for _, c := range []struct{ test, body, out string }{
			{printing("t", trouble), more, "t"}, {printing("t", less), printing("b", trouble), "tb"},
			{printing("t", strings.ReplaceAll(second, "$", less)), printing("b", more), "tbt"}, {printing("t", less), printing("b", strings.ReplaceAll(second, "$", more)), "tbtb"},
		} {
			want.Out = c.out
			endsLike(t, counting(c.test, c.body), want)
		}
	}
	// For ever: the CWhile uses nothing but what its kids use.
	c, _ := codeOf(t, `CWhile(CCon "true", CTuple)`)
	for _, fuel := range []int{0, 1, 2, 3, 4, 99, impl.MaxFuel} {
		if got := checkRun(t, c, fuel); got != (impl.Outcome{Kind: impl.RunFuel, Used: fuel}) {
			t.Errorf("with %d: %+v", fuel, got)
		}
	}
}
