package tests

import (
	"slices"
	"strconv"
	"testing"

	"loop.example/s02665/impl"
)

// isKnown wants an answer of Known, and none that a list hangs on which is no code.
func isKnown(t *testing.T, code string, want bool) {
	t.Helper()
	c, _ := codeOf(t, code)
	if !impl.PlainForm(c) {
		t.Fatalf("%s is not in plain form", code)
	}
	if got := impl.Known(c); got != want || knownAgain(c) != want {
		t.Errorf("%s: known %v", code, got)
	}
}

// everyCode has one of each kind of plain code.
func everyCode() map[int]string {
	return map[int]string{
		impl.CVar: "CVar 1", impl.CGiven: "CGiven -1", impl.CInt: "CInt 1", impl.CStr: `CStr "a"`, impl.CCon: `CCon "A"`, impl.CTuple: "CTuple", impl.CLam: "CLam 1(CInt 1)", impl.CApp: `CApp(CCon "A", CInt 1)`,
		impl.CLet: "CLet 1(CInt 1, CInt 1)", impl.CFix: "CFix(CBnd 1(CLam 2(CInt 1)), CInt 1)", impl.CCase: `CCase "Match"(CInt 1, CRule(PWild, CInt 1))`, impl.CRaise: `CRaise(CCon "A")`,
		impl.CTry: `CTry(CInt 1, CRule(PWild, CInt 1))`, impl.CWhile: `CWhile(CCon "false", CInt 1)`, impl.CBin: `CBin "+"(CInt 1, CInt 1)`, impl.CUn: `CUn "~"(CInt 1)`,
	}
}

func TestKnownKinds(t *testing.T) {
	known := []int{impl.CInt, impl.CStr, impl.CCon, impl.CTuple, impl.CApp}
	for kind, code := range everyCode() {
		is := isOneOf(kind, known...)
		isKnown(t, code, is)
		// In a tuple, first and last; as what a constructor has; in both, and deep.
		isKnown(t, "CTuple("+code+", CInt 1)", is)
		isKnown(t, `CTuple(CInt 1, CStr "", `+code+`)`, is)
		isKnown(t, `CApp(CCon "B", `+code+`)`, is)
		isKnown(t, `CApp(CCon "B", CTuple(CTuple, CApp(CCon "::", CTuple(CInt 1, `+code+`))))`, is)
		// What stands in front is a CCon, and nothing else.
		isKnown(t, `CApp(`+code+`, CInt 1)`, kind == impl.CCon)
		isKnown(t, `CTuple(CInt 1, CApp(`+code+`, CInt 1))`, kind == impl.CCon)
	}
	for _, code := range []string{"CInt 0", "CInt -9223372036854775808", `CStr ""`, `CStr "\xff"`, `CCon ""`, `CCon "true"`, `CCon "::"`, "CTuple(CInt 1, CInt 2, CInt 3)", `CApp(CCon "A", CTuple)`, `CApp(CCon "A", CCon "B")`} {
		isKnown(t, code, true)
	}
	for given := range int64(8) {
		isKnown(t, "CGiven -"+strconv.FormatInt(given+1, 10), false)
	}
	// A CApp of a CApp.
	isKnown(t, `CApp(CApp(CCon "A", CInt 1), CInt 2)`, false)
	isKnown(t, `CApp(CCon "A", CApp(CCon "B", CInt 2))`, true)
	isKnown(t, `CApp(CCon "A", CApp(CGiven -8, CInt 2))`, false)
}

// Lists that are not in plain form are not known, whatever is in them.
func TestKnownArguments(t *testing.T) {
	for name, list := range badLists() {
		if impl.Known(list) || len(impl.Less(list)) != 0 || len(impl.Simplify(list)) != 0 {
			t.Errorf("%s: known, or there is less of it", name)
		}
	}
	for name, list := range noPlainCodes(t) {
		if impl.Known(list) || len(impl.Less(list)) != 0 || len(impl.Simplify(list)) != 0 {
			t.Errorf("%s: known, or there is less of it", name)
		}
	}
	isIn := slices.Concat(slices.Repeat(unplaced(impl.CInt, 1, ""), impl.MaxCode-1), []impl.Node{node(impl.CTuple, 0, "", impl.MaxCode-1)})
	if !impl.Known(isIn) || len(impl.Less(isIn)) != impl.MaxCode || len(impl.Simplify(isIn)) != impl.MaxCode {
		t.Error("as long as code may be")
	}
}

// noPlainCodes are lists that would be known, or less, if they were in plain form.
func noPlainCodes(t *testing.T) map[string][]impl.Node {
	out := map[string][]impl.Node{
		"nothing": {}, "nil": nil, "two codes": {node(impl.CInt, 1, "", 0), node(impl.CInt, 1, "", 0)}, "a place": {{Kind: impl.CInt, Num: 1, At: 1}}, "a number with a text": {{Kind: impl.CInt, Text: "a"}},
		"one more than code may have": slices.Concat(slices.Repeat(unplaced(impl.CInt, 1, ""), impl.MaxCode), []impl.Node{node(impl.CTuple, 0, "", impl.MaxCode)}),
		"a kid is missing":            {node(impl.CTuple, 0, "", 2)}, "too many kids": {node(impl.CInt, 1, "", 0), node(impl.CInt, 1, "", 1)}, "kids below 0": {node(impl.CInt, 1, "", -1)},
		"a pattern": unplaced(impl.PInt, 1, ""), "an exp": unplaced(impl.EInt, 1, ""), "no kind": {{}}, "a program": resolved(t, "val x = 1"),
	}
	for _, code := range []string{
		// With types in it.
		`CCon "A"(int)`, `CTuple(CInt 1, CCon "A"(int))`, `CApp(CCon "A"(int), CInt 1)`, "CGiven -8(int)", "CLam 1(int, CInt 1)", "CLet 1(int, CInt 1, CInt 2)", "CAll 1(CInt 1)", "CInst(CInt 1, int)", `CRaise(int, CCon "A")`,
		`CCase "Match"(CInt 1, CRule(QVar 1(int), CInt 2))`, "CFix(CBnd 1([int, int], CLam 2(int, CInt 1)), CInt 1)", "int",
		// Numbers that nobody has.
		"CLet 0(CInt 1, CInt 2)", "CLet -1(CInt 1, CInt 2)", "CVar 0", "CVar -1", "CApp(CLam 0(CInt 1), CInt 2)", `CCase "Match"(CInt 1, CRule(QVar 0, CInt 2))`, `CCase "Match"(CInt 1, CRule(QAs -5(PWild), CInt 2))`, "CFix(CBnd 0(CLam 2(CInt 1)), CInt 1)",
		// Kids and texts that do not fit.
		"CTuple(CInt 1)", "CTuple(PWild, PWild)", `CCase "Match"(CInt 1)`, `CCase "Other"(CInt 1, CRule(PWild, CInt 2))`, `CCase "Match"(CInt 1, CInt 2)`, `CBin "!"(CInt 1, CInt 2)`, `CBin "+"(CInt 1)`, `CUn "-"(CInt 1)`, "CRule(PWild, CInt 1)", "CBnd 1(CLam 2(CInt 1))", "CLet 1(CInt 1)",
		`CTuple 1`, `CTuple "a"`, "CGiven -9", "CGiven 0",
	} {
		out[code], _ = codeOf(t, code)
	}
	return out
}
