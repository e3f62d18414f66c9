package tests

import (
	"slices"
	"strings"
	"testing"

	"loop.example/s02665/impl"
)

const checkedFront = `datatype 'a opt = None | Some of 'a datatype ('a, 'b) two = Two of 'b * 'a | Neither
	exception E exception F of int type 'a pair = 'a * 'a type s = int datatype t = A | B of t
	datatype 'a nest = Nil | Nest of ('a * 'a) nest datatype 'a fan = Fan of 'a -> 'a fan | Box of 'a`

// typeIsShown wants a type for code, both as they are shown.
func typeIsShown(t *testing.T, code string, want string) {
	t.Helper()
	program := resolved(t, checkedFront)
	c, _ := codeOf(t, code)
	ty, got, node := checkType(t, program, c)
	if wanted, _ := codeOf(t, want); got != impl.CkOk || node != 0 || !slices.Equal(ty, wanted) {
		t.Errorf("%s\nhas %s, code %d at node %d; want %s", code, codeShown(ty), got, node, want)
	}
}

// failsShown wants a code at the marked node, and nothing beside it.
func failsShown(t *testing.T, code int, shown string) {
	t.Helper()
	program := resolved(t, checkedFront)
	c, marked := codeOf(t, shown)
	ty, got, node := checkType(t, program, c)
	if got != code || node != marked || len(ty) > 0 {
		t.Errorf("%s\nhas %s, code %d at node %d; want %d at %d", shown, codeShown(ty), got, node, code, marked)
	}
}

// The examples of the document.
func TestTypeOfExamples(t *testing.T) {
	k := "CAll 5(CAll 3(CLam 1(#5, CLam 2(#3, CVar 1))))"
	typeIsShown(t, k, "TAll -1(TAll -2([#-1, [#-2, #-1]]))")
	typeIsShown(t, "CInst("+k+", int)", "TAll -1([int, [#-1, int]])")
	failsShown(t, impl.CkValue, "CAll 1(CApp(CLam 1(int, CVar 1), CInt 1))!")
	failsShown(t, impl.CkClash, "CLet 1(bool, CInt 1, CVar 1)!")
	failsShown(t, impl.CkClash, "CTuple(CInt 1, CAll 1(CLam 1(#1, CVar 1)))!")
}

func TestTypeOfVariables(t *testing.T) {
	for _, c := range [][2]string{
		{"CLam 1(int, CVar 1)", "[int, int]"},
		{"CLam 9223372036854775807(int, CVar 9223372036854775807)", "[int, int]"},
		{"CLam 1(int, CLam 1(bool, CVar 1))", "[int, [bool, bool]]"},
		{"CLam 1(int, CLam 2(bool, CTuple(CVar 2, CVar 1)))", "[int, [bool, (bool, int)]]"},
		{"CLam 1(int, CTuple(CLam 1(bool, CVar 1), CVar 1))", "[int, ([bool, bool], int)]"},
		{"CLet 1(int, CInt 1, CVar 1)", "int"},
		{"CLam 1(bool, CLet 1(int, CInt 1, CVar 1))", "[bool, int]"},
		{"CLam 1(bool, CLet 1(bool, CVar 1, CVar 1))", "[bool, bool]"},
		{"CLet 1(int, CInt 1, CLet 1(string, CStr \"\", CVar 1))", "string"},
		{"CLet 1(int, CInt 1, CTuple(CLet 1(string, CStr \"\", CVar 1), CVar 1))", "(string, int)"},
		{"CLam 1(bool, CLet 1([int, bool], CLam 2(int, CVar 1), CApp(CVar 1, CInt 2)))", "[bool, bool]"},
		{"CFix(CBnd 1([int, bool], CLam 2(int, CApp(CVar 1, CVar 2))), CVar 1)", "[int, bool]"},
		{"CFix(CBnd 1([int, bool], CLam 1(int, CCase \"Match\"(CVar 1, CRule(PInt 2, CCon \"true\")))), CVar 1)", "[int, bool]"},
		{"CFix(CBnd 1([int, int], CLam 3(int, CApp(CVar 2, CVar 1))), CBnd 2([[int, int], int], CLam 3([int, int], CApp(CVar 1, CApp(CVar 2, CVar 3)))), CTuple(CVar 1, CVar 2))", "([int, int], [[int, int], int])"},
		{"CFix(CBnd 1([int, int], CLam 2(int, CVar 2)), CBnd 1([bool, bool], CLam 2(bool, CVar 2)), CVar 1)", "[bool, bool]"},
		{"CFix(CBnd 1([int, int], CLam 2(int, CCase \"Match\"(CApp(CVar 1, CCon \"true\"), CRule(PCon \"true\", CInt 1)))), CBnd 1([bool, bool], CLam 2(bool, CApp(CVar 1, CVar 2))), CInt 1)", "int"},
		{"CFix(CBnd 1([int, int], CLam 2(int, CVar 2)), CBnd 3([bool, bool], CLam 2(bool, CVar 2)), CBnd 1([string, string], CLam 2(string, CVar 2)), CTuple(CVar 1, CVar 3))", "([string, string], [bool, bool])"},
		{"CCase \"Match\"(CInt 1, CRule(QVar 1(int), CVar 1))", "int"},
		{"CLam 1(bool, CCase \"Match\"(CTuple(CVar 1, CInt 1), CRule(PTuple(PWild, QVar 1(int)), CVar 1)))", "[bool, int]"},
		{"CLam 1(bool, CTuple(CCase \"Match\"(CInt 1, CRule(QVar 1(int), CVar 1)), CVar 1))", "[bool, (int, bool)]"},
		{"CLam 1(bool, CCase \"Match\"(CInt 1, CRule(QVar 1(int), CVar 1), CRule(PWild, CInt 2)))", "[bool, int]"},
		{"CLam 1(int, CCase \"Match\"(CStr \"\", CRule(QVar 1(string), CInt 1), CRule(PWild, CVar 1)))", "[int, int]"},
		{"CCase \"Bind\"(CTuple(CInt 1, CStr \"\"), CRule(PTuple(QVar 1(int), QVar 1(string)), CVar 1))", "string"},
		{"CCase \"Bind\"(CTuple(CInt 1, CStr \"\"), CRule(QAs 1((int, string), PTuple(QVar 1(int), PWild)), CVar 1))", "int"},
		{"CCase \"Bind\"(CTuple(CInt 1, CStr \"\"), CRule(QAs 1((int, string), PTuple(QVar 2(int), PWild)), CTuple(CVar 1, CVar 2)))", "((int, string), int)"},
		{"CCase \"Bind\"(CTuple(CInt 1, CStr \"\"), CRule(PTuple(QAs 1(int, QVar 2(int)), QVar 1(string)), CTuple(CVar 2, CVar 1)))", "(int, string)"},
		{"CCase \"Bind\"(CTuple(CInt 1, CStr \"\"), CRule(PTuple(QVar 1(int), QAs 2(string, QAs 1(string, PWild))), CVar 1))", "string"},
		{"CTry(CInt 1, CRule(PCon \"F\"(QVar 1(int)), CVar 1))", "int"},
		{"CTry(CCon \"Div\", CRule(QVar 1(exn), CVar 1))", "exn"},
	} {
		typeIsShown(t, c[0], c[1])
	}
	for _, c := range []string{
		"CVar 1!",
		"CLam 1(int, CVar 2!)",
		"CTuple(CLam 1(int, CVar 1), CVar 1!)",
		"CTuple(CVar 1!, CLam 1(int, CVar 1))",
		"CApp(CLam 1(int, CVar 1), CVar 1!)",
		"CLet 1(int, CVar 1!, CVar 1)",
		"CTuple(CLet 1(int, CInt 1, CVar 1), CVar 1!)",
		"CTuple(CFix(CBnd 1([int, int], CLam 2(int, CVar 2)), CVar 1), CVar 1!)",
		"CFix(CBnd 1([int, int], CLam 2(int, CVar 2)), CVar 2!)",
		"CFix(CBnd 1([int, int], CLam 2(int, CVar 3!)), CVar 3)",
		"CCase \"Match\"(CVar 1!, CRule(QVar 1(int), CVar 1))",
		"CTuple(CCase \"Match\"(CInt 1, CRule(QVar 1(int), CVar 1)), CVar 1!)",
		"CCase \"Match\"(CInt 1, CRule(QVar 1(int), CVar 1), CRule(QVar 2(int), CVar 1!))",
		"CCase \"Match\"(CInt 1, CRule(QVar 1(int), CVar 2!), CRule(QVar 2(int), CVar 1))",
		"CCase \"Match\"(CInt 1, CRule(QAs 1(int, PWild), CVar 1), CRule(PWild, CVar 1!))",
		"CTry(CVar 1!, CRule(QVar 1(exn), CVar 1))",
		"CTry(CInt 1, CRule(QVar 1(exn), CInt 1), CRule(PWild, CVar 1!))",
		"CAll 1(CVar 1!)",
		"CInst(CVar 1!, int)",
	} {
		failsShown(t, impl.CkVar, c)
	}
}

// Each place where a type is written, with $ for it.
func typedPlaces() []string {
	return []string{
		"CLam 1($, CInt 1)", "CGiven -8($)", "CCon \"None\"($)", "CCon \"Two\"(int, $)", "CCon \"Two\"($, int)", "CInst(CAll 99(CInt 1), $)", "CRaise($, CCon \"Div\")",
		"CLam 1(int, CLam 2($, CVar 2))", "CTuple(CInt 1, CLam 1($, CVar 1))",
	}
}

// Each place where a scheme is written.
func schemePlaces() []string {
	return []string{"CLet 1($, CInt 1, CInt 1)", "CFix(CBnd 1($, CLam 2(int, CInt 1)), CInt 1)", "CFix(CBnd 2([int, int], CLam 2(int, CInt 1)), CBnd 1($, CLam 2(int, CInt 1)), CInt 1)"}
}

func TestTypeOfWrittenTypes(t *testing.T) {
	right := []string{"int", "string", "exn", "bool", "list(int)", "ref(bool)", "()", "(int, bool)", "[int, bool]", "t", "opt(t)", "two(int, bool)", "nest(nest(int))", "list([(int, two(opt(t), ref(exn))), ()])"}
	scope := []string{"#1!", "list(#1)!", "[int, #2]!", "[#1, int]!", "(int, int, #3)!", "two(int, #1)!", "list(list(list(#1)))!"}
	none := []string{"list!", "int(int)!", "list(int, int)!", "ref!", "u!", "unit!", "pair(int)!", "pair!", "s!", "s(int)!", "opt!", "opt(int, int)!", "two(int)!", "two(int, int, int)!", "t(int)!", "Some(int)!",
		"[int, u]!", "[u, int]!", "(u, int)!", "(int, int, u)!", "list(u)!", "two(int, list)!", "list(list(list(ref)))!"}
	for _, place := range append(typedPlaces(), schemePlaces()...) {
		for _, ty := range right {
			c, _ := codeOf(t, strings.ReplaceAll(place, "$", ty))
			if _, code, _ := checkType(t, resolved(t, checkedFront), c); isOneOf(code, impl.CkScope, impl.CkType, impl.CkArgs) {
				t.Errorf("%s in %s: code %d", ty, place, code)
			}
		}
		for _, ty := range scope {
			failsShown(t, impl.CkScope, strings.ReplaceAll(place, "$", ty))
		}
		for _, ty := range none {
			failsShown(t, impl.CkType, strings.ReplaceAll(place, "$", ty))
		}
		// Both: the scope is asked for first, wherever it stands.
		for _, ty := range []string{"(u, #1)!", "(#1, u)!", "u(#1)!", "list(#1, int)!"} {
			failsShown(t, impl.CkScope, strings.ReplaceAll(place, "$", ty))
		}
	}
	for _, place := range []string{"CCase \"Match\"(CInt 1, CRule(QVar 1($), CInt 1))", "CCase \"Match\"(CInt 1, CRule(QAs 1($, PWild), CInt 1))", "CCase \"Match\"(CTuple(CInt 1, CInt 1), CRule(PTuple(PWild, QAs 1(int, QVar 2($))), CInt 1))", "CTry(CInt 1, CRule(QAs 1(exn, QVar 1($)), CInt 1))"} {
		for _, ty := range append(scope, "(u, #1)!") {
			failsShown(t, impl.CkScope, strings.ReplaceAll(place, "$", ty))
		}
		for _, ty := range none {
			failsShown(t, impl.CkType, strings.ReplaceAll(place, "$", ty))
		}
	}
}

func TestTypeOfScopes(t *testing.T) {
	for _, c := range [][2]string{
		{"CAll 1(CLam 1(#1, CVar 1))", "TAll -1([#-1, #-1])"},
		{"CAll 7(CAll 2(CLam 1(list(#2), CLam 2((#7, #2), CVar 1))))", "TAll -1(TAll -2([list(#-2), [(#-1, #-2), list(#-2)]]))"},
		{"CAll 1(CInt 1)", "TAll -1(int)"},
		{"CAll 1(CAll 2(CAll 3(CInt 1)))", "TAll -1(TAll -2(TAll -3(int)))"},
		{"CAll 1(CTuple(CInst(CAll 2(CLam 1(#2, CVar 1)), #1), CInst(CAll 2(CLam 1([#2, #1], CVar 1)), #1)))", "TAll -1(([#-1, #-1], [[#-1, #-1], [#-1, #-1]]))"},
		{"CTuple(CInst(CAll 1(CLam 1(#1, CVar 1)), int), CInst(CAll 1(CLam 1(#1, CVar 1)), bool))", "([int, int], [bool, bool])"},
		{"CInst(CAll 1(CInst(CAll 2(CLam 1((#1, #2), CVar 1)), #1)), int)", "[(int, int), (int, int)]"},
		{"CAll 2(CLam 9(#2, CLet 1(TAll 1([#1, #2]), CAll 1(CLam 1(#1, CVar 9)), CInst(CVar 1, int))))", "TAll -1([#-1, [int, #-1]])"},
		{"CAll 4(CLam 7(#4, CLet 1(TAll 1([#1, #1]), CAll 2(CLam 2(#2, CVar 2)), CApp(CInst(CVar 1, #4), CVar 7))))", "TAll -1([#-1, #-1])"},
		{"CFix(CBnd 1(TAll 1(TAll 2([#1, [#2, #1]])), CAll 3(CAll 1(CLam 2(#3, CLam 3(#1, CVar 2))))), CInst(CInst(CVar 1, int), bool))", "[int, [bool, int]]"},
	} {
		typeIsShown(t, c[0], c[1])
	}
	for _, c := range []string{
		"CAll 1(CAll 1(CInt 1)!)",
		"CAll 1(CAll 2(CAll 1(CInt 1)!))",
		"CAll 1(CLam 1(int, CInst(CAll 1(CLam 2(#1, CVar 2))!, int)))",
		"CAll 1(CAll 1(CAll 1(CInt 1)!))",
		"CTuple(CAll 1(CInt 1), CLam 1(#1!, CInt 1))",
		"CTuple(CLam 1(#1!, CInt 1), CAll 1(CInt 1))",
		"CInst(CAll 1(CInt 1), #1!)",
		"CAll 1(CInst(CAll 2(CInt 1), #2!))",
		"CLam 1(#1!, CAll 1(CInt 1))",
		"CLet 1(#1!, CAll 1(CInt 1), CInt 1)",
		"CLet 1(TAll 2(#1)!, CAll 1(CInt 1), CInt 1)",
		"CLet 1(TAll 2(TAll 3([#2, [#3, #1]]))!, CAll 1(CInt 1), CInt 1)",
		"CLet 1(TAll 1(TAll 1(int))!, CInt 1, CInt 1)",
		"CLet 1(TAll 1(TAll 2(TAll 1(int)))!, CInt 1, CInt 1)",
		"CLet 1(TAll 1(TAll 2(TAll 2([#1, #2])))!, CInt 1, CInt 1)",
		"CAll 1(CLam 1(int, CLet 1(TAll 1([#1, #1])!, CInt 1, CInt 1)))",
		"CAll 1(CLam 1(int, CLet 1(TAll 2(TAll 1([#1, #1]))!, CInt 1, CInt 1)))",
		"CAll 1(CLam 1(int, CFix(CBnd 1(TAll 2(int), CLam 2(int, CInt 1)), CBnd 2(TAll 1(int)!, CLam 2(int, CInt 1)), CInt 1)))",
		"CLet 1(TAll 1(#1), CLam 1(#1!, CInt 1), CInt 1)",
		"CLet 1(TAll 1(#1), CInt 1, CLam 1(#1!, CInt 1))",
		"CFix(CBnd 1(TAll 1(#1), CLam 1(#1!, CInt 1)), CInt 1)",
		"CFix(CBnd 1(TAll 1(#1), CAll 1(CLam 1(int, CInt 1))), CBnd 2([int, #1]!, CLam 1(int, CInt 1)), CInt 1)",
		"CLet 1(TAll 1(TAll 1(u))!, CInt 1, CInt 1)",
		"CLet 1(TAll 1((#2, u))!, CInt 1, CInt 1)",
	} {
		failsShown(t, impl.CkScope, c)
	}
	failsShown(t, impl.CkType, "CLet 1(TAll 1(TAll 2([#1, list(#2, #1)]))!, CInt 1, CInt 1)")
	failsShown(t, impl.CkType, "CLet 1(TAll 1(pair(#1))!, CInt 1, CInt 1)")
	// The same number twice is one variable until the inner CAll is told.
	failsShown(t, impl.CkScope, "CAll 1(CLam 1(#1, CAll 1(CLam 2(#1, CBin \"=\"(CVar 1, CVar 2)))!))")
}

func TestTypeOfGiven(t *testing.T) {
	for c, want := range map[string]string{
		"CInt 1": "int", "CInt -9223372036854775808": "int", "CInt 0": "int", "CStr \"\"": "string", "CStr \"int\"": "string",
		"CGiven -1": "[string, ()]", "CGiven -2": "[string, int]", "CGiven -3": "[(string, int), int]", "CGiven -4": "[(string, int, int), string]",
		"CGiven -5": "[int, string]", "CGiven -6": "[int, string]", "CGiven -7": "[bool, bool]",
		"CGiven -8(int)": "[int, ref(int)]", "CGiven -8([int, ()])": "[[int, ()], ref([int, ()])]", "CAll 4(CGiven -8(list(#4)))": "TAll -1([list(#-1), ref(list(#-1))])",
	} {
		typeIsShown(t, c, want)
	}
}

func TestTypeOfConstructors(t *testing.T) {
	for c, want := range map[string]string{
		"CCon \"true\"": "bool", "CCon \"false\"": "bool", "CCon \"nil\"(int)": "list(int)", "CCon \"::\"(bool)": "[(bool, list(bool)), list(bool)]",
		"CCon \"Match\"": "exn", "CCon \"Bind\"": "exn", "CCon \"Div\"": "exn", "CCon \"Subscript\"": "exn", "CCon \"Chr\"": "exn", "CCon \"Size\"": "exn", "CCon \"Equal\"": "exn",
		"CCon \"None\"([int, int])": "opt([int, int])", "CCon \"Some\"(int)": "[int, opt(int)]", "CCon \"Two\"(int, bool)": "[(bool, int), two(int, bool)]", "CCon \"Neither\"(int, bool)": "two(int, bool)",
		"CCon \"E\"": "exn", "CCon \"F\"": "[int, exn]", "CCon \"A\"": "t", "CCon \"B\"": "[t, t]", "CCon \"Nest\"(int)": "[nest((int, int)), nest(int)]", "CCon \"Fan\"(string)": "[[string, fan(string)], fan(string)]", "CCon \"Box\"((int, t))": "[(int, t), fan((int, t))]",
		"CAll 1(CAll 2(CCon \"Two\"(#2, [#1, #2])))": "TAll -1(TAll -2([([#-1, #-2], #-2), two(#-2, [#-1, #-2])]))",
	} {
		typeIsShown(t, c, want)
	}
	for _, c := range []string{
		"CCon \"Foo\"!", "CCon \"\"!", "CCon \"opt\"(int)!", "CCon \"int\"!", "CCon \"ref\"(int)!", "CCon \"None\"!", "CCon \"None\"(int, int)!", "CCon \"Some\"!", "CCon \"Some\"(int, bool)!", "CCon \"Two\"(int)!", "CCon \"Two\"!", "CCon \"Two\"(int, int, int)!",
		"CCon \"true\"(int)!", "CCon \"nil\"!", "CCon \"::\"!", "CCon \"::\"(int, int)!", "CCon \"E\"(int)!", "CCon \"F\"(int)!", "CCon \"Div\"(int)!", "CCon \"A\"(int)!", "CCon \"Foo\"(int)!",
		"CApp(CCon \"Some\"!, CInt 1)", "CAll 1(CCon \"Foo\"(#1)!)",
	} {
		failsShown(t, impl.CkCon, c)
	}
	// Types that are written come first.
	failsShown(t, impl.CkType, "CCon \"Foo\"(int, u!)")
	failsShown(t, impl.CkScope, "CCon \"true\"(#1!, u)")
}

func TestTypeOfValues(t *testing.T) {
	values := []string{
		"CInt 1", "CStr \"\"", "CGiven -1", "CGiven -8(#9)", "CCon \"A\"", "CCon \"Some\"(#9)", "CLam 1(#9, CVar 1)", "CLam 1(#9, CApp(CVar 5, CVar 5))", "CVar 1", "CVar 2", "CTuple",
		"CTuple(CInt 1, CStr \"\")", "CTuple(CTuple(CVar 1, CCon \"A\"), CLam 1(int, CVar 1))", "CApp(CCon \"Some\"(int), CInt 1)", "CApp(CCon \"Some\"(opt(int)), CApp(CCon \"Some\"(int), CVar 1))", "CApp(CCon \"F\", CInt 1)",
		"CInst(CAll 4(CLam 1(#4, CVar 1)), #9)", "CInst(CVar 3, int)", "CAll 4(CInt 1)", "CAll 4(CAll 3(CTuple))", "CInst(CAll 4(CTuple(CInt 1, CInst(CVar 3, #9))), int)", "CApp(CCon \"Some\"((int, [#9, #9])), CTuple(CVar 1, CLam 1(#9, CVar 1)))",
	}
	others := []string{
		"CApp(CLam 1(int, CVar 1), CInt 1)", "CApp(CGiven -2, CStr \"\")", "CApp(CInst(CVar 3, int), CInt 1)", "CApp(CGiven -8(int), CInt 1)", "CApp(CInst(CAll 4(CCon \"Some\"(#4)), int), CInt 1)",
		"CLet 4(int, CInt 1, CInt 1)", "CFix(CBnd 4([int, int], CLam 1(int, CVar 1)), CVar 4)", "CCase \"Match\"(CInt 1, CRule(PWild, CInt 1))", "CCase \"Bind\"(CInt 1, CRule(PWild, CLam 1(int, CVar 1)))",
		"CRaise(#9, CCon \"Div\")", "CTry(CInt 1, CRule(PWild, CInt 1))", "CWhile(CCon \"true\", CInt 1)", "CBin \"+\"(CInt 1, CInt 1)", "CBin \":=\"(CVar 6, CInt 1)", "CUn \"~\"(CInt 1)", "CUn \"!\"(CVar 6)",
	}
	for _, c := range others {
		others = append(others, "CTuple(CInt 1, "+c+")", "CTuple("+c+", CVar 1)", "CApp(CCon \"Some\"($), "+c+")", "CTuple(CTuple(CVar 1, "+c+"), CInt 1)")
	}
	program := resolved(t, checkedFront)
	around := func(c string) string {
		return "CLam 1(int, CLam 2(bool, CLam 5([int, int], CLam 6(ref(int), CLet 3(TAll 8([#8, #8]), CAll 8(CLam 8(#8, CVar 8)), CTuple(CInst(CAll 9(" + c + ")!, int), CInt 1))))))"
	}
	for _, c := range values {
		it, _ := codeOf(t, around(c))
		if _, code, node := checkType(t, program, it); code != impl.CkOk && code != impl.CkClash {
			t.Errorf("%s: code %d at node %d", c, code, node)
		}
	}
	for _, c := range others {
		// What a constructor is given has the type that is written for it.
		for _, ty := range []string{"int", "bool", "#9", "()", "[int, int]", "opt(int)"} {
			it, marked := codeOf(t, around(strings.ReplaceAll(c, "$", ty)))
			_, code, node := checkType(t, program, it)
			if code == impl.CkClash && strings.Contains(c, "$") {
				continue
			}
			if code != impl.CkValue || node != marked {
				t.Errorf("%s: code %d at node %d", c, code, node)
			}
		}
	}
	// One that is no value in several CAlls: the innermost is told.
	failsShown(t, impl.CkValue, "CAll 1(CAll 2(CBin \"+\"(CInt 1, CInt 1))!)")
	failsShown(t, impl.CkValue, "CInst(CAll 1(CInst(CAll 2(CUn \"~\"(CInt 1))!, int)), int)")
	// The scope is asked for first, and what is inside before both.
	failsShown(t, impl.CkScope, "CAll 1(CLam 1(int, CAll 1(CBin \"+\"(CInt 1, CInt 1))!))")
	failsShown(t, impl.CkClash, "CAll 1(CBin \"+\"(CInt 1, CStr \"\")!)")
}

// Variables that are put away and added.
func TestTypeOfInstances(t *testing.T) {
	k := "CLet 1(TAll 1(TAll 2([#1, [#2, #1]])), CAll 5(CAll 3(CLam 1(#5, CLam 2(#3, CVar 1)))), $)"
	for _, c := range [][2]string{
		{"CInst(CInst(CVar 1, int), bool)", "[int, [bool, int]]"},
		{"CInst(CInst(CVar 1, [bool, int]), list(t))", "[[bool, int], [list(t), [bool, int]]]"},
		{"CInst(CAll 4(CInst(CInst(CVar 1, int), #4)), ())", "[int, [(), int]]"},
		{"CInst(CAll 4(CInst(CInst(CVar 1, #4), #4)), (int, int))", "[(int, int), [(int, int), (int, int)]]"},
		// Numbers that the scheme has itself: nothing is caught.
		{"CInst(CInst(CAll 2(CInst(CVar 1, #2)), int), bool)", "[int, [bool, int]]"},
		{"CInst(CAll 2(CInst(CInst(CVar 1, #2), bool)), int)", "[int, [bool, int]]"},
		{"CInst(CAll 2(CInst(CInst(CVar 1, bool), #2)), int)", "[bool, [int, bool]]"},
		{"CInst(CAll 1(CInst(CInst(CVar 1, bool), #1)), int)", "[bool, [int, bool]]"},
		{"CInst(CAll 1(CInst(CAll 2(CInst(CInst(CVar 1, #2), #1)), int)), bool)", "[int, [bool, int]]"},
		{"CInst(CAll 2(CInst(CAll 1(CInst(CInst(CVar 1, #2), #1)), int)), bool)", "[bool, [int, bool]]"},
		{"CInst(CInst(CAll 2(CAll 1(CInst(CInst(CVar 1, #2), #1))), int), bool)", "[int, [bool, int]]"},
		{"CInst(CInst(CAll 2(CAll 1(CInst(CInst(CVar 1, #1), #2))), int), bool)", "[bool, [int, bool]]"},
		{"CInst(CInst(CInst(CAll 2(CAll 1(CInst(CVar 1, (#1, #2)))), int), bool), string)", "[(bool, int), [string, (bool, int)]]"},
		{"CTuple(CInst(CInst(CVar 1, int), bool), CInst(CInst(CVar 1, bool), int))", "([int, [bool, int]], [bool, [int, bool]])"},
		// A variable more in front, and none more for the binder itself.
		{"CTuple(CInst(CInst(CInst(CAll 4(CVar 1), t), int), bool), CInst(CInst(CVar 1, int), bool))", "([int, [bool, int]], [int, [bool, int]])"},
		{"CTuple(CInst(CInst(CAll 4(CInst(CVar 1, #4)), t), bool), CInst(CInst(CVar 1, int), bool))", "([t, [bool, t]], [int, [bool, int]])"},
	} {
		typeIsShown(t, strings.ReplaceAll(k, "$", c[0]), c[1])
	}
	for _, c := range [][2]string{
		{"CInst(CAll 1(CInt 1), bool)", "int"},
		{"CInst(CAll 1(CAll 2(CLam 1(#2, CVar 1))), bool)", "TAll -1([#-1, #-1])"},
		{"CInst(CAll 1(CAll 2(CAll 3(CLam 1((#1, #2, #3), CVar 1)))), bool)", "TAll -1(TAll -2([(bool, #-1, #-2), (bool, #-1, #-2)]))"},
		{"CInst(CInst(CAll 1(CAll 2(CAll 3(CLam 1((#1, #2, #3), CVar 1)))), bool), int)", "TAll -1([(bool, int, #-1), (bool, int, #-1)])"},
		{"CAll 4(CInst(CAll 1(CAll 2(CLam 1((#1, #2, #4), CVar 1))), list(#4)))", "TAll -1(TAll -2([(list(#-1), #-2, #-1), (list(#-1), #-2, #-1)]))"},
		{"CAll 4(CAll 5(CInst(CAll 1(CAll 2(CLam 1((#1, #2, #4, #5), CInt 1))), [#5, #4])))", "TAll -1(TAll -2(TAll -3([([#-2, #-1], #-3, #-1, #-2), int])))"},
		{"CAll 3(CInst(CAll 1(CAll 2(CLam 1(#1, CInt 1))), #3))", "TAll -1(TAll -2([#-1, int]))"},
		{"CAll 3(CInst(CAll 1(CAll 2(CLam 1(#2, CInt 1))), #3))", "TAll -1(TAll -2([#-2, int]))"},
	} {
		typeIsShown(t, c[0], c[1])
	}
	for _, c := range []string{
		"CInst(CInt 1, int)!", "CInst(CInst(CAll 1(CInt 1), int), int)!", "CInst(CLam 1(int, CVar 1), int)!", "CLam 1(int, CInst(CVar 1, int)!)", "CInst(CTuple, int)!", "CInst(CCon \"nil\"(int), int)!",
		"CAll 1(CInst(CLam 1(#1, CVar 1), #1)!)",
		strings.ReplaceAll(k, "$", "CInst(CInst(CInst(CVar 1, int), int), int)!"),
	} {
		failsShown(t, impl.CkClash, c)
	}
	// The type of a CInst is looked at behind its code and before that has a scheme.
	failsShown(t, impl.CkVar, "CInst(CVar 1!, #1)")
	failsShown(t, impl.CkScope, "CInst(CInt 1, #1!)")
	failsShown(t, impl.CkType, "CInst(CInt 1, u!)")
}

// Kids that have a scheme where a type is asked for: at the node that has the kid.
func TestTypeOfSchemesAsTypes(t *testing.T) {
	poly := "CAll 9(CLam 8(#9, CVar 8))"
	for _, c := range []string{
		"CTuple($, CInt 1)!", "CTuple(CInt 1, $)!", "CTuple(CInt 1, $, $, CInt 2)!", "CLam 1(int, $)!", "CApp($, CInt 1)!", "CApp(CLam 1(int, CVar 1), $)!", "CApp($, $)!", "CApp(CInt 1, $)!",
		"CLet 1(int, CInt 1, $)!", "CLet 1(int, $, CInt 1)!", "CLet 1(TAll 1([#1, #1]), $, $)!", "CFix(CBnd 1([int, int], CLam 1(int, CVar 1)), $)!",
		"CCase \"Match\"($, CRule(PWild, CInt 1))!", "CCase \"Match\"(CInt 1, CRule(PWild, $)!)", "CCase \"Bind\"(CInt 1, CRule(PWild, CInt 1), CRule(PWild, $)!)", "CCase \"Match\"(CInt 1, CRule(PWild, CInt 1), CRule(PWild, $)!, CRule(PWild, $))",
		"CTry($, CRule(PWild, CInt 1))!", "CTry(CInt 1, CRule(PWild, $)!)", "CTry($, CRule(PWild, $))!", "CRaise(int, $)!", "CWhile($, CInt 1)!", "CWhile(CCon \"true\", $)!", "CWhile($, $)!",
		"CBin \"=\"($, CInt 1)!", "CBin \"=\"(CInt 1, $)!", "CBin \"=\"($, $)!", "CBin \"<>\"($, $)!", "CBin \"+\"($, CInt 1)!", "CBin \":=\"(CApp(CGiven -8(int), CInt 1), $)!", "CUn \"~\"($)!", "CUn \"!\"($)!",
		"CTuple(CLam 1(int, $)!, CVar 7)",
	} {
		failsShown(t, impl.CkClash, strings.ReplaceAll(c, "$", poly))
		failsShown(t, impl.CkClash, strings.ReplaceAll(c, "$", "CAll 1(CAll 2(CInt 1))"))
		failsShown(t, impl.CkClash, strings.ReplaceAll(c, "$", "CInst(CAll 1(CAll 2(CInt 1)), int)"))
	}
	// What stands behind the kid, in the same node, is looked at before.
	for _, c := range []string{"CTuple($, CVar 7!)", "CApp($, CVar 7!)", "CLet 1(int, $, CVar 7!)", "CWhile($, CVar 7!)", "CBin \"=\"($, CVar 7!)", "CFix(CBnd 1([int, int], CVar 7!), $)"} {
		failsShown(t, impl.CkVar, strings.ReplaceAll(c, "$", poly))
	}
	// But the first code of a match before its rules.
	for _, c := range []string{"CCase \"Match\"($, CRule(PWild, CVar 7))!", "CCase \"Match\"($, CRule(PInt 1, CInt 1))!", "CCase \"Match\"($, CRule(QVar 1(#1), CInt 1))!", "CCase \"Bind\"($, CRule(PCon \"Foo\", CInt 1))!", "CTry($, CRule(PWild, CVar 7))!"} {
		failsShown(t, impl.CkClash, strings.ReplaceAll(c, "$", poly))
	}
	// A rule is told before what stands behind it.
	failsShown(t, impl.CkClash, strings.ReplaceAll("CCase \"Match\"(CInt 1, CRule(PWild, $)!, CRule(PWild, CVar 7))", "$", poly))
}
