package tests

import (
	"strings"
	"testing"

	"loop.example/s02665/impl"
)

func TestTypeOfFunctions(t *testing.T) {
	for _, c := range [][2]string{
		{"CTuple", "()"},
		{"CTuple(CInt 1, CStr \"\")", "(int, string)"},
		{"CTuple(CTuple, CTuple(CInt 1, CTuple), CCon \"A\")", "((), (int, ()), t)"},
		{"CLam 1((int, t), CInt 1)", "[(int, t), int]"},
		{"CLam 1(int, CLam 2(bool, CTuple))", "[int, [bool, ()]]"},
		{"CApp(CLam 1(int, CStr \"\"), CInt 1)", "string"},
		{"CApp(CGiven -2, CStr \"\")", "int"},
		{"CApp(CLam 1([int, int], CApp(CVar 1, CApp(CVar 1, CInt 1))), CLam 1(int, CVar 1))", "int"},
		{"CApp(CLam 1(int, CLam 2(bool, CVar 1)), CInt 1)", "[bool, int]"},
		{"CApp(CApp(CLam 1(int, CLam 2(bool, CVar 2)), CInt 1), CCon \"true\")", "bool"},
		{"CApp(CCon \"Two\"(int, bool), CTuple(CCon \"true\", CInt 1))", "two(int, bool)"},
		{"CApp(CCon \"::\"(int), CTuple(CInt 1, CCon \"nil\"(int)))", "list(int)"},
		{"CApp(CInst(CAll 1(CLam 1(#1, CVar 1)), int), CInt 1)", "int"},
		{"CApp(CInst(CAll 1(CLam 1(#1, CVar 1)), [int, t]), CLam 1(int, CCon \"A\"))", "[int, t]"},
		{"CApp(CApp(CInst(CAll 1(CLam 1(#1, CVar 1)), [int, t]), CLam 1(int, CCon \"A\")), CInt 1)", "t"},
		{"CRaise([int, t], CCon \"Div\")", "[int, t]"},
		{"CRaise(int, CApp(CCon \"F\", CInt 1))", "int"},
		{"CRaise(int, CRaise(exn, CCon \"E\"))", "int"},
		{"CWhile(CCon \"true\", CInt 1)", "()"},
		{"CWhile(CCon \"true\", CTuple)", "()"},
	} {
		typeIsShown(t, c[0], c[1])
	}
	for _, c := range []string{
		"CApp(CInt 1, CInt 1)!", "CApp(CTuple, CInt 1)!", "CApp(CCon \"A\", CCon \"A\")!", "CApp(CLam 1(int, CVar 1), CStr \"\")!", "CApp(CLam 1((int, int), CVar 1), CInt 1)!", "CApp(CLam 1(int, CVar 1), CTuple(CInt 1, CInt 1))!",
		"CApp(CLam 1(list(int), CVar 1), CInt 1)!", "CApp(CLam 1(int, CVar 1), CCon \"nil\"(int))!", "CApp(CLam 1([int, int], CVar 1), CLam 1(int, CStr \"\"))!", "CApp(CApp(CLam 1(int, CVar 1), CInt 1), CInt 1)!", "CApp(CLam 1(opt(int), CVar 1), CCon \"None\"(bool))!",
		"CApp(CCon \"Some\"(int), CStr \"\")!", "CApp(CCon \"None\"(int), CInt 1)!", "CApp(CCon \"Two\"(int, bool), CTuple(CInt 1, CCon \"true\"))!", "CApp(CInst(CAll 1(CLam 1(#1, CVar 1)), int), CStr \"\")!", "CApp(CInst(CAll 1(CLam 1(#1, CVar 1)), int), CInst(CAll 1(CLam 1(#1, CVar 1)), int))!",
		"CAll 1(CAll 2(CLam 1([#1, int], CLam 2(#2, CApp(CVar 1, CVar 2)!))))", "CAll 1(CLam 1([#1, int], CApp(CVar 1, CInt 1)!))", "CAll 1(CLam 1(#1, CApp(CVar 1, CVar 1)!))",
		"CRaise(int, CInt 1)!", "CRaise(exn, CLam 1(exn, CVar 1))!", "CRaise(int, CCon \"F\")!", "CRaise(int, CTuple)!", "CRaise(int, CCon \"A\")!",
		"CWhile(CInt 1, CInt 1)!", "CWhile(CTuple, CInt 1)!", "CWhile(CCon \"A\", CTuple)!", "CWhile(CGiven -7, CTuple)!",
	} {
		failsShown(t, impl.CkClash, c)
	}
	// The written type, then the code, then the node itself.
	failsShown(t, impl.CkScope, "CRaise(#1!, CVar 1)")
	failsShown(t, impl.CkVar, "CRaise(int, CVar 1!)")
	failsShown(t, impl.CkScope, "CLam 1(#1!, CVar 2)")
	failsShown(t, impl.CkType, "CLam 1(u!, CAll 1(CInt 1))")
}

func TestTypeOfLets(t *testing.T) {
	k := "CAll 5(CAll 3(CLam 1(#5, CLam 2(#3, CVar 1))))"
	for _, c := range [][2]string{
		{"CLet 1(TAll 1(TAll 2([#1, [#2, #1]])), " + k + ", CTuple)", "()"},
		{"CLet 1(TAll 3(TAll 5([#3, [#5, #3]])), " + k + ", CTuple)", "()"},
		{"CLet 1(TAll 9(TAll 8([#9, [#8, #9]])), " + k + ", CInst(CInst(CVar 1, t), bool))", "[t, [bool, t]]"},
		{"CLet 1([int, [t, int]], CInst(CInst(" + k + ", int), t), CVar 1)", "[int, [t, int]]"},
		{"CLet 1(TAll 4([int, [#4, int]]), CInst(" + k + ", int), CInst(CVar 1, t))", "[int, [t, int]]"},
		{"CLet 1(TAll 1(int), CAll 2(CInt 1), CInst(CVar 1, t))", "int"},
		{"CLet 1(TAll 1(TAll 2([#2, #2])), CAll 7(CAll 8(CLam 1(#8, CVar 1))), CInst(CInst(CVar 1, t), bool))", "[bool, bool]"},
		{"CLet 1(TAll 1([#1, #1]), CAll 2(CLam 2(#2, CVar 2)), CLet 2(TAll 1([#1, #1]), CVar 1, CInst(CVar 2, int)))", "[int, int]"},
		{"CLet 1(TAll 1([#1, #1]), CAll 2(CLam 2(#2, CVar 2)), CLet 2(TAll 1(TAll 2([#2, #2])), CAll 4(CVar 1), CInst(CInst(CVar 2, t), int)))", "[int, int]"},
	} {
		typeIsShown(t, c[0], c[1])
	}
	for _, c := range []string{
		"CLet 1(int, CStr \"\", CVar 1)!", "CLet 1(int, CStr \"\", CInt 1)!", "CLet 1([int, int], CLam 1(int, CStr \"\"), CInt 1)!",
		// Less general, more general, in another order, with a variable more or less.
		"CLet 1([int, [int, int]], " + k + ", CInt 1)!", "CLet 1(TAll 1([#1, [#1, #1]]), " + k + ", CInt 1)!", "CLet 1(TAll 1(TAll 2([#1, [#1, #1]])), " + k + ", CInt 1)!",
		"CLet 1(TAll 1(TAll 2([#2, [#1, #2]])), " + k + ", CInt 1)!", "CLet 1(TAll 1(TAll 2(TAll 3([#1, [#2, #1]]))), " + k + ", CInt 1)!", "CLet 1(TAll 3(TAll 1(TAll 2([#1, [#2, #1]]))), " + k + ", CInt 1)!",
		"CLet 1(TAll 1(int), CInt 1, CInt 1)!", "CLet 1(int, CAll 1(CInt 1), CInt 1)!", "CLet 1(TAll 1(#1), CAll 1(CInt 1), CInt 1)!", "CLet 1(TAll 1(TAll 2([#1, #1])), CAll 7(CAll 8(CLam 1(#8, CVar 1))), CInt 1)!",
		"CAll 1(CLam 1(#1, CLet 2(TAll 2([#2, #1]), CAll 3(CLam 2(#3, CVar 2)), CInt 1)!))",
	} {
		failsShown(t, impl.CkClash, c)
	}
	// The scheme, the first code, the second, and then what was wrong with the first.
	failsShown(t, impl.CkScope, "CLet 1(#1!, CVar 1, CVar 2)")
	failsShown(t, impl.CkVar, "CLet 1(bool, CVar 1!, CVar 2)")
	failsShown(t, impl.CkVar, "CLet 1(bool, CInt 1, CVar 2!)")
	failsShown(t, impl.CkClash, "CLet 1(bool, CInt 1, CBin \"+\"(CVar 1, CInt 1)!)")
}

func TestTypeOfFixes(t *testing.T) {
	loop := "CBnd 1(TAll 1([#1, int]), CAll 2(CLam 5(#2, CApp(CInst(CVar 1, bool), CCon \"true\"))))"
	for _, c := range [][2]string{
		{"CFix(" + loop + ", CApp(CInst(CVar 1, int), CInt 1))", "int"},
		{"CFix(" + loop + ", CBnd 2([t, int], CLam 3(t, CApp(CInst(CVar 1, t), CVar 3))), CApp(CVar 2, CCon \"A\"))", "int"},
		{"CFix(CBnd 2([t, int], CLam 3(t, CApp(CInst(CVar 1, t), CVar 3))), " + loop + ", CApp(CVar 2, CCon \"A\"))", "int"},
		{"CFix(CBnd 1([int, int], CLam 2(int, CFix(CBnd 1([bool, int], CLam 2(bool, CApp(CVar 1, CVar 2))), CApp(CVar 1, CCon \"true\")))), CVar 1)", "[int, int]"},
		{"CFix(CBnd 1(TAll 1(TAll 2([#1, #2])), CAll 1(CAll 2(CLam 1(#1, CRaise(#2, CCon \"Div\"))))), CInst(CInst(CVar 1, int), t))", "[int, t]"},
	} {
		typeIsShown(t, c[0], c[1])
	}
	for _, c := range []string{
		"CFix(" + loop + ", CBnd 2([int, int], CInst(CAll 1(CLam 1(int, CVar 1)), int))!, CInt 1)",
		"CFix(CBnd 1(int, CInt 1)!, CInt 1)", "CFix(CBnd 1(int, CStr \"\")!, CInt 1)", "CFix(CBnd 1(TAll 1(int), CAll 1(CInt 1))!, CInt 1)", "CFix(CBnd 1([int, int], CVar 1)!, CInt 1)", "CFix(CBnd 1([string, ()], CGiven -1)!, CInt 1)",
		"CFix(CBnd 1([int, opt(int)], CCon \"Some\"(int))!, CInt 1)", "CFix(CBnd 1((), CTuple)!, CInt 1)", "CFix(CBnd 1(TAll 1([#1, #1]), CInst(CAll 3(CAll 2(CLam 2(#2, CVar 2))), int))!, CInt 1)", "CFix(CBnd 1([int, int], CLet 2(int, CInt 1, CLam 1(int, CVar 1)))!, CInt 1)",
		"CFix(CBnd 1([int, int], CLam 2(int, CVar 2)), CBnd 3(int, CInt 1)!, CVar 9)",
		"CFix(CBnd 1(TAll 1([#1, #1]), CAll 3(CInst(CAll 2(CLam 2(#2, CVar 2)), #3)))!, CInt 1)", "CFix(CBnd 1([int, int], CTuple(CLam 1(int, CVar 1), CInt 1))!, CInt 1)",
	} {
		failsShown(t, impl.CkValue, c)
	}
	for _, c := range []string{
		"CFix(CBnd 1([int, int], CLam 2(int, CStr \"\"))!, CInt 1)", "CFix(CBnd 1([int, int], CLam 2(bool, CInt 1))!, CInt 1)", "CFix(CBnd 1(TAll 1([int, int]), CLam 2(int, CInt 1))!, CInt 1)", "CFix(CBnd 1([int, int], CAll 1(CLam 2(int, CInt 1)))!, CInt 1)",
		"CFix(CBnd 1(TAll 1(TAll 2([#2, #1])), CAll 1(CAll 2(CLam 2(#1, CRaise(#2, CCon \"Div\")))))!, CInt 1)", "CFix(CBnd 1([int, int], CLam 2(int, CVar 2)), CBnd 3([int, bool], CLam 2(int, CVar 2))!, CVar 9)", "CFix(CBnd 1([int, int], CLam 2(int, CStr \"\"))!, CBnd 3([int, bool], CLam 2(int, CVar 2)), CVar 9)",
	} {
		failsShown(t, impl.CkClash, c)
	}
	// All schemes first, one after the other; then each code and its CBnd, and the last code.
	failsShown(t, impl.CkType, "CFix(CBnd 1([int, int], CVar 9), CBnd 2(u!, CVar 9), CVar 9)")
	failsShown(t, impl.CkScope, "CFix(CBnd 1([int, int], CVar 9), CBnd 2([int, int], CVar 9), CBnd 3(#1!, CVar 9), CBnd 4(u, CVar 9), CVar 9)")
	failsShown(t, impl.CkType, "CFix(CBnd 1(u!, CVar 9), CBnd 2(#1, CVar 9), CVar 9)")
	failsShown(t, impl.CkVar, "CFix(CBnd 1([int, int], CVar 9!), CBnd 2([int, int], CInt 1), CVar 9)")
	failsShown(t, impl.CkValue, "CFix(CBnd 1([int, int], CInt 1)!, CBnd 2([int, int], CVar 9), CVar 9)")
	failsShown(t, impl.CkVar, "CFix(CBnd 1([int, int], CLam 1(int, CVar 1)), CBnd 2([int, int], CVar 9!), CVar 8)")
	failsShown(t, impl.CkVar, "CTuple(CVar 8!, CFix(CBnd 1(u, CInt 1), CInt 1))")
	failsShown(t, impl.CkType, "CTuple(CFix(CBnd 1([int, int], CVar 9), CBnd 2(u!, CInt 1), CInt 1), CVar 8)")
	// Schemes inside, those of the outer CFix first.
	failsShown(t, impl.CkScope, "CFix(CBnd 1([int, int], CLam 1(int, CFix(CBnd 4([int, int], CVar 9), CBnd 5(u, CVar 9), CInt 1))), CBnd 2(#1!, CVar 9), CVar 9)")
	failsShown(t, impl.CkType, "CFix(CBnd 1([int, int], CLam 1(int, CFix(CBnd 4([int, int], CVar 9), CBnd 5(u!, CVar 9), CInt 1))), CBnd 2([int, int], CVar 9), CVar 9)")
	// CkValue is asked for before the scheme.
	failsShown(t, impl.CkValue, "CFix(CBnd 1(bool, CInt 1)!, CInt 1)")
}

func TestTypeOfMatches(t *testing.T) {
	for _, c := range [][2]string{
		{"CCase \"Match\"(CInt 1, CRule(PInt 2, CStr \"\"))", "string"},
		{"CCase \"Bind\"(CInt 1, CRule(PWild, CStr \"\"), CRule(PInt 3, CStr \"a\"), CRule(QVar 1(int), CStr \"b\"))", "string"},
		{"CCase \"Match\"(CApp(CCon \"Some\"(int), CInt 1), CRule(PCon \"Some\"(QVar 1(int)), CVar 1), CRule(PCon \"None\", CInt 2))", "int"},
		{"CTry(CInt 1, CRule(PWild, CInt 2))", "int"},
		{"CTry(CRaise(t, CCon \"Div\"), CRule(PCon \"Div\", CCon \"A\"), CRule(PCon \"F\"(PInt 1), CCon \"A\"), CRule(QAs 1(exn, PCon \"E\"), CRaise(t, CVar 1)))", "t"},
	} {
		typeIsShown(t, c[0], c[1])
	}
	for _, c := range []string{
		"CCase \"Match\"(CInt 1, CRule(PWild, CInt 1), CRule(PWild, CStr \"\"))!", "CCase \"Match\"(CInt 1, CRule(PWild, CInt 1), CRule(PWild, CInt 1), CRule(PWild, CStr \"\"))!", "CCase \"Bind\"(CInt 1, CRule(PWild, CStr \"\"), CRule(PWild, CInt 1), CRule(PWild, CInt 1))!",
		"CCase \"Match\"(CInt 1, CRule(PWild, CInt 1), CRule(PWild, CTuple(CInt 1, CInt 2)))!", "CTry(CInt 1, CRule(PWild, CStr \"\"))!", "CTry(CStr \"\", CRule(PWild, CInt 1), CRule(PWild, CInt 1))!", "CTry(CInt 1, CRule(PWild, CInt 1), CRule(PWild, CStr \"\"))!", "CTry(CCon \"Div\", CRule(PWild, CInt 1))!",
		"CTry(CInt 1, CRule(PInt 1!, CInt 1))", "CTry(CInt 1, CRule(QVar 1(int)!, CInt 1))", "CTry(CCon \"A\", CRule(PCon \"A\"!, CCon \"A\"))", "CTry(CInt 1, CRule(PCon \"true\"!, CInt 1))",
	} {
		failsShown(t, impl.CkClash, c)
	}
	// One after the other; that rules differ is told at the end.
	failsShown(t, impl.CkVar, "CCase \"Match\"(CVar 9!, CRule(PStr \"\", CVar 8))")
	failsShown(t, impl.CkClash, "CCase \"Match\"(CInt 1, CRule(PStr \"\"!, CVar 8))")
	failsShown(t, impl.CkVar, "CCase \"Match\"(CInt 1, CRule(PInt 1, CVar 8!), CRule(PStr \"\", CInt 1))")
	failsShown(t, impl.CkClash, "CCase \"Match\"(CInt 1, CRule(PInt 1, CInt 8), CRule(PStr \"\"!, CStr \"\"))")
	failsShown(t, impl.CkVar, "CCase \"Match\"(CInt 1, CRule(PInt 1, CInt 8), CRule(PInt 1, CStr \"\"), CRule(PWild, CVar 8!))")
	failsShown(t, impl.CkVar, "CTry(CInt 1, CRule(PWild, CStr \"\"), CRule(PWild, CVar 8!))")
	failsShown(t, impl.CkClash, "CTry(CInt 1, CRule(PInt 1!, CStr \"\"))")
}

func TestTypeOfOperators(t *testing.T) {
	arithmetic, order := []string{"+", "-", "*", "/", "%"}, []string{"<", "<=", ">", ">="}
	others := []string{"CStr \"\"", "CTuple", "CCon \"true\"", "CLam 1(int, CVar 1)", "CCon \"nil\"(int)", "CTuple(CInt 1, CInt 1)", "CApp(CGiven -8(int), CInt 1)", "CCon \"Div\""}
	for _, op := range append(arithmetic, order...) {
		result := "int"
		if isOneOf(op, order...) {
			result = "bool"
		}
		typeIsShown(t, "CBin \""+op+"\"(CInt 1, CUn \"~\"(CInt 2))", result)
		for _, other := range others {
			failsShown(t, impl.CkClash, "CBin \""+op+"\"(CInt 1, "+other+")!")
			failsShown(t, impl.CkClash, "CBin \""+op+"\"("+other+", CInt 1)!")
			failsShown(t, impl.CkClash, "CBin \""+op+"\"("+other+", "+other+")!")
		}
	}
	for _, op := range []string{"=", "<>"} {
		for _, it := range append(others, "CInt 1", "CInst(CAll 1(CLam 1(#1, CVar 1)), int)") {
			typeIsShown(t, "CBin \""+op+"\"("+it+", "+it+")", "bool")
		}
		for _, other := range others {
			failsShown(t, impl.CkClash, "CBin \""+op+"\"(CInt 1, "+other+")!")
			failsShown(t, impl.CkClash, "CBin \""+op+"\"("+other+", CInt 1)!")
		}
		failsShown(t, impl.CkClash, "CBin \""+op+"\"(CCon \"nil\"(int), CCon \"nil\"(bool))!")
	}
	typeIsShown(t, "CBin \"^\"(CStr \"\", CStr \"a\")", "string")
	reference := func(ty string, c string) string { return "CApp(CGiven -8(" + ty + "), " + c + ")" }
	typeIsShown(t, "CBin \":=\"("+reference("int", "CInt 1")+", CInt 2)", "()")
	typeIsShown(t, "CBin \":=\"("+reference("opt(int)", "CCon \"None\"(int)")+", CCon \"None\"(int))", "()")
	typeIsShown(t, "CBin \":=\"("+reference("ref(int)", reference("int", "CInt 1"))+", "+reference("int", "CInt 1")+")", "()")
	typeIsShown(t, "CUn \"!\"("+reference("(int, t)", "CTuple(CInt 1, CCon \"A\")")+")", "(int, t)")
	typeIsShown(t, "CUn \"!\"(CUn \"!\"("+reference("ref(int)", reference("int", "CInt 1"))+"))", "int")
	typeIsShown(t, "CUn \"~\"(CInt 1)", "int")
	typeIsShown(t, "CLam 1(ref(t), CUn \"!\"(CVar 1))", "[ref(t), t]")
	for _, c := range []string{
		"CBin \"^\"(CStr \"\", CInt 1)!", "CBin \"^\"(CInt 1, CStr \"\")!", "CBin \"^\"(CInt 1, CInt 1)!", "CBin \"^\"(CTuple, CStr \"\")!",
		"CBin \":=\"(CInt 1, CInt 1)!", "CBin \":=\"(" + reference("int", "CInt 1") + ", CStr \"\")!", "CBin \":=\"(" + reference("int", "CInt 1") + ", " + reference("int", "CInt 1") + ")!", "CBin \":=\"(CInt 1, " + reference("int", "CInt 1") + ")!", "CBin \":=\"(CCon \"nil\"(int), CInt 1)!",
		"CBin \":=\"(CGiven -8(int), CInt 1)!", "CBin \":=\"(CTuple(CInt 1, CInt 1), CInt 1)!",
		"CUn \"~\"(CStr \"\")!", "CUn \"~\"(CTuple)!", "CUn \"~\"(CCon \"true\")!", "CUn \"~\"(" + reference("int", "CInt 1") + ")!", "CUn \"!\"(CInt 1)!", "CUn \"!\"(CCon \"nil\"(int))!", "CUn \"!\"(CGiven -8(int))!", "CUn \"!\"(CTuple(CInt 1, CInt 1))!", "CUn \"!\"(CApp(CCon \"Some\"(int), CInt 1))!",
	} {
		failsShown(t, impl.CkClash, c)
	}
}

func TestTypeOfPatterns(t *testing.T) {
	held := func(ty string, pat string) string {
		return "CLam 1(" + ty + ", CCase \"Match\"(CVar 1, CRule(" + pat + ", CInt 1)))"
	}
	types := []string{"int", "string", "bool", "exn", "()", "(int, string)", "(int, string, int)", "[int, int]", "list(int)", "list(string)", "ref(int)", "opt(int)", "opt((int, string))", "two(int, string)", "two(string, int)", "nest(int)", "fan(t)", "t"}
	// Each pattern with the types that it fits; it has none of the others.
	for _, c := range []struct {
		code int
		pat  string
		fits []string
	}{
		{impl.CkOk, "PWild", types},
		{impl.CkClash, "PInt 1", []string{"int"}},
		{impl.CkClash, "PStr \"\"", []string{"string"}},
		{impl.CkClash, "PTuple", []string{"()"}},
		{impl.CkClash, "PTuple(PWild, PWild)", []string{"(int, string)"}},
		{impl.CkClash, "PTuple(PWild, PStr \"\", PInt 1)", []string{"(int, string, int)"}},
		{impl.CkClash, "PTuple(PWild, PWild, PWild, PWild)", nil},
		{impl.CkClash, "PCon \"true\"", []string{"bool"}},
		{impl.CkClash, "PCon \"nil\"", []string{"list(int)", "list(string)"}},
		{impl.CkClash, "PCon \"::\"(PWild)", []string{"list(int)", "list(string)"}},
		{impl.CkClash, "PCon \"Some\"(PWild)", []string{"opt(int)", "opt((int, string))"}},
		{impl.CkClash, "PCon \"None\"", []string{"opt(int)", "opt((int, string))"}},
		{impl.CkClash, "PCon \"Two\"(PTuple(PWild, PWild))", []string{"two(int, string)", "two(string, int)"}},
		{impl.CkClash, "PCon \"Neither\"", []string{"two(int, string)", "two(string, int)"}},
		{impl.CkClash, "PCon \"Div\"", []string{"exn"}},
		{impl.CkClash, "PCon \"F\"(PInt 1)", []string{"exn"}},
		{impl.CkClash, "PCon \"B\"(PCon \"B\"(PCon \"A\"))", []string{"t"}},
		{impl.CkClash, "PCon \"Nest\"(PCon \"Nest\"(PWild))", []string{"nest(int)"}},
		{impl.CkClash, "PCon \"Fan\"(QVar 1([t, fan(t)]))", []string{"fan(t)"}},
		{impl.CkClash, "PCon \"Box\"(PCon \"A\")", []string{"fan(t)"}},
		{impl.CkClash, "QVar 1(two(int, string))", []string{"two(int, string)"}},
		{impl.CkClash, "QAs 1((int, string), PWild)", []string{"(int, string)"}},
		{impl.CkClash, "QAs 1(list(int), PCon \"::\"(PTuple(PInt 1, QVar 2(list(int)))))", []string{"list(int)"}},
		{impl.CkCon, "PCon \"Foo\"", nil},
		{impl.CkCon, "PCon \"Foo\"(PWild)", nil},
		{impl.CkCon, "PCon \"Some\"", nil},
		{impl.CkCon, "PCon \"::\"", nil},
		{impl.CkCon, "PCon \"nil\"(PWild)", nil},
		{impl.CkCon, "PCon \"true\"(PTuple)", nil},
		{impl.CkCon, "PCon \"F\"", nil},
		{impl.CkCon, "PCon \"Div\"(PWild)", nil},
		{impl.CkCon, "PCon \"ref\"(PWild)", nil},
		{impl.CkCon, "PCon \"opt\"", nil},
		{impl.CkCon, "PCon \"\"", nil},
	} {
		for _, ty := range types {
			if isOneOf(ty, c.fits...) {
				typeIsShown(t, held(ty, c.pat), "["+ty+", int]")
			} else {
				failsShown(t, c.code, held(ty, c.pat+"!"))
			}
		}
	}
}

func TestTypeOfPatternsInOrder(t *testing.T) {
	held := func(ty string, pat string) string {
		return "CLam 1(" + ty + ", CCase \"Match\"(CVar 1, CRule(" + pat + ", CVar 9)))"
	}
	for _, c := range []struct {
		code int
		ty   string
		pat  string
	}{
		// Kids, one after the other, each with its type.
		{impl.CkClash, "(int, string)", "PTuple(PStr \"\"!, PInt 1)"},
		{impl.CkClash, "(int, string)", "PTuple(PInt 1, PInt 1!)"},
		{impl.CkClash, "(int, (string, t))", "PTuple(PInt 1, PTuple(PWild, PInt 1!))"},
		{impl.CkClash, "two(int, string)", "PCon \"Two\"(PTuple(PInt 1!, PStr \"\"))"},
		{impl.CkClash, "two(int, string)", "PCon \"Two\"(PTuple(PStr \"\", PStr \"\"!))"},
		{impl.CkClash, "two(int, string)", "PCon \"Two\"(PInt 1!)"},
		{impl.CkClash, "opt(opt(int))", "PCon \"Some\"(PCon \"Some\"(PStr \"\"!))"},
		{impl.CkClash, "opt(opt(int))", "PCon \"Some\"(PInt 1!)"},
		{impl.CkClash, "nest(int)", "PCon \"Nest\"(PCon \"Nest\"(QVar 1(nest((int, int)))!))"},
		{impl.CkVar, "nest(int)", "PCon \"Nest\"(PCon \"Nest\"(QVar 1(nest(((int, int), (int, int))))))"},
		{impl.CkClash, "exn", "PCon \"F\"(PStr \"\"!)"},
		{impl.CkClash, "list(int)", "PCon \"::\"(PTuple(PWild, PCon \"::\"(PTuple(PStr \"\"!, PWild))))"},
		// The written type of a node before the node, the node before its kids.
		{impl.CkScope, "int", "QVar 1(#1!)"},
		{impl.CkType, "int", "QVar 1(u!)"},
		{impl.CkScope, "int", "QAs 1(#1!, PStr \"\")"},
		{impl.CkClash, "int", "QAs 1(string, PStr \"\")!"},
		{impl.CkClash, "int", "QAs 1(string, QVar 1(#1))!"},
		{impl.CkClash, "int", "QAs 1(int, QVar 1(string)!)"},
		{impl.CkScope, "int", "QAs 1(int, QVar 1(#1!))"},
		{impl.CkClash, "int", "PTuple(QVar 1(#1), PWild)!"},
		{impl.CkClash, "(int, int)", "PTuple(QVar 1(#1), PWild, PWild)!"},
		{impl.CkScope, "(int, int)", "PTuple(PInt 1, QVar 1(#1!))"},
		{impl.CkClash, "(int, int)", "PTuple(PStr \"\"!, QVar 1(#1))"},
		{impl.CkClash, "(int, int)", "PTuple(PTuple!, PCon \"Foo\")"},
		{impl.CkCon, "(int, int)", "PTuple(PCon \"Foo\"!, PTuple)"},
		{impl.CkCon, "int", "PCon \"Foo\"(QVar 1(#1))!"},
		{impl.CkCon, "int", "PCon \"Some\"!"},
		{impl.CkCon, "int", "PCon \"None\"(QVar 1(#1))!"},
		{impl.CkClash, "int", "PCon \"Some\"(QVar 1(#1))!"},
		{impl.CkScope, "opt(int)", "PCon \"Some\"(QVar 1(#1!))"},
		{impl.CkClash, "opt(int)", "PCon \"Some\"(PCon \"Some\"(QVar 1(#1))!)"},
		// The pattern before the code.
		{impl.CkClash, "int", "PStr \"\"!"},
	} {
		shown := held(c.ty, c.pat)
		if !strings.Contains(c.pat, "!") {
			shown = strings.Replace(shown, "CVar 9", "CVar 9!", 1)
		}
		failsShown(t, c.code, shown)
	}
}
