package tests

import (
	"strings"
	"testing"

	"loop.example/s02665/impl"
)

// The example of the chapter, node for node.
func TestElaborateExample(t *testing.T) {
	n := func(kind int, num int64, text string, kids int) impl.Node {
		return impl.Node{Kind: kind, Num: num, Text: text, Kids: kids}
	}
	want := []impl.Node{
		n(impl.TNum, 1, "", 0), n(impl.TNum, 1, "", 0), n(impl.TArrow, 0, "", 2), n(impl.TAll, 1, "", 1),
		n(impl.TNum, 1, "", 0),
		n(impl.CVar, 3, "", 0),
		n(impl.TNum, 1, "", 0), n(impl.QVar, 1, "", 1), n(impl.CVar, 1, "", 0), n(impl.CRule, 0, "", 2),
		n(impl.CCase, 0, "Match", 2), n(impl.CLam, 3, "", 2), n(impl.CAll, 1, "", 1), n(impl.CBnd, 2, "", 2),
		n(impl.CTuple, 0, "", 0),
		n(impl.CVar, 2, "", 0), n(impl.TTuple, 0, "", 0), n(impl.CInst, 0, "", 2),
		n(impl.CTuple, 0, "", 2), n(impl.CFix, 0, "", 2),
	}
	got, code := impl.Elaborate(resolved(t, "fun id x = x"))
	if code != impl.CoOk || len(got) != len(want) {
		t.Fatalf("code %d, %s", code, codeShown(got))
	}
	for i := range want {
		if got[i] != want[i] {
			t.Errorf("node %d is %v, want %v", i, got[i], want[i])
		}
	}
	codeIs(t, "fun id x = x", `CFix(CBnd 2(TAll 1([#1, #1]), CAll 1(CLam 3(#1, CCase "Match"(CVar 3, CRule(QVar 1(#1), CVar 1))))), CTuple(CTuple, CInst(CVar 2, ())))`)
}

func TestElaborateConstants(t *testing.T) {
	for _, c := range [][2]string{
		{"1", "CInt 1"},
		{"0", "CInt 0"},
		{"~9223372036854775808", "CInt -9223372036854775808"},
		{`"s"`, `CStr "s"`},
		{`""`, `CStr ""`},
		{`"\000\255\n"`, `CStr "\x00\xff\n"`},
		{"()", "CTuple"},
		{"(1, \"\")", `CTuple(CInt 1, CStr "")`},
		{"(1, (), (2, 3), 4)", "CTuple(CInt 1, CTuple, CTuple(CInt 2, CInt 3), CInt 4)"},
	} {
		expCodeIs(t, c[0], c[1])
	}
}

// Constructors have the types of their use, in the order of the datatype's params.
func TestElaborateConstructors(t *testing.T) {
	for _, c := range [][2]string{
		{"true", `CCon "true"`},
		{"Stop", `CCon "Stop"`},
		{"Num", `CCon "Num"`},
		{"A", `CCon "A"`},
		{"nil", `CCon "nil"(())`},
		{"op ::", `CCon "::"(())`},
		{"None", `CCon "None"(())`},
		{"No", `CCon "No"((), ())`},
		{"[true]", `CApp(CCon "::"(bool), CTuple(CCon "true", CCon "nil"(bool)))`},
		{"Some (1, \"\")", `CApp(CCon "Some"((int, string)), CTuple(CInt 1, CStr ""))`},
		{"Two (1, \"\")", `CApp(CCon "Two"(string, int), CTuple(CInt 1, CStr ""))`},
		{"(Two : bool * int -> (int, bool) two)", `CCon "Two"(int, bool)`},
		{"Num 3", `CApp(CCon "Num", CInt 3)`},
		{"B (1, A)", `CApp(CCon "B", CTuple(CInt 1, CCon "A"))`},
		{"fn Some x => [x] | None => nil", `CLam 2(opt(()), CCase "Match"(CVar 2, CRule(PCon "Some"(QVar 1(())), CApp(CCon "::"(()), CTuple(CVar 1, CCon "nil"(())))), CRule(PCon "None", CCon "nil"(()))))`},
	} {
		expCodeIs(t, c[0], c[1])
	}
}

func TestElaborateGivenValues(t *testing.T) {
	for _, c := range [][2]string{
		{"print", "CGiven -1"},
		{"size", "CGiven -2"},
		{"sub", "CGiven -3"},
		{"cut", "CGiven -4"},
		{"chr", "CGiven -5"},
		{"show", "CGiven -6"},
		{"not", "CGiven -7"},
		{"ref", "CGiven -8(())"},
		{"ref 1", "CApp(CGiven -8(int), CInt 1)"},
		{"ref (ref [true])", `CApp(CGiven -8(ref(list(bool))), CApp(CGiven -8(list(bool)), CApp(CCon "::"(bool), CTuple(CCon "true", CCon "nil"(bool)))))`},
		{"print (show 1)", "CApp(CGiven -1, CApp(CGiven -6, CInt 1))"},
	} {
		expCodeIs(t, c[0], c[1])
	}
	codeIs(t, "val r = ref", "CLet 1(TAll 1([#1, ref(#1)]), CAll 1(CGiven -8(#1)), CTuple(CTuple, CInst(CVar 1, ())))")
	// A binder of the same name is a binder.
	codeIs(t, "val ref = 1 val _ = ref", `CLet 1(int, CInt 1, CCase "Bind"(CVar 1, CRule(PWild, CTuple(CTuple, CVar 1))))`)
}

func TestElaborateOperators(t *testing.T) {
	for _, op := range strings.Fields("+ - * / % < <= > >= = <>") {
		expCodeIs(t, "1 "+op+" 2", `CBin "`+op+`"(CInt 1, CInt 2)`)
	}
	for _, c := range [][2]string{
		{`"a" ^ "b"`, `CBin "^"(CStr "a", CStr "b")`},
		{"ref 1 := 2", `CBin ":="(CApp(CGiven -8(int), CInt 1), CInt 2)`},
		{"1 - 2 - 3", `CBin "-"(CBin "-"(CInt 1, CInt 2), CInt 3)`},
		{"~ 1", `CUn "~"(CInt 1)`},
		{"~1", "CInt -1"},
		{"!(ref 1)", `CUn "!"(CApp(CGiven -8(int), CInt 1))`},
		{"while true do 1", `CWhile(CCon "true", CInt 1)`},
		{"(1 : int)", "CInt 1"},
		{"((1 : int, nil : 'a list) : int * 'b)", `CTuple(CInt 1, CCon "nil"(()))`},
		{"not true", `CApp(CGiven -7, CCon "true")`},
		{"show 1", "CApp(CGiven -6, CInt 1)"},
	} {
		expCodeIs(t, c[0], c[1])
	}
}

// Rules: one and several, in the order in which they stand.
func TestElaborateMatches(t *testing.T) {
	for _, c := range [][2]string{
		{"fn x => x", `CLam 2((), CCase "Match"(CVar 2, CRule(QVar 1(()), CVar 1)))`},
		{"fn _ => 1", `CLam 1((), CCase "Match"(CVar 1, CRule(PWild, CInt 1)))`},
		{"fn 1 => 2 | 3 => 4 | _ => 5", `CLam 1(int, CCase "Match"(CVar 1, CRule(PInt 1, CInt 2), CRule(PInt 3, CInt 4), CRule(PWild, CInt 5)))`},
		{"case 1 of x => x", `CCase "Match"(CInt 1, CRule(QVar 1(int), CVar 1))`},
		{"case 1 of 2 => 3 | 4 => 5", `CCase "Match"(CInt 1, CRule(PInt 2, CInt 3), CRule(PInt 4, CInt 5))`},
		{"1 handle _ => 2", `CTry(CInt 1, CRule(PWild, CInt 2))`},
		{"1 handle Num x => x | Stop => 3 | y => 4", `CTry(CInt 1, CRule(PCon "Num"(QVar 1(int)), CVar 1), CRule(PCon "Stop", CInt 3), CRule(QVar 2(exn), CInt 4))`},
		{"raise Stop", `CRaise((), CCon "Stop")`},
		{"1 + (raise Num 2)", `CBin "+"(CInt 1, CRaise(int, CApp(CCon "Num", CInt 2)))`},
		{"raise raise Stop", `CRaise((), CRaise(exn, CCon "Stop"))`},
		{"fn x => raise x", `CLam 2(exn, CCase "Match"(CVar 2, CRule(QVar 1(exn), CRaise((), CVar 1))))`},
	} {
		expCodeIs(t, c[0], c[1])
	}
	// An EFn has the type of its first rule's pattern, in which variables of decs around stand.
	codeIs(t, "fun f x = fn y => (x, y)", `CFix(CBnd 3(TAll 1(TAll 2([#1, [#2, (#1, #2)]])), CAll 1(CAll 2(CLam 5(#1, CCase "Match"(CVar 5, CRule(QVar 1(#1), `+
		`CLam 4(#2, CCase "Match"(CVar 4, CRule(QVar 2(#2), CTuple(CVar 1, CVar 2)))))))))), CTuple(CTuple, CInst(CInst(CVar 3, ()), ())))`)
}

func TestElaborateChoices(t *testing.T) {
	yes := func(c string) string { return `CRule(PCon "true", ` + c + ")" }
	no := func(c string) string { return `CRule(PCon "false", ` + c + ")" }
	match := func(parts ...string) string { return `CCase "Match"(` + strings.Join(parts, ", ") + ")" }
	tr, fa := `CCon "true"`, `CCon "false"`
	for _, c := range [][2]string{
		{"if true then 1 else 2", match(tr, yes("CInt 1"), no("CInt 2"))},
		{"if false then 1 else if true then 2 else 3", match(fa, yes("CInt 1"), no(match(tr, yes("CInt 2"), no("CInt 3"))))},
		{"false andalso true", match(fa, yes(tr), no(fa))},
		{"false orelse false", match(fa, yes(tr), no(fa))},
		{"true orelse false andalso true", match(tr, yes(tr), no(match(fa, yes(tr), no(fa))))},
		{"(1 = 2) andalso (3 = 4)", match(`CBin "="(CInt 1, CInt 2)`, yes(`CBin "="(CInt 3, CInt 4)`), no(fa))},
		{"(1 = 2) orelse (3 = 4)", match(`CBin "="(CInt 1, CInt 2)`, yes(tr), no(`CBin "="(CInt 3, CInt 4)`))},
	} {
		expCodeIs(t, c[0], c[1])
	}
	// The constants that are put in have no types, whatever node stands first in the program.
	codeIs(t, "val nil = if true andalso false then nil else [1]", `CCase "Bind"(`+match(match(tr, yes(fa), no(fa)), yes(`CCon "nil"(int)`), no(`CApp(CCon "::"(int), CTuple(CInt 1, CCon "nil"(int)))`))+`, CRule(PCon "nil", CTuple))`)
	codeIs(t, "val nil = if true orelse false then nil else [1]", `CCase "Bind"(`+match(match(tr, yes(tr), no(fa)), yes(`CCon "nil"(int)`), no(`CApp(CCon "::"(int), CTuple(CInt 1, CCon "nil"(int)))`))+`, CRule(PCon "nil", CTuple))`)
}

func TestElaborateSequences(t *testing.T) {
	for _, c := range [][2]string{
		{"(1; 2)", `CCase "Match"(CInt 1, CRule(PWild, CInt 2))`},
		{"(1; 2; 3)", `CCase "Match"(CInt 1, CRule(PWild, CCase "Match"(CInt 2, CRule(PWild, CInt 3))))`},
		{"((1; 2); (3; 4); 5)", `CCase "Match"(CCase "Match"(CInt 1, CRule(PWild, CInt 2)), CRule(PWild, CCase "Match"(CCase "Match"(CInt 3, CRule(PWild, CInt 4)), CRule(PWild, CInt 5))))`},
		{"let val x = 1 in x; 2; 3 end", `CLet 1(int, CInt 1, CCase "Match"(CVar 1, CRule(PWild, CCase "Match"(CInt 2, CRule(PWild, CInt 3)))))`},
	} {
		expCodeIs(t, c[0], c[1])
	}
}

func TestElaborateLets(t *testing.T) {
	for _, c := range [][2]string{
		{"let val x = 1 in x end", "CLet 1(int, CInt 1, CVar 1)"},
		{"let val x = 1 val y = x in (x, y) end", "CLet 1(int, CInt 1, CLet 2(int, CVar 1, CTuple(CVar 1, CVar 2)))"},
		{"let val _ = 1 val (x, 2) = (3, 4) in x end", `CCase "Bind"(CInt 1, CRule(PWild, CCase "Bind"(CTuple(CInt 3, CInt 4), CRule(PTuple(QVar 1(int), PInt 2), CVar 1))))`},
		{"let fun f 1 = 2 val x = f 3 in x end", `CFix(CBnd 1([int, int], CLam 3(int, CCase "Match"(CVar 3, CRule(PInt 1, CInt 2)))), CLet 2(int, CApp(CVar 1, CInt 3), CVar 2))`},
		{"let val n = nil in (1 :: n, true :: n) end", `CLet 1(TAll 1(list(#1)), CAll 1(CCon "nil"(#1)), CTuple(CApp(CCon "::"(int), CTuple(CInt 1, CInst(CVar 1, int))), CApp(CCon "::"(bool), CTuple(CCon "true", CInst(CVar 1, bool)))))`},
		// What stands in a dec of a let ends there.
		{"let val x = let val y = 1 in y end val z = (2; 3) in (x, z) end", `CLet 1(int, CLet 2(int, CInt 1, CVar 2), CLet 3(int, CCase "Match"(CInt 2, CRule(PWild, CInt 3)), CTuple(CVar 1, CVar 3)))`},
		{"(let val x = 1 in x end; let val y = 2 in y end)", `CCase "Match"(CLet 1(int, CInt 1, CVar 1), CRule(PWild, CLet 2(int, CInt 2, CVar 2)))`},
	} {
		expCodeIs(t, c[0], c[1])
	}
}

func TestElaborateUses(t *testing.T) {
	codeIs(t, "fun k x y = x val a = k 1 true", `CFix(CBnd 3(TAll 1(TAll 2([#1, [#2, #1]])), CAll 1(CAll 2(CLam 5(#1, CLam 6(#2, CCase "Match"(CTuple(CVar 5, CVar 6), CRule(PTuple(QVar 1(#1), QVar 2(#2)), CVar 1))))))), `+
		`CLet 4(int, CApp(CApp(CInst(CInst(CVar 3, int), bool), CInt 1), CCon "true"), CTuple(CTuple, CInst(CInst(CVar 3, ()), ()), CVar 4)))`)
	// Within its own dec a function has its variables themselves.
	codeIs(t, "fun f x = f x", `CFix(CBnd 2(TAll 1(TAll 2([#1, #2])), CAll 1(CAll 2(CLam 3(#1, CCase "Match"(CVar 3, CRule(QVar 1(#1), CApp(CInst(CInst(CVar 2, #1), #2), CVar 1))))))), CTuple(CTuple, CInst(CInst(CVar 2, ()), ())))`)
	// No variables: the binder alone.
	codeIs(t, "val f = fn 1 => 2 val a = f 3", `CLet 1([int, int], CLam 3(int, CCase "Match"(CVar 3, CRule(PInt 1, CInt 2))), CLet 2(int, CApp(CVar 1, CInt 3), CTuple(CTuple, CVar 1, CVar 2)))`)
}

func TestElaboratePatterns(t *testing.T) {
	for _, c := range [][2]string{
		{"_", "PWild"},
		{"x", "QVar 1(())"},
		{"7", "PInt 7"},
		{"~7", "PInt -7"},
		{`"s"`, `PStr "s"`},
		{`""`, `PStr ""`},
		{"()", "PTuple"},
		{"(x, 1)", "PTuple(QVar 1(()), PInt 1)"},
		{"(1, (2, _), x)", "PTuple(PInt 1, PTuple(PInt 2, PWild), QVar 1(()))"},
		{"Stop", `PCon "Stop"`},
		{"Num x", `PCon "Num"(QVar 1(int))`},
		{"nil", `PCon "nil"`},
		{"(x :: 1 :: y)", `PCon "::"(PTuple(QVar 1(int), PCon "::"(PTuple(PInt 1, QVar 2(list(int))))))`},
		{"Two (x, 1)", `PCon "Two"(PTuple(QVar 1(()), PInt 1))`},
		{"(x as 1)", "QAs 1(int, PInt 1)"},
		{"(x as (y, z as true))", `QAs 3(((), bool), PTuple(QVar 1(()), QAs 2(bool, PCon "true")))`},
		{"(x : int)", "QVar 1(int)"},
		{"((x : int, 1 : int) : int * int)", "PTuple(QVar 1(int), PInt 1)"},
		{"(x as (y : int))", "QAs 2(int, QVar 1(int))"},
		{"Some (x : 'a)", `PCon "Some"(QVar 1(()))`},
		{"(_ : string)", "PWild"},
	} {
		for _, src := range []string{"fn %s => 0", "case (raise Stop) of %s => 0", "case raise Stop of ((%s) : 'z) => 0"} {
			got := inBind(t, nodesFront+"val _ = "+strings.ReplaceAll(src, "%s", c[0]))
			if !strings.Contains(got, "CRule("+c[1]+", CInt 0)") {
				t.Errorf("%s: %s, want %s", c[0], got, c[1])
			}
		}
		// At the left of a val alone it is a pattern too, but for a name.
		if c[0] != "x" {
			got := codeShown(checkCode(t, resolved(t, nodesFront+"val "+c[0]+" = raise Stop")))
			if !strings.HasPrefix(got, `CCase "Bind"(CRaise(`) || !strings.Contains(got, ", CRule("+c[1]+", CTuple") {
				t.Errorf("val %s: %s, want %s", c[0], got, c[1])
			}
		}
	}
}

func TestElaborateVals(t *testing.T) {
	codeIs(t, "val x = 1", "CLet 1(int, CInt 1, CTuple(CTuple, CVar 1))")
	codeIs(t, "val x = nil", `CLet 1(TAll 1(list(#1)), CAll 1(CCon "nil"(#1)), CTuple(CTuple, CInst(CVar 1, ())))`)
	codeIs(t, "val x = (nil, fn y => y)", `CLet 1(TAll 1(TAll 2((list(#1), [#2, #2]))), CAll 1(CAll 2(CTuple(CCon "nil"(#1), CLam 3(#2, CCase "Match"(CVar 3, CRule(QVar 2(#2), CVar 2)))))), CTuple(CTuple, CInst(CInst(CVar 1, ()), ())))`)
	// The second list of variables goes on behind the first.
	codeIs(t, "val x = (nil, nil) val y = (nil, 1, nil)", `CLet 1(TAll 1(TAll 2((list(#1), list(#2)))), CAll 1(CAll 2(CTuple(CCon "nil"(#1), CCon "nil"(#2)))), `+
		`CLet 2(TAll 3(TAll 4((list(#3), int, list(#4)))), CAll 3(CAll 4(CTuple(CCon "nil"(#3), CInt 1, CCon "nil"(#4)))), CTuple(CTuple, CInst(CInst(CVar 1, ()), ()), CInst(CInst(CVar 2, ()), ()))))`)
	codeIs(t, "val x = ref nil", `CLet 1(ref(list(())), CApp(CGiven -8(list(())), CCon "nil"(())), CTuple(CTuple, CVar 1))`)
	// A type around a name makes it a pattern, and a name around a pattern too.
	codeIs(t, "val x : int = 1", `CCase "Bind"(CInt 1, CRule(QVar 1(int), CTuple(CTuple, CVar 1)))`)
	codeIs(t, "val x as y = 1", `CCase "Bind"(CInt 1, CRule(QAs 2(int, QVar 1(int)), CTuple(CTuple, CVar 1, CVar 2)))`)
	codeIs(t, "val x : 'a list = nil", `CCase "Bind"(CCon "nil"(()), CRule(QVar 1(list(())), CTuple(CTuple, CVar 1)))`)
	codeIs(t, "val (x : int) = 1 val x = 2", `CCase "Bind"(CInt 1, CRule(QVar 1(int), CLet 2(int, CInt 2, CTuple(CTuple, CVar 1, CVar 2))))`)
}

func TestElaborateFunctions(t *testing.T) {
	codeIs(t, "fun f 1 = 2 | f _ = 3", `CFix(CBnd 1([int, int], CLam 2(int, CCase "Match"(CVar 2, CRule(PInt 1, CInt 2), CRule(PWild, CInt 3)))), CTuple(CTuple, CVar 1))`)
	codeIs(t, "fun f 1 true = 2 | f _ _ = 3", `CFix(CBnd 1([int, [bool, int]], CLam 2(int, CLam 3(bool, CCase "Match"(CTuple(CVar 2, CVar 3), CRule(PTuple(PInt 1, PCon "true"), CInt 2), CRule(PTuple(PWild, PWild), CInt 3))))), CTuple(CTuple, CVar 1))`)
	codeIs(t, "fun f 1 \"\" () = 2", `CFix(CBnd 1([int, [string, [(), int]]], CLam 2(int, CLam 3(string, CLam 4((), CCase "Match"(CTuple(CVar 2, CVar 3, CVar 4), CRule(PTuple(PInt 1, PStr "", PTuple), CInt 2)))))), CTuple(CTuple, CVar 1))`)
	// One pattern that is a tuple is not taken apart.
	codeIs(t, "fun f (1, 2) = 3", `CFix(CBnd 1([(int, int), int], CLam 2((int, int), CCase "Match"(CVar 2, CRule(PTuple(PInt 1, PInt 2), CInt 3)))), CTuple(CTuple, CVar 1))`)
	// One list of variables for all.
	codeIs(t, "fun f x = 1 and g y = (f, y)", `CFix(CBnd 2(TAll 1(TAll 2([#1, int])), CAll 1(CAll 2(CLam 5(#1, CCase "Match"(CVar 5, CRule(QVar 1(#1), CInt 1)))))), `+
		`CBnd 4(TAll 1(TAll 2([#2, ([#1, int], #2)])), CAll 1(CAll 2(CLam 6(#2, CCase "Match"(CVar 6, CRule(QVar 3(#2), CTuple(CInst(CInst(CVar 2, #1), #2), CVar 3))))))), CTuple(CTuple, CInst(CInst(CVar 2, ()), ()), CInst(CInst(CVar 4, ()), ())))`)
	codeIs(t, "fun f x = g x and g y = (f y; y)", `CFix(CBnd 2(TAll 1([#1, #1]), CAll 1(CLam 5(#1, CCase "Match"(CVar 5, CRule(QVar 1(#1), CApp(CInst(CVar 4, #1), CVar 1)))))), `+
		`CBnd 4(TAll 1([#1, #1]), CAll 1(CLam 6(#1, CCase "Match"(CVar 6, CRule(QVar 3(#1), CCase "Match"(CApp(CInst(CVar 2, #1), CVar 3), CRule(PWild, CVar 3))))))), CTuple(CTuple, CInst(CVar 2, ()), CInst(CVar 4, ())))`)
}

// Decs that declare types and constructors leave nothing behind, wherever they stand.
func TestElaborateOtherDecs(t *testing.T) {
	for _, dec := range []string{"datatype t = A | B of int", "type 'a t = 'a * 'a", "exception E", "exception E of int", "datatype 'a t = A of 'a u and 'b u = B of 'b t | C"} {
		codeIs(t, dec, "CTuple")
		codeIs(t, dec+" val x = 1", "CLet 1(int, CInt 1, CTuple(CTuple, CVar 1))")
		codeIs(t, "val x = 1 "+dec, "CLet 1(int, CInt 1, CTuple(CTuple, CVar 1))")
		codeIs(t, "val x = 1 "+dec+" val y = x", "CLet 1(int, CInt 1, CLet 2(int, CVar 1, CTuple(CTuple, CVar 1, CVar 2)))")
	}
	codeIs(t, "", "CTuple")
}
