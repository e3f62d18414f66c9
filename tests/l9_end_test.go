package tests

import (
	"testing"

	"loop.example/s02665/impl"
)

// Unknowns that are left become unit, in binders and in uses.
func TestEndUnit(t *testing.T) {
	bindersAre(t, "val r = ref nil", "r: ref(list(()))")
	usesAre(t, "val r = ref nil", "EVar ref: list(())", "ECon nil: ()", "DVal: ref(list(()))")
	bindersAre(t, "val (a, b) = (ref nil, ref nil)", "a: ref(list(()))", "b: ref(list(()))")
	bindersAre(t, "val f = (fn x => x) (fn y => y)", "f: [(), ()]", "x: [(), ()]", "y: ()")
	usesAre(t, "val f = (fn x => x) (fn y => y)", "EFn: [(), ()]", "EFn: ()", "DVal: [(), ()]")
	bindersAre(t, "val a = raise Div", "a: ()")
	usesAre(t, "val a = raise Div", "ERaise: ()", "DVal: ()")
	bindersAre(t, "fun f () = let val r = ref nil in 1 end", "r: ref(list(()))", "f: [(), int]")
	bindersAre(t, "fun f x = (fn y => 1) nil", "x: #1", "y: list(())", "f 1 from 1: [#1, int]")
	usesAre(t, "val _ = nil = nil", "ECon nil: ()", "ECon nil: ()", "DVal: bool")
	usesAre(t, "fun f (x : 'a) = x val a = f", "FBind f: #1", "EVar f: #2", "DVal: [#2, #2]")
	// What is told by a dec behind is no unknown any more.
	bindersAre(t, "val r = ref nil val f = fn () => !r val a = r := [1]", "r: ref(list(int))", "f: [(), list(int)]", "a: ()")
	usesAre(t, "val r = ref nil val a = r := [1]", "EVar ref: list(int)", "ECon nil: int", "DVal: ref(list(int))", "ECon ::: int", "ECon nil: int", "DVal: ()")
}

func TestEndBinders(t *testing.T) {
	program := resolved(t, "val x as (y, _) = (1, 2) fun f z = fn w => let val v = z in v end and g u = f")
	typed := checkInfer(t, program)
	nodes := []int{}
	for i, n := range program {
		if isOneOf(n.Kind, impl.PVar, impl.PAs, impl.FBind) {
			nodes = append(nodes, i)
		}
	}
	if typed.Code != impl.TyOk || len(typed.Binders) != len(nodes) {
		t.Fatalf("%s", typedShown(typed))
	}
	for k, b := range typed.Binders {
		if b.Num != int64(k+1) || b.Node != nodes[k] || b.Name != program[nodes[k]].Text {
			t.Errorf("binder %d: %d %s at %d", k, b.Num, b.Name, b.Node)
		}
	}
	bindersAre(t, "val x as (y, _) = (1, 2) fun f z = fn w => let val v = z in v end and g u = f",
		"y: int", "x: (int, int)", "z: #1", "w: #2", "v: #1", "f 3 from 1: [#1, [#2, #1]]", "u: #3", "g 3 from 1: [#3, [#1, [#2, #1]]]")
	bindersAre(t, "")
	bindersAre(t, "datatype t = A exception E of int type 'a u = 'a list")
	// A binder that is hidden has its type as others have.
	bindersAre(t, "val x = 1 val x = true val x = x", "x: int", "x: bool", "x: bool")
}

// Each kind of node that has a use, and each that has none.
func TestEndUses(t *testing.T) {
	front := "datatype 'a opt = None | Some of 'a datatype ('a, 'b) two = Two of 'b | No datatype c = Red | Mix of c exception Num of int "
	for _, c := range []struct {
		exp  string
		uses []string
	}{
		{"1", nil}, {`""`, nil}, {"()", nil}, {"(1, 2)", nil}, {"true", nil}, {"1 + 2", nil}, {"1 = 2", nil}, {"~ 1", nil}, {"if true then 1 else 2", nil}, {"(1; 2)", nil},
		{"while true do 1", nil}, {"1 : int", nil}, {"true andalso false", nil}, {"false orelse true", nil},
		{"Red", nil}, {"Mix Red", nil}, {"Num 1", nil}, {"Match", nil}, {"print", nil}, {"size \"\"", nil}, {"not true", nil}, {"(sub, cut, chr, show)", nil},
		{"case 1 of _ => 2", nil}, {"1 handle Num x => x", nil}, {"case Red of Mix Red => 1 | x => 2", nil},
		{"nil", []string{"ECon nil: ()"}},
		{"[1]", []string{"ECon ::: int", "ECon nil: int"}},
		{"Some true", []string{"ECon Some: bool"}},
		{"None", []string{"ECon None: ()"}},
		{"Two 1", []string{"ECon Two: (), int"}},
		{"No", []string{"ECon No: (), ()"}},
		{"No : (int, bool) two", []string{"ECon No: int, bool"}},
		{"ref 1", []string{"EVar ref: int"}},
		{"(ref, !(ref \"\"))", []string{"EVar ref: ()", "EVar ref: string"}},
		{"raise Div", []string{"ERaise: ()"}},
		{"1 + (raise Div)", []string{"ERaise: int"}},
		{"raise raise Div", []string{"ERaise: exn", "ERaise: ()"}},
		{"(fn 1 => true | _ => false)", []string{"EFn: int"}},
		{"(fn (x, 1) => x) (true, 1)", []string{"EFn: (bool, int)"}},
		{"(fn x => fn y => x + 1) 2", []string{"EFn: ()", "EFn: int"}},
		{"case Some 1 of Some x => 1 | None => 2", []string{"ECon Some: int", "PCon Some: int", "PCon None: int"}},
		{"case nil of nil => 1 | x :: y => x", []string{"ECon nil: int", "PCon nil: int", "PCon ::: int"}},
		{"let val x = 1 in x end", []string{"DVal: int"}},
		{"let val (x, _) = (1, nil) in x end", []string{"ECon nil: ()", "DVal: (int, list(()))"}},
		{"let fun f 1 true = 2 | f _ _ = 3 in f 1 end", []string{"FBind f: int, bool"}},
		{"let fun f x y z = y + 1 in f 1 2 true end", []string{"FBind f: #1, int, #2", "EVar f: int, bool"}},
	} {
		program, typed := typesFound(t, front+"val _ = "+c.exp)
		last := typed.Uses[len(typed.Uses)-1]
		if program[last.Node].Kind != impl.DVal || last.Node != len(program)-2 {
			t.Errorf("%s: the last use is at node %d", c.exp, last.Node)
		}
		whole := last.Types[0]
		usesAre(t, front+"val _ = ("+c.exp+")", append(c.uses, "DVal: "+plainShown(whole))...)
	}
	// Binders of patterns, and what is bound by functions, are no uses.
	usesAre(t, "fun f x = x + 1", "FBind f: int")
	usesAre(t, "fun f (x as y) _ (z : int) = 1", "FBind f: #1, #2, int")
	usesAre(t, "datatype 'a t = A of 'a type 'a u = 'a t exception E")
}

// A clause whose type was made before, with an unknown in the place of what it is made of now.
func TestEndUsesOfTypesMadeBefore(t *testing.T) {
	usesAre(t, "val a = fn h => (h = (fn 1 => 1), fn 2 => h) fun f 1 2 = 3", "EFn: int", "EFn: int", "EFn: [int, int]", "DVal: [[int, int], (bool, [int, [int, int]])]", "FBind f: int, int")
	usesAre(t, "val a = fn h => (h = (fn 1 => 1), fn () => h) fun f () 2 = 3 fun g 1 = 2", "EFn: int", "EFn: ()", "EFn: [int, int]",
		"DVal: [[int, int], (bool, [(), [int, int]])]", "FBind f: (), int", "FBind g: int")
}

// Types of the variables of a binder where it is used.
func TestEndUsesOfBinders(t *testing.T) {
	usesAre(t, "fun id x = x val a = (id 1, nil, id)",
		"FBind id: #1", "EVar id: int", "ECon nil: ()", "EVar id: ()", "DVal: (int, list(()), [(), ()])")
	usesAre(t, "fun k x y = x val a = k 1 true val b = k", "FBind k: #1, #2", "EVar k: int, bool", "DVal: int", "EVar k: #3, #4", "DVal: [#3, [#4, #3]]")
	// All variables of a DFun, also those that are not the function's own.
	usesAre(t, "fun f x = 1 and g y = 2 val a = (f true, g \"\")", "FBind f: #1", "FBind g: #2", "EVar f: bool, ()", "EVar g: (), string", "DVal: (int, int)")
	// Without variables there is no use, generalised or not.
	usesAre(t, "fun f x = x + 1 val g = f val a = g 1", "FBind f: int", "DVal: [int, int]", "DVal: int")
	usesAre(t, "val r = ref nil val a = r val b = (r, a)", "EVar ref: list(())", "ECon nil: ()", "DVal: ref(list(()))", "DVal: ref(list(()))", "DVal: (ref(list(())), ref(list(())))")
	usesAre(t, "fun f x = let val y = x in (x, y) end", "DVal: #1", "FBind f: #1")
	// Inside of its own DFun a function is used with its own variables.
	usesAre(t, "fun f x y = f y y", "EVar f: #1, #2", "FBind f: #1, #1")
	usesAre(t, "fun f x = g x and g y = (f y; y)", "EVar g: #1", "FBind f: #1", "EVar f: #1", "FBind g: #1")
	usesAre(t, "fun f x = 1 and g y = (f, f)", "FBind f: #1", "EVar f: #1, #2", "EVar f: #1, #2", "FBind g: #2")
	usesAre(t, "fun f x = f (x + 1)", "EVar f: #1", "FBind f: int")
	usesAre(t, "fun f x = f x + 1 val a = f 2", "EVar f: #1", "FBind f: #1", "EVar f: int", "DVal: int")
	usesAre(t, "fun f x = let fun g y = f y in g x end", "EVar f: #1, #2", "FBind g: #1", "FBind f: #1")
	usesAre(t, "fun f 0 = 0 | f x = f (x - 1)", "FBind f: int")
	// The variables of one that is around.
	usesAre(t, "fun o x = let fun k y = (x, y) in (k 1, k x) end", "FBind k: #1", "EVar k: int", "EVar k: #2", "FBind o: #2")
	usesAre(t, "fun o x = let val n = nil in (x :: n, n) end", "ECon nil: #1", "DVal: list(#1)", "ECon ::: #2", "EVar n: #2", "EVar n: #3", "FBind o: #2")
}

// Uses have the types that are found later too, and those of variables where they were generalised.
func TestEndUsesLater(t *testing.T) {
	usesAre(t, "fun f x = let val r = ref nil in (r := [x], r) end",
		"EVar ref: list(#1)", "ECon nil: #1", "DVal: ref(list(#1))", "ECon ::: #1", "ECon nil: #1", "FBind f: #1")
	usesAre(t, "val f = fn x => (raise Div; raise x)", "ERaise: ()", "ERaise: #1", "EFn: exn", "DVal: [exn, #1]")
	usesAre(t, "fun f nil = nil | f (_ :: y) = f y", "PCon nil: #1", "ECon nil: #2", "PCon ::: #1", "EVar f: #1, #2", "FBind f: list(#1)")
}
