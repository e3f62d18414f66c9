package tests

import (
	"math/rand"
	"slices"
	"strconv"
	"strings"
	"testing"

	"loop.example/s02665/impl"
)

// Programs that are made up have the types that are found by hand.
func TestInferMadeUpPrograms(t *testing.T) {
	codes, counts, kinds := map[int]int{}, map[int]int{}, map[int]int{}
	codedPrograms(t, 800, func(c *coder, src string, program []impl.Node) {
		typed := checkInfer(t, program)
		codes[typed.Code]++
		for _, b := range typed.Binders {
			counts[min(b.Count, 4)]++
		}
		for _, u := range typed.Uses {
			kinds[program[u.Node].Kind]++
		}
		if typed.Code == impl.TyClash {
			kinds[-program[typed.Node].Kind]++
		}
	})
	if codes[impl.TyOk] < 1000 || codes[impl.TyClash] < 100 {
		t.Errorf("codes: %v", codes)
	}
	for count := range 5 {
		if counts[count] < 100 {
			t.Errorf("%d binders with %d variables", counts[count], count)
		}
	}
	for _, kind := range []int{impl.EVar, impl.ECon, impl.PCon, impl.ERaise, impl.EFn, impl.DVal, impl.FBind} {
		if kinds[kind] < 100 {
			t.Errorf("%d uses of kind %s", kinds[kind], kindName(kind))
		}
	}
	for _, kind := range []int{impl.EApp, impl.FBind, impl.DVal, impl.EBin, impl.EIf, impl.ECase, impl.EHandle, impl.EFn} {
		if kinds[-kind] < 3 {
			t.Errorf("%d clashes of kind %s", kinds[-kind], kindName(kind))
		}
	}
}

// Programs that are drawn, of which most are wrong somewhere.
func TestInferDrawnPrograms(t *testing.T) {
	codes := map[int]int{}
	drawnPrograms(t, 4000, func(d drawer, drawn []impl.Node, right []impl.Node) {
		codes[checkInfer(t, drawn).Code]++
		codes[checkInfer(t, resolvedTerm(t, right)).Code]++
	})
	if codes[impl.TyOk] < 300 || codes[impl.TyProgram] < 300 || codes[impl.TyClash] < 300 {
		t.Errorf("codes: %v", codes)
	}
}

// One node of a program with types is changed, and it may have none any more.
func TestInferChangedPrograms(t *testing.T) {
	codes := map[int]int{}
	codedPrograms(t, 300, func(c *coder, src string, program []impl.Node) {
		if impl.Infer(program).Code != impl.TyOk {
			return
		}
		for range 4 {
			changed := slices.Clone(program)
			i := c.rnd.Intn(len(changed))
			switch n := &changed[i]; n.Kind {
			case impl.EVar:
				n.Text = c.visible(treeOf(changed), i)
			case impl.ECon:
				n.Text = c.oneOf("nil", "true", "None", "Some", "Two", "No", "::", "Stop", "Num")
			case impl.EInt:
				*n = impl.Node{Kind: impl.EStr}
			case impl.EBin:
				n.Text = c.oneOf("+", "<", "=", "^", ":=")
			case impl.EUn:
				n.Text = c.oneOf("~", "!")
			case impl.PInt:
				*n = impl.Node{Kind: impl.PStr}
			case impl.PVar:
				*n = impl.Node{Kind: impl.PWild}
			}
			if it, code, _ := impl.Resolve(changed); code == impl.ScOk {
				codes[checkInfer(t, it).Code]++
			}
		}
	})
	if codes[impl.TyOk] < 300 || codes[impl.TyClash] < 300 {
		t.Errorf("codes: %v", codes)
	}
}

// moved is what an answer becomes when so many nodes, binders and variables stand in front.
func moved(typed impl.Typed, nodes int, binders int, vars int64) impl.Typed {
	raise := func(ty []impl.Node) []impl.Node {
		out := slices.Clone(ty)
		for i, n := range out {
			if n.Kind == impl.TNum {
				out[i].Num += vars
			}
		}
		return out
	}
	out := impl.Typed{Code: typed.Code}
	if typed.Code != impl.TyOk {
		out.Node = typed.Node + nodes
	}
	for _, b := range typed.Binders {
		b.Num, b.Node, b.Type = b.Num+int64(binders), b.Node+nodes, raise(b.Type)
		if b.Count > 0 {
			b.From += vars
		}
		out.Binders = append(out.Binders, b)
	}
	for _, u := range typed.Uses {
		types := [][]impl.Node{}
		for _, ty := range u.Types {
			types = append(types, raise(ty))
		}
		out.Uses = append(out.Uses, impl.Use{Node: u.Node + nodes, Types: types})
	}
	return out
}

// A dec in front that has nothing to do with a program changes no types but for numbers.
func TestInferPromiseOfDecsInFront(t *testing.T) {
	fronts := []string{
		"val zz = 1", "val _ = nil", "fun zz q = q", "fun zz q (r : 'a) = (q, r : 'b)", "val zz = ref nil", "val (zz, yy) = (ref nil, fn q => q)",
		"datatype ('a, 'b) zz = ZZ of 'a * 'b | YY", "exception ZZ of int list", "type 'a zz = 'a * int",
		"fun zz q = let fun yy r = (q, r) in yy 1 end val xx = (zz true, [])",
	}
	seen := map[int]int{}
	try := func(program []impl.Node) {
		typed := impl.Infer(program)
		seen[typed.Code]++
		for _, front := range fronts {
			before := resolved(t, front)
			alone, vars := impl.Infer(before), int64(0)
			for _, b := range alone.Binders {
				vars = max(vars, b.From+int64(b.Count)-1)
			}
			longer := resolvedTerm(t, programOf(slices.Concat(impl.Kids(before), impl.Kids(program))...))
			got := impl.Infer(longer)
			if got.Code == impl.TyOk {
				got.Binders, got.Uses = got.Binders[len(alone.Binders):], got.Uses[len(alone.Uses):]
			}
			if want := moved(typed, len(before)-1, len(alone.Binders), vars); typedShown(got) != typedShown(want) {
				t.Fatalf("%s\nbehind %s\n%s\nwant %s", impl.Print(program), front, typedShown(got), typedShown(want))
			}
		}
	}
	codedPrograms(t, 120, func(c *coder, src string, program []impl.Node) { try(program) })
	try(resolved(t, "val a = "+ones(impl.MaxType+1)))
	try(resolved(t, "val (a, b) = "+ones(impl.MaxType+1)))
	try(resolved(t, "fun p x = (x, x) val a = p (p (p (p (p (p (p (p 1)))))))"))
	try(resolved(t, "fun f x = x x"))
	if seen[impl.TyOk] < 100 || seen[impl.TyClash] < 10 || seen[impl.TyLarge] < 2 {
		t.Errorf("codes: %v", seen)
	}
}

// Names of binders do not matter.
func TestInferPromiseOfNames(t *testing.T) {
	codes := map[int]int{}
	codedPrograms(t, 300, func(c *coder, src string, program []impl.Node) {
		other := slices.Clone(program)
		for i, n := range other {
			if isOneOf(n.Kind, impl.PVar, impl.PAs, impl.FBind, impl.EVar) && n.Num > 0 {
				other[i].Text = "n" + strconv.FormatInt(n.Num, 10)
			}
		}
		if !impl.Resolved(other) {
			t.Fatalf("%s\nis not resolved", impl.Print(other))
		}
		want, got := impl.Infer(program), impl.Infer(other)
		for k := range want.Binders {
			want.Binders[k].Name = other[want.Binders[k].Node].Text
		}
		codes[got.Code]++
		if typedShown(got) != typedShown(want) {
			t.Fatalf("%s\n%s\nwant %s", impl.Print(other), typedShown(got), typedShown(want))
		}
	})
	if codes[impl.TyOk] < 300 || codes[impl.TyClash] < 30 {
		t.Errorf("codes: %v", codes)
	}
}

// Every type is an instance of its Scheme, and the types that stand for variables make it one.
func TestInferPromiseOfSchemes(t *testing.T) {
	uses := 0
	codedPrograms(t, 300, func(c *coder, src string, program []impl.Node) {
		typed := impl.Infer(program)
		last := int64(0)
		byNum := map[int64]impl.Binder{}
		for _, b := range typed.Binders {
			byNum[b.Num] = b
			scheme := impl.Scheme(b)
			if _, ok := impl.Instance(scheme, b.Type); !ok || !impl.Ground(b.Type) {
				t.Fatalf("%s\n%s: %s is no instance of %s", src, b.Name, plainShown(b.Type), plainShown(scheme))
			}
			if b.Count == 0 && b.From != 0 || b.Count < 0 || b.Count > 0 && b.From < 1 {
				t.Fatalf("%s\n%s has %d from %d", src, b.Name, b.Count, b.From)
			}
			last = max(last, b.From+int64(b.Count)-1)
		}
		for _, u := range typed.Uses {
			n := program[u.Node]
			if n.Kind != impl.EVar || n.Num < 0 {
				continue
			}
			b := byNum[n.Num]
			if len(u.Types) != b.Count {
				t.Fatalf("%s\n%s is used with %d types, and has %d", src, n.Text, len(u.Types), b.Count)
			}
			full := varsTold(b.Type, impl.TNum, b.From, u.Types)
			if _, ok := impl.Instance(impl.Scheme(b), full); !ok {
				t.Fatalf("%s\n%s is used as %s", src, n.Text, plainShown(full))
			}
			uses++
		}
		// All variables that stand in a type belong to a binder.
		for _, b := range typed.Binders {
			for _, n := range b.Type {
				if n.Kind == impl.TNum && n.Num > last {
					t.Fatalf("%s\n%s: %s, and there are %d variables", src, b.Name, plainShown(b.Type), last)
				}
			}
		}
	})
	if uses < 1000 {
		t.Errorf("%d uses", uses)
	}
}

// groundTypes are all types of at most so many nodes that are made of int, bool, lists, tuples and
// functions.
func groundTypes(most int) [][]impl.Node {
	bySize := [][][]impl.Node{nil, {intType, boolType, unitType}}
	for size := 2; size <= most; size++ {
		here := [][]impl.Node{}
		for _, ty := range bySize[size-1] {
			here = append(here, typeCon("list", ty))
		}
		for left := 1; left < size-1; left++ {
			for _, a := range bySize[left] {
				for _, b := range bySize[size-1-left] {
					here = append(here, typeArrow(a, b), typeTuple(a, b))
				}
			}
		}
		bySize = append(bySize, here)
	}
	return slices.Concat(bySize...)
}

// A binder can be given just the types that are instances of its Scheme: where it is bound, and where
// it is used.
func TestInferPromiseOfPrincipalTypes(t *testing.T) {
	types := groundTypes(5)
	for _, c := range [][2]string{
		{"x", "nil"}, {"x", "[nil]"}, {"x", "(nil, nil)"}, {"x", "fn y => y"}, {"x", "fn y => 1"}, {"x", "fn y => fn z => y"}, {"x", "fn (y, z) => y"}, {"x", "fn y => (y, y)"},
		{"x", "fn y => y + 1"}, {"x", "fn y => [y]"}, {"x", "fn y => [y, 1]"}, {"x", "fn y => y = y"}, {"x", "fn nil => nil | y :: _ => [y]"}, {"x", "1"}, {"x", "(1, true)"}, {"x", "()"},
		{"x", "fn y => raise Div"}, {"x", "fn () => nil"}, {"x", "fn y => if y then nil else [y]"}, {"x", "fn y => fn z => y = z"}, {"x", "fn f => f 1"}, {"x", "(fn y => y, nil)"},
	} {
		program := resolved(t, "val x = "+c[1])
		cans := 0
		for _, ty := range types {
			can := impl.CanBe(program, c[0], ty)
			bound := impl.Infer(resolved(t, "val x : "+typeText(ty)+" = "+c[1])).Code == impl.TyOk
			used := impl.Infer(resolved(t, "val x = "+c[1]+" val y = x : "+typeText(ty))).Code == impl.TyOk
			if can != bound || can != used {
				t.Errorf("%s: %s: %v, bound so %v, used so %v", c[1], plainShown(ty), can, bound, used)
			}
			if can {
				cans++
			}
		}
		if cans == 0 && len(impl.Infer(program).Binders[0].Type) <= 5 {
			t.Errorf("%s can be nothing", c[1])
		}
	}
}

// near are instances of a Scheme, and types that have one node changed.
func near(rnd *rand.Rand, scheme []impl.Node, some [][]impl.Node) [][]impl.Node {
	out := [][]impl.Node{}
	for range 4 {
		f := filling{}
		for _, num := range metasOf(scheme) {
			f[num] = some[rnd.Intn(len(some))]
		}
		ty := f.put(scheme)
		out = append(out, ty)
		changed := slices.Clone(ty)
		switch n := &changed[rnd.Intn(len(changed))]; n.Kids {
		case 0:
			*n = intType[0]
		case 1:
			n.Text = "ref"
		case 2:
			*n = impl.Node{Kind: []int{impl.TArrow, impl.TTuple}[rnd.Intn(2)], Kids: 2}
		}
		out = append(out, changed)
	}
	return out
}

// leftOpen is whether the type of a binder has unknowns at the end.
func leftOpen(program []impl.Node, binder int) bool {
	w := newTypist(program)
	for i := range program {
		w.look(i)
	}
	return len(metasOf(w.now(w.bound[binder]))) > 0
}

// The same for programs that are made up, of which the last dec binds one name.
func TestInferPromiseOfPrincipalTypesMadeUp(t *testing.T) {
	small := groundTypes(3)
	cans, cannots := 0, 0
	codedPrograms(t, 300, func(c *coder, src string, program []impl.Node) {
		typed := impl.Infer(program)
		decs := impl.Kids(program)
		last := decs[len(decs)-1]
		root := last[len(last)-1]
		if typed.Code != impl.TyOk || root.Kids > 1 && root.Kind == impl.DFun || root.Kind == impl.DVal && impl.Kids(last)[0][0].Kind != impl.PVar {
			return
		}
		b := typed.Binders[slices.IndexFunc(typed.Binders, func(b impl.Binder) bool {
			return b.Node >= len(program)-1-len(last) && slices.Contains(outerAgain(program), b.Node)
		})]
		line := strings.Split(strings.TrimSpace(src), "\n")
		front, dec := strings.Join(line[:len(line)-1], "\n"), line[len(line)-1]
		scheme := impl.Scheme(b)
		if leftOpen(program, b.Node) {
			return
		}
		for _, ty := range near(c.rnd, scheme, small) {
			if !impl.Ground(ty) || len(ty) > 60 {
				continue
			}
			can := impl.CanBe(program, b.Name, ty)
			given := front + "\nval zz : " + typeText(ty) + " = let " + dec + " in " + b.Name + " end"
			used := src + "\nval zz = " + b.Name + " : " + typeText(ty)
			one, other := impl.Infer(resolved(t, given)).Code, impl.Infer(resolved(t, used)).Code
			if can != (one == impl.TyOk) || can != (other == impl.TyOk) {
				t.Fatalf("%s\n%s: %s\n%v, bound so %d, used so %d", src, b.Name, plainShown(ty), can, one, other)
			}
			if can {
				cans++
			} else {
				cannots++
			}
		}
	})
	if cans < 300 || cannots < 100 {
		t.Errorf("%d can be, %d can't", cans, cannots)
	}
}
