package tests

import (
	"math/rand"
	"slices"
	"strings"
	"testing"

	"loop.example/s02665/impl"
)

// keepsPromise13 wants of the code of a program that TypeOf has the types that Infer found.
func keepsPromise13(t *testing.T, program []impl.Node) []impl.Node {
	t.Helper()
	c, code := impl.Elaborate(program)
	if code != impl.CoOk {
		return nil
	}
	ty, code, node := impl.TypeOf(program, c)
	if want := shownType(program); code != impl.CkOk || node != 0 || !slices.Equal(ty, want) {
		t.Fatalf("%s\n%s\nhas %s, code %d at node %d; want %s", impl.Print(program), codeShown(c), codeShown(ty), code, node, codeShown(want))
	}
	return c
}

func TestTypeOfElaborate(t *testing.T) {
	for _, src := range []string{
		"", "val x = 1", "fun id x = x", "fun f x = f x", "val f = fn x => x val a = (f 1, f true)",
		"fun o x = let fun k y = (x, y) in (k 1, k true) end", "fun f (x : 'a) = let val k = fn (z : 'a) => z in k x end",
		"fun f x = g x and g y = (f y; y) val a = (f 1, g \"\")", "val r = ref nil val _ = r := [1] val a = !r", "val (f, g) = (fn x => x, 1)",
		"datatype ('a, 'b) t = A of 'b * 'a | B fun f (A (x, y)) = A (y, x) | f B = B val a = f (A (1, true))",
		"exception E of int fun f x = (raise E x) handle E y => y | Div => 2 | z => raise z",
		"val x as (y, z : int) = (nil, 2) fun g (a as b :: _) c = if a = c then b else g c a",
		"fun f x y = (while !x < 3 do x := !x + 1; y andalso not y orelse y) val a = f (ref 1) true",
		"val a = let val n = nil fun k x y = x in (1 :: k n 1, true :: k n n, k) end",
		"val s = cut (chr 65 ^ show 3, 0, size \"a\") val _ = (print s; sub (s, 0))",
		"datatype 'a nest = Nil | Nest of ('a * 'a) nest fun f (Nest (Nest x)) = 1 | f _ = 2 val a = f (Nest Nil)",
		strings.Join(numberedNames(" val x", 45), " = fn y => y"+" ") + " = 2",
	} {
		if keepsPromise13(t, resolved(t, src)) == nil {
			t.Errorf("%s has no code", src)
		}
	}
}

// namesIn are the names of a pattern, each in front of what is inside it.
func (u tree) namesIn(i int) []int {
	out := []int{}
	if isOneOf(u.t[i].Kind, impl.QVar, impl.QAs) {
		out = append(out, i)
	}
	for _, kid := range u.kids[i] {
		out = append(out, u.namesIn(kid)...)
	}
	return out
}

// otherNumbers has other numbers for all variables and binders, each its own.
func otherNumbers(rnd *rand.Rand, c []impl.Node) []impl.Node {
	u, out, next := treeOf(c), slices.Clone(c), int64(rnd.Intn(1000))
	fresh := func() int64 {
		next += 1 + int64(rnd.Intn(3))
		return next
	}
	vars, names := map[int64][]int64{}, map[int64][]int64{}
	last := func(m map[int64][]int64, num int64) int64 {
		if len(m[num]) == 0 {
			return num
		}
		return m[num][len(m[num])-1]
	}
	leave := func(m map[int64][]int64, num int64) { m[num] = m[num][:len(m[num])-1] }
	var walk func(i int)
	enter := func(m map[int64][]int64, i int) {
		m[c[i].Num] = append(m[c[i].Num], fresh())
		out[i].Num = last(m, c[i].Num)
	}
	walk = func(i int) {
		n, kids, binds := c[i], u.kids[i], []int{}
		switch n.Kind {
		case impl.CVar:
			out[i].Num = last(names, n.Num)
		case impl.TNum:
			out[i].Num = last(vars, n.Num)
		case impl.CAll, impl.TAll:
			enter(vars, i)
			defer leave(vars, n.Num)
		case impl.CLam:
			enter(names, i)
			defer leave(names, n.Num)
		case impl.CFix:
			binds = kids[:len(kids)-1]
		case impl.CLet:
			walk(kids[0])
			walk(kids[1])
			kids, binds = kids[2:], []int{i}
		case impl.CRule:
			walk(kids[0])
			binds, kids = u.namesIn(kids[0]), kids[1:]
		}
		for _, b := range binds {
			enter(names, b)
			defer leave(names, c[b].Num)
		}
		for _, kid := range kids {
			walk(kid)
		}
	}
	walk(len(c) - 1)
	return out
}

// schemesIn are the schemes that are written in code, in the order of the list.
func schemesIn(c []impl.Node) [][]impl.Node {
	u, out := treeOf(c), [][]impl.Node{}
	for i, n := range c {
		if isOneOf(n.Kind, impl.CLet, impl.CBnd) {
			kid := u.kids[i][0]
			out = append(out, c[u.from[kid]:kid+1])
		}
	}
	return out
}

func TestTypeOfOwnPrograms(t *testing.T) {
	rnd, codes, kinds, open := rand.New(rand.NewSource(19)), 0, map[int]int{}, 0
	codedPrograms(t, 500, func(_ *coder, src string, program []impl.Node) {
		c := keepsPromise13(t, program)
		if c == nil {
			return
		}
		codes++
		for _, n := range program {
			kinds[n.Kind]++
		}
		// Promise 19: other numbers, the same type and the same schemes.
		ty, _, _ := impl.TypeOf(program, c)
		other := otherNumbers(rnd, c)
		got, code, node := impl.TypeOf(program, other)
		if code != impl.CkOk || !slices.Equal(got, ty) {
			t.Fatalf("%s\n%s\nhas code %d at node %d with other numbers", src, codeShown(other), code, node)
		}
		theirs := schemesIn(other)
		for i, ours := range schemesIn(c) {
			if !closedScheme(ours) {
				continue
			}
			if !impl.SameScheme(ours, theirs[i]) {
				t.Fatalf("%s\n%s and %s are not the same", src, codeShown(ours), codeShown(theirs[i]))
			}
			if !slices.Equal(ours, theirs[i]) {
				open++
			}
		}
	})
	if codes < 1000 || open < 1000 {
		t.Errorf("%d programs have code, %d schemes have other numbers", codes, open)
	}
	for kind := impl.DVal; kind <= impl.EOr; kind++ {
		if kinds[kind] < 20 && !isOneOf(kind, impl.KProgram) {
			t.Errorf("%s was met %d times", kindName(kind), kinds[kind])
		}
	}
	declaringPrograms(t, 100, func(d *declarer, program []impl.Node) { keepsPromise13(t, resolvedTerm(t, program)) })
	drawnPrograms(t, 800, func(d drawer, drawn []impl.Node, right []impl.Node) { keepsPromise13(t, resolvedTerm(t, right)) })
}

// closedScheme is whether all variables are those of the TAlls.
func closedScheme(s []impl.Node) bool {
	return len(outOfScope(s)) == 0
}

// Promise 19 for code that no program has.
func TestTypeOfOtherNumbers(t *testing.T) {
	program, right := resolved(t, checkedFront), 0
	for seed := range int64(2500) {
		m := &codeMaker{rnd: rand.New(rand.NewSource(seed + 70000))}
		c := m.code(m.typ(2), 3)
		if seed%2 == 0 {
			b, _ := m.scheme(m.typ(2))
			c = m.general(b, 3)
		}
		ty, code, node := impl.TypeOf(program, c)
		if isOneOf(code, impl.CkScope, impl.CkVar) {
			continue
		}
		other := otherNumbers(m.rnd, c)
		got, gotCode, gotNode := impl.TypeOf(program, other)
		if code != gotCode || node != gotNode || !slices.Equal(got, ty) {
			t.Fatalf("%s\nhas code %d at node %d, and\n%s\n%d at %d", codeShown(c), code, node, codeShown(other), gotCode, gotNode)
		}
		if code == impl.CkOk {
			right++
		}
	}
	if right < 800 {
		t.Errorf("%d are right", right)
	}
}

// Code of programs with something changed in it.
func TestTypeOfChangedCode(t *testing.T) {
	rnd, wrong := rand.New(rand.NewSource(12)), map[int]int{}
	codedPrograms(t, 120, func(_ *coder, src string, program []impl.Node) {
		c, code := impl.Elaborate(program)
		if code != impl.CoOk || len(c) > 900 {
			return
		}
		checkType(t, program, c)
		for range 8 {
			_, code, _ := checkType(t, program, changedInForm(rnd, c))
			wrong[code]++
		}
	})
	for _, code := range []int{impl.CkOk, impl.CkVar, impl.CkScope, impl.CkType, impl.CkCon, impl.CkClash, impl.CkValue} {
		if wrong[code] < 10 {
			t.Errorf("code %d was met %d times", code, wrong[code])
		}
	}
}

// Programs in which a type of more than MaxWide nodes stands somewhere.
func TestTypeOfWidePrograms(t *testing.T) {
	wide := "val x = " + ones(290) + " fun g y = "
	for _, c := range []struct {
		times int
		code  int
	}{{60, impl.CkOk}, {68, impl.CkOk}, {69, impl.CkLarge}, {150, impl.CkLarge}} {
		program := resolved(t, wide+"(("+strings.Repeat("x, ", c.times-1)+"x); y)")
		it, code := impl.Elaborate(program)
		if code != impl.CoOk {
			t.Fatalf("code %d", code)
		}
		size := 1 + 290*c.times
		if (size > impl.MaxWide) != (c.code == impl.CkLarge) {
			t.Fatalf("%d nodes", size)
		}
		ty, code, node := checkType(t, program, it)
		if code != c.code || (code == impl.CkOk) != slices.Equal(ty, shownType(program)) || code == impl.CkLarge && (it[node].Kind != impl.CTuple || it[node].Kids != c.times) {
			t.Errorf("%d times: code %d at node %d", c.times, code, node)
		}
	}
}
