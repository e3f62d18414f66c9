package tests

import (
	"slices"
	"strings"
	"testing"

	"loop.example/s02665/impl"
)

// hasArgs wants CkArgs at node 0, with no type.
func hasArgs(t *testing.T, name string, program []impl.Node, c []impl.Node) {
	t.Helper()
	if ty, code, node := impl.TypeOf(program, c); code != impl.CkArgs || node != 0 || len(ty) > 0 {
		t.Errorf("%s: %s, code %d at node %d", name, codeShown(ty), code, node)
	}
}

func TestTypeOfArguments(t *testing.T) {
	one, unbound := unplaced(impl.CInt, 1, ""), unplaced(impl.CTuple, 0, "", unplaced(impl.CInt, 1, ""), cvar(3))
	programs := badLists()
	for name, it := range goodTerms() {
		programs[name] = it
	}
	for name, src := range map[string]string{
		"not resolved": "val x = 1", "names": "val x = y", "no values": "datatype t = A of t", "a large abbreviation": "type s = " + typeSized(impl.MaxType+1), "a large type in an exp": "val x = (1 : " + typeSized(impl.MaxType+1) + ")", "too many datatypes": "datatype " + strings.Join(tbinds("t", impl.MaxData+1), " and "),
	} {
		programs[name] = parsed(t, src)
	}
	programs["no values, resolved"] = resolved(t, "datatype t = A of t")
	programs["too many datatypes, resolved"] = resolved(t, "datatype "+strings.Join(tbinds("t", impl.MaxData+1), " and "))
	programs["a dec"] = oneDec(t, "val x = 1")
	programs["an exp"] = made(impl.EInt, 1, "")
	programs["code"] = one
	codes := map[string][]impl.Node{}
	for name, it := range badLists() {
		codes[name] = it
	}
	for letter, part := range codeParts() {
		if letter != 'c' {
			codes[string(letter)+" by itself"] = part
		}
	}
	placed := unplaced(impl.CTuple, 0, "", one, one)
	placed[0].At = 1
	for name, it := range map[string][]impl.Node{
		"nil": nil, "empty": {}, "two": append(one, one...), "a tuple of one": unplaced(impl.CTuple, 0, "", one), "a place": placed, "a program": resolved(t, "val x = 1"), "an unknown": unplaced(impl.CLam, 1, "", typeMeta(1), one),
		"a scheme for a type": unplaced(impl.CLam, 1, "", allsOver(1, intType), one), "1001 variables": unplaced(impl.CLet, 1, "", allsOver(1001, intType), one, one), "number 0": unplaced(impl.CVar, 0, ""),
		"too many nodes": append(slices.Repeat(one, impl.MaxCode), impl.Node{Kind: impl.CTuple, Kids: impl.MaxCode}),
	} {
		codes[name] = it
	}
	right := resolved(t, checkedFront)
	for name, program := range programs {
		if _, code, _ := impl.Declare(program); code == impl.DtOk {
			t.Fatalf("%s declares", name)
		}
		hasArgs(t, name, program, one)
		hasArgs(t, name, program, unbound)
		hasArgs(t, name, program, codes["a tuple of one"])
	}
	for name, c := range codes {
		if impl.Form(c) {
			t.Fatalf("%s is in form", name)
		}
		hasArgs(t, name, right, c)
		hasArgs(t, name, nil, c)
	}
	// A program with types that clash still has constructors.
	if ty, code, _ := impl.TypeOf(resolved(t, "val x = 1 1 datatype t = A"), unplaced(impl.CCon, 0, "A")); code != impl.CkOk || codeShown(ty) != "t" {
		t.Errorf("%s, code %d", codeShown(ty), code)
	}
	// As many variables as a scheme may have.
	c := unplaced(impl.CLet, 1, "", allsOver(1000, intType), one, cvar(1))
	if _, code, node := impl.TypeOf(right, c); code != impl.CkClash || node != len(c)-1 {
		t.Errorf("1000 variables: code %d at node %d", code, node)
	}
}

// wideType has so many nodes.
func wideType(n int) []impl.Node {
	if n == 2 {
		return typeCon("list", intType)
	}
	return typeTuple(slices.Repeat([][]impl.Node{intType}, n-1)...)
}

func raising(ty []impl.Node) []impl.Node {
	return unplaced(impl.CRaise, 0, "", ty, unplaced(impl.CCon, 0, "Div"))
}

// forgotten is code of the type int, whatever type a code has.
func forgotten(c []impl.Node) []impl.Node {
	return ccase("Match", c, crule(wildPat, unplaced(impl.CInt, 1, "")))
}

func TestTypeOfWide(t *testing.T) {
	program, one, max := resolved(t, checkedFront), unplaced(impl.CInt, 1, ""), impl.MaxWide
	lam := func(ty []impl.Node, c []impl.Node) []impl.Node { return unplaced(impl.CLam, 1, "", ty, c) }
	all := func(num int64, c []impl.Node) []impl.Node { return unplaced(impl.CAll, num, "", c) }
	double := all(1, lam(typeNum(1), unplaced(impl.CTuple, 0, "", cvar(1), cvar(1))))
	// Each code has a type of as many nodes as asked for, the parts of it have fewer.
	for name, c := range map[string]struct {
		step int
		make func(n int) []impl.Node
	}{
		"CRaise":      {1, func(n int) []impl.Node { return raising(wideType(n)) }},
		"CLam":        {1, func(n int) []impl.Node { return lam(wideType(n-2), one) }},
		"CLam's code": {1, func(n int) []impl.Node { return lam(intType, raising(wideType(n-2))) }},
		"CTuple":      {1, func(n int) []impl.Node { return unplaced(impl.CTuple, 0, "", raising(wideType(n-2)), one) }},
		"CTuple of many": {1, func(n int) []impl.Node {
			return unplaced(impl.CTuple, 0, "", slices.Repeat([][]impl.Node{one}, n-1)...)
		}},
		"CGiven":       {2, func(n int) []impl.Node { return unplaced(impl.CGiven, -8, "", wideType((n-2)/2)) }},
		"CCon":         {1, func(n int) []impl.Node { return unplaced(impl.CCon, 0, "None", wideType(n-1)) }},
		"CCon's arg":   {2, func(n int) []impl.Node { return unplaced(impl.CCon, 0, "Some", wideType((n-2)/2)) }},
		"CCon of two":  {2, func(n int) []impl.Node { return unplaced(impl.CCon, 0, "Two", intType, wideType((n-5)/2)) }},
		"CInst":        {3, func(n int) []impl.Node { return insts(double, wideType((n-2)/3)) }},
		"CInst of two": {1, func(n int) []impl.Node { return insts(all(1, all(2, lam(typeNum(2), one))), intType, wideType(n-2)) }},
	} {
		for size := max - 3; size <= max+2; size++ {
			it := c.make(size)
			ty, code, node := impl.TypeOf(program, it)
			if code == impl.CkOk {
				if len(ty) > max || len(ty) > size || len(ty) <= size-c.step {
					t.Errorf("%s of %d: %d nodes", name, size, len(ty))
				}
			} else if code != impl.CkLarge || node != len(it)-1 || size <= max {
				t.Errorf("%s of %d: code %d at node %d", name, size, code, node)
			}
		}
		checkType(t, program, forgotten(c.make(max)))
		it := c.make(max + c.step + 1)
		if _, code, node := impl.TypeOf(program, it); code != impl.CkLarge || node != len(it)-1 {
			t.Errorf("%s: code %d at node %d", name, code, node)
		}
	}
	// A scheme has its TAlls besides.
	for k := 1; k <= 5; k++ {
		for size := max - 7; size <= max; size++ {
			it, want := raisingLam(size), impl.CkOk
			node := len(it) - 1
			for i := range k {
				if it = all(int64(i+1), it); size+i+1 <= max {
					node = len(it) - 1
				} else if want == impl.CkOk {
					want, node = impl.CkLarge, len(it)-1
				}
			}
			ty, code, at := impl.TypeOf(program, it)
			if code != want || code == impl.CkOk && len(ty) != size+k || code != impl.CkOk && at != node {
				t.Errorf("%d variables before %d nodes: code %d at node %d, %d nodes", k, size, code, at, len(ty))
			}
		}
	}
}

// raisingLam has a type of so many nodes, and is a value.
func raisingLam(n int) []impl.Node {
	return unplaced(impl.CLam, 9, "", intType, raising(wideType(n-2)))
}

func TestTypeOfWideVariables(t *testing.T) {
	program, one, max := resolved(t, checkedFront), unplaced(impl.CInt, 1, ""), impl.MaxWide
	for size, want := range map[int]int{max - 1: impl.CkClash, max: impl.CkClash, max + 1: impl.CkLarge, max + 5000: impl.CkLarge} {
		// Binders with a type of that size, which their code has not: the use of one comes first.
		let := unplaced(impl.CLet, 1, "", wideType(size), one, forgotten(cvar(1)))
		fix := unplaced(impl.CFix, 0, "", unplaced(impl.CBnd, 1, "", wideType(size), unplaced(impl.CLam, 2, "", intType, forgotten(cvar(1)))), one)
		scheme := unplaced(impl.CLet, 1, "", allsOver(2, wideType(size-2)), one, forgotten(insts(cvar(1), intType, intType)))
		lam := unplaced(impl.CLam, 1, "", wideType(size), forgotten(cvar(1)))
		for name, c := range map[string][]impl.Node{"CLet": let, "CFix": fix, "a scheme": scheme} {
			_, code, node := checkType(t, program, c)
			if code != want || code == impl.CkLarge && c[node].Kind != impl.CVar || code == impl.CkClash && !isOneOf(c[node].Kind, impl.CLet, impl.CBnd) {
				t.Errorf("%s of %d: code %d at node %d", name, size, code, node)
			}
		}
		_, code, node := checkType(t, program, lam)
		if kind := lam[node].Kind; code != impl.CkLarge || kind == impl.CVar != (size > max) {
			t.Errorf("a parameter of %d: code %d at node %d", size, code, node)
		}
		// A type that is put where no variable stands is not asked for its size.
		c := insts(unplaced(impl.CAll, 1, "", one), wideType(size))
		if ty, code, _ := checkType(t, program, c); code != impl.CkOk || codeShown(ty) != "int" {
			t.Errorf("put for nothing: code %d", code)
		}
		// Nor is one that is written for a name alone.
		c = unplaced(impl.CLet, 1, "", wideType(size), raising(wideType(max)), one)
		if _, code, node := checkType(t, program, c); code != map[bool]int{true: impl.CkOk, false: impl.CkClash}[size == max] || node != (len(c)-1)*min(1, code) {
			t.Errorf("written alone: code %d at node %d", code, node)
		}
	}
}

// Patterns have types, too: those of kids may be larger than that of the whole.
func TestTypeOfWidePatterns(t *testing.T) {
	program, one, max := resolved(t, checkedFront), unplaced(impl.CInt, 1, ""), impl.MaxWide
	held := func(of []impl.Node, pat []impl.Node) []impl.Node {
		return ccase("Match", raising(of), crule(pat, one))
	}
	for half, fits := range map[int]bool{max/2 - 2: true, max/2 - 1: true, max / 2: false, max/2 + 1: false} {
		ty := wideType(half)
		list, nest, fan := typeCon("list", ty), typeCon("nest", ty), typeCon("fan", ty)
		pair := typeCon("nest", typeTuple(ty, ty))
		for name, c := range map[string]struct {
			of   []impl.Node
			con  string
			kid  []impl.Node
			code int // where it is too large
			fits bool
		}{
			"PWild":         {list, "::", wildPat, impl.CkLarge, true},
			"PTuple":        {list, "::", unplaced(impl.PTuple, 0, "", wildPat, wildPat), impl.CkLarge, true},
			"PTuple of 3":   {list, "::", unplaced(impl.PTuple, 0, "", wildPat, wildPat, wildPat), impl.CkClash, false},
			"PInt":          {list, "::", unplaced(impl.PInt, 1, ""), impl.CkClash, false},
			"PStr":          {list, "::", unplaced(impl.PStr, 0, ""), impl.CkClash, false},
			"PCon":          {nest, "Nest", unplaced(impl.PCon, 0, "Nil"), impl.CkLarge, true},
			"no PCon":       {nest, "Nest", unplaced(impl.PCon, 0, "Foo"), impl.CkCon, false},
			"another PCon":  {nest, "Nest", unplaced(impl.PCon, 0, "nil"), impl.CkClash, false},
			"QVar":          {nest, "Nest", unplaced(impl.QVar, 1, "", pair), impl.CkLarge, true},
			"another QVar":  {nest, "Nest", unplaced(impl.QVar, 1, "", nest), impl.CkClash, false},
			"QAs":           {nest, "Nest", unplaced(impl.QAs, 1, "", pair, unplaced(impl.PCon, 0, "Nil")), impl.CkLarge, true},
			"a function":    {fan, "Fan", wildPat, impl.CkLarge, true},
			"no variables":  {typeCon("opt", ty), "Some", wildPat, impl.CkOk, true},
			"an inner type": {fan, "Box", wildPat, impl.CkOk, true},
		} {
			it := held(c.of, unplaced(impl.PCon, 0, c.con, c.kid))
			_, code, node := checkType(t, program, it)
			want := c.code
			if fits && c.fits {
				want = impl.CkOk
			}
			if code != want || code == impl.CkLarge && !slices.Equal(it[:node+1], slices.Concat(raising(c.of), c.kid)) {
				t.Errorf("%s with %d: code %d at node %d, want %d", name, half, code, node, want)
			}
		}
	}
	// Exponentially large, when it is written out.
	for deep := 1; deep <= 30000; deep = deep*3 + 1 {
		pat := append(slices.Clone(wildPat), slices.Repeat([]impl.Node{{Kind: impl.PCon, Text: "Nest", Kids: 1}}, deep)...)
		it := held(typeCon("nest", intType), pat)
		soon(t, "nested", func() {
			_, code, node := impl.TypeOf(program, it)
			// The kid of the fourteenth one has 2 to the 15th nodes.
			if deep < 14 && code != impl.CkOk || deep >= 14 && (code != impl.CkLarge || node != len(raising(typeCon("nest", intType)))+deep-14) {
				t.Errorf("%d deep: code %d at node %d", deep, code, node)
			}
		})
		if deep < 200 {
			checkType(t, program, it)
		}
	}
}

// What is told where something else is wrong, too.
func TestTypeOfWideInOrder(t *testing.T) {
	program, one, wide := resolved(t, checkedFront), unplaced(impl.CInt, 1, ""), wideType(impl.MaxWide+1)
	bad, large := cvar(99), raising(wide)
	for name, c := range map[string]struct {
		code int
		c    []impl.Node
		node int
	}{
		"ahead":             {impl.CkVar, unplaced(impl.CTuple, 0, "", bad, large), 0},
		"behind":            {impl.CkLarge, unplaced(impl.CTuple, 0, "", large, bad), len(large) - 1},
		"inside":            {impl.CkVar, unplaced(impl.CRaise, 0, "", wide, bad), len(wide)},
		"at the node":       {impl.CkClash, unplaced(impl.CRaise, 0, "", wide, one), len(wide) + 1},
		"a wrong type":      {impl.CkType, unplaced(impl.CRaise, 0, "", typeTuple(wide, typeCon("u")), one), len(wide) + 1},
		"a type too few":    {impl.CkCon, unplaced(impl.CCon, 0, "Two", wide), len(wide)},
		"a scope":           {impl.CkScope, unplaced(impl.CAll, 1, "", unplaced(impl.CAll, 1, "", raisingLam(impl.MaxWide))), len(raisingLam(impl.MaxWide))},
		"no value":          {impl.CkValue, unplaced(impl.CAll, 1, "", raising(wideType(impl.MaxWide))), impl.MaxWide + 2},
		"a tuple of one":    {impl.CkClash, unplaced(impl.CTuple, 0, "", raising(wideType(impl.MaxWide)), unplaced(impl.CAll, 1, "", one)), impl.MaxWide + 4},
		"an argument":       {impl.CkLarge, unplaced(impl.CApp, 0, "", one, large), len(large)},
		"a let around it":   {impl.CkLarge, unplaced(impl.CLet, 1, "", boolType, one, large), len(large) + 1},
		"a rule that isn't": {impl.CkLarge, ccase("Match", one, crule(wildPat, one), crule(wildPat, large)), len(large) + 4},
	} {
		_, code, node := checkType(t, program, c.c)
		if code != c.code || node != c.node {
			t.Errorf("%s: code %d at node %d, want %d at %d", name, code, node, c.code, c.node)
		}
	}
}

func TestTypeOfMemory(t *testing.T) {
	for _, text := range []string{
		"CInt 1", "CAll 5(CAll 3(CLam 1(#5, CLam 2(#3, CVar 1))))", "CVar 1", "CLam 1(two(int, list(t)), CVar 1)", "CInst(CAll 5(CAll 3(CLam 1(#5, CLam 2(#3, CVar 1)))), [int, int])", "CCon \"Two\"((int, t), bool)",
		"CLet 1(TAll 1([#1, (#1, int)]), CAll 2(CLam 2(#2, CTuple(CVar 2, CInt 1))), CTuple(CInst(CVar 1, t), CInst(CVar 1, [t, t])))", "CTuple(CInt 1",
	} {
		arguments := &kept{}
		r := &codeReader{rest: text}
		r.term()
		program, c := arguments.roomy(resolved(t, checkedFront)), arguments.roomy(r.nodes)
		sharesNothing(t, text, arguments, func() [][]impl.Node {
			ty, _, _ := impl.TypeOf(program, c)
			return [][]impl.Node{ty}
		})
	}
}

// Maps are gone through in another order each time.
func TestTypeOfAnswersTheSame(t *testing.T) {
	program := resolved(t, checkedFront)
	c, _ := codeOf(t, "CAll 9(CLam 1(#9, CLet 1(TAll 1(TAll 2(TAll 3(TAll 9(#9)))), CInt 1, CTuple(CVar 2, CVar 3))))")
	for range 50 {
		if _, code, node := impl.TypeOf(program, c); code != impl.CkScope || c[node].Kind != impl.TAll || c[node].Num != 1 {
			t.Fatalf("code %d at node %d", code, node)
		}
	}
}
