package tests

import (
	"slices"
	"strconv"
	"testing"

	"loop.example/s02665/impl"
)

// nested is code in so many nodes that each have something in front of it.
func nested(n int, front []impl.Node, middle []impl.Node, root impl.Node) []impl.Node {
	return slices.Concat(slices.Repeat(front, n), middle, slices.Repeat([]impl.Node{root}, n))
}

// wrapped is code in so many nodes that each have something behind it.
func wrapped(n int, middle []impl.Node, behind ...impl.Node) []impl.Node {
	return slices.Concat(middle, slices.Repeat(behind, n))
}

// longCode is code as long as it may be, with the code that TypeOf has for it.
type longCode struct {
	code int
	c    []impl.Node
}

func node(kind int, num int64, text string, kids int) impl.Node {
	return impl.Node{Kind: kind, Num: num, Text: text, Kids: kids}
}

func deepCodes() map[string]longCode {
	one, truth, num := unplaced(impl.CInt, 1, ""), unplaced(impl.CCon, 0, "true"), node(impl.TCon, 0, "int", 0)
	max := impl.MaxCode
	oneNode, wild := one[0], wildPat[0]
	rule, match := node(impl.CRule, 0, "", 2), node(impl.CCase, 0, "Match", 2)
	arrow := typeArrow(intType, intType)
	bnd := slices.Concat(arrow, unplaced(impl.CLam, 2, "", intType, one), []impl.Node{node(impl.CBnd, 1, "", 2)})
	return map[string]longCode{
		"~":                 {impl.CkOk, wrapped(max-1, one, node(impl.CUn, 0, "~", 1))},
		"!":                 {impl.CkOk, unplaced(impl.CLam, 1, "", wrapped(19990, intType, node(impl.TCon, 0, "ref", 1)), wrapped(19990, cvar(1), node(impl.CUn, 0, "!", 1)))},
		"+ to the right":    {impl.CkOk, nested(max/2-1, one, one, node(impl.CBin, 0, "+", 2))},
		"+ to the left":     {impl.CkOk, wrapped(max/2-1, one, oneNode, node(impl.CBin, 0, "+", 2))},
		"= and a clash":     {impl.CkClash, wrapped(max/2-1, one, oneNode, node(impl.CBin, 0, "=", 2))},
		"functions":         {impl.CkOk, nested(9999, intType, one, node(impl.CLam, 1, "", 2))},
		"more functions":    {impl.CkLarge, nested(max/2-1, intType, one, node(impl.CLam, 1, "", 2))},
		"calls":             {impl.CkOk, unplaced(impl.CLam, 1, "", arrow, nested(max/2-5, cvar(1), one, node(impl.CApp, 0, "", 2)))},
		"many arguments":    {impl.CkOk, unplaced(impl.CLet, 1, "", nested(9999, intType, intType, node(impl.TArrow, 0, "", 2)), nested(9999, intType, one, node(impl.CLam, 1, "", 2)), wrapped(9999, cvar(1), oneNode, node(impl.CApp, 0, "", 2)))},
		"variables":         {impl.CkLarge, nestedAlls(max-1, slices.Clone(one))},
		"one variable":      {impl.CkScope, wrapped(max-1, one, node(impl.CAll, 1, "", 1))},
		"tuples":            {impl.CkLarge, nested(max/2-1, one, one, node(impl.CTuple, 0, "", 2))},
		"tuples, left":      {impl.CkLarge, wrapped(max/2-1, one, oneNode, node(impl.CTuple, 0, "", 2))},
		"lets, second":      {impl.CkOk, nested(max/3-1, []impl.Node{num, oneNode}, cvar(1), node(impl.CLet, 1, "", 3))},
		"lets, first":       {impl.CkOk, slices.Concat(slices.Repeat(intType, max/3-1), one, slices.Repeat([]impl.Node{oneNode, node(impl.CLet, 1, "", 3)}, max/3-1))},
		"fixes":             {impl.CkOk, nested(max/9-1, bnd, one, node(impl.CFix, 0, "", 2))},
		"one fix":           {impl.CkOk, slices.Concat(slices.Repeat(bnd, max/7-1), one, []impl.Node{node(impl.CFix, 0, "", max/7)})},
		"a case in a rule":  {impl.CkOk, slices.Concat(slices.Repeat([]impl.Node{oneNode, wild}, max/4-1), one, slices.Repeat([]impl.Node{rule, match}, max/4-1))},
		"a case in a case":  {impl.CkOk, wrapped(max/4-1, one, wild, oneNode, rule, match)},
		"names in rules":    {impl.CkOk, slices.Concat(slices.Repeat([]impl.Node{oneNode, num, node(impl.QVar, 1, "", 1)}, max/5-1), cvar(1), slices.Repeat([]impl.Node{rule, match}, max/5-1))},
		"rules":             {impl.CkOk, slices.Concat(one, slices.Repeat([]impl.Node{wild, oneNode, rule}, max/3-1), []impl.Node{node(impl.CCase, 0, "Bind", max/3)})},
		"handlers":          {impl.CkOk, wrapped(max/4-1, one, wild, oneNode, rule, node(impl.CTry, 0, "", 2))},
		"raises":            {impl.CkOk, slices.Concat(intType, slices.Repeat(exnType, max/2-2), unplaced(impl.CCon, 0, "Div"), slices.Repeat([]impl.Node{node(impl.CRaise, 0, "", 2)}, max/2-1))},
		"loops":             {impl.CkOk, nested(max/2-1, truth, one, node(impl.CWhile, 0, "", 2))},
		"constructors":      {impl.CkOk, nested(max/2-1, unplaced(impl.CCon, 0, "B"), unplaced(impl.CCon, 0, "A"), node(impl.CApp, 0, "", 2))},
		"a wide tuple":      {impl.CkLarge, slices.Concat(slices.Repeat(one, max-1), []impl.Node{node(impl.CTuple, 0, "", max-1)})},
		"a deep type":       {impl.CkLarge, unplaced(impl.CLam, 1, "", wrapped(max-3, intType, node(impl.TCon, 0, "list", 1)), one)},
		"a deep type alone": {impl.CkOk, insts(unplaced(impl.CAll, 1, "", one), wrapped(max-4, intType, node(impl.TCon, 0, "list", 1)))},
		"a wide type":       {impl.CkLarge, unplaced(impl.CLam, 1, "", wideType(max-2), one)},
		"types of a con":    {impl.CkCon, slices.Concat(slices.Repeat(intType, max-1), []impl.Node{node(impl.CCon, 0, "Some", max-1)})},
	}
}

func TestTypeOfDeepCode(t *testing.T) {
	program := resolved(t, checkedFront)
	for name, c := range deepCodes() {
		if !impl.Form(c.c) {
			t.Fatalf("%s is not in form: %d nodes", name, len(c.c))
		}
		soon(t, name, func() {
			ty, code, node := impl.TypeOf(program, c.c)
			if code != c.code || (code == impl.CkOk) != (len(ty) > 0) || code == impl.CkOk && node != 0 {
				t.Errorf("%s with %d nodes: code %d at node %d", name, len(c.c), code, node)
			}
		})
	}
}

func TestTypeOfDeepPatterns(t *testing.T) {
	program, one, wild := resolved(t, checkedFront), unplaced(impl.CInt, 1, ""), wildPat[0]
	deep := impl.MaxCode/4 - 10
	pairs := func(n int) []impl.Node {
		return nested(n, intType, intType, node(impl.TTuple, 0, "", 2))
	}
	for name, c := range map[string]struct {
		code int
		of   []impl.Node
		pat  []impl.Node
	}{
		"one constructor":  {impl.CkOk, typeCon("t"), wrapped(3*deep, wildPat, node(impl.PCon, 0, "B", 1))},
		"names":            {impl.CkOk, intType, nested(deep, intType, wildPat, node(impl.QAs, 1, "", 2))},
		"lists":            {impl.CkOk, typeCon("list", intType), slices.Concat(slices.Repeat(wildPat, deep), wildPat, slices.Repeat([]impl.Node{node(impl.PTuple, 0, "", 2), node(impl.PCon, 0, "::", 1)}, deep))},
		"lists of wide":    {impl.CkOk, typeCon("list", wideType(9998)), slices.Concat(slices.Repeat(wildPat, deep), wildPat, slices.Repeat([]impl.Node{node(impl.PTuple, 0, "", 2), node(impl.PCon, 0, "::", 1)}, deep))},
		"tuples":           {impl.CkOk, pairs(9000), nested(9000, wildPat, wildPat, node(impl.PTuple, 0, "", 2))},
		"a wide tuple":     {impl.CkOk, wideType(19000), slices.Concat(slices.Repeat(wildPat, 18999), []impl.Node{node(impl.PTuple, 0, "", 18999)})},
		"functions":        {impl.CkClash, typeCon("fan", intType), wrapped(3*deep, wildPat, node(impl.PCon, 0, "Fan", 1))},
		"doubled":          {impl.CkLarge, typeCon("nest", wideType(100)), wrapped(3*deep, wildPat, node(impl.PCon, 0, "Nest", 1))},
		"two wide pairs":   {impl.CkOk, typeTuple(wideType(9000), wideType(9000)), []impl.Node{wild, wild, node(impl.PTuple, 0, "", 2)}},
		"an inner pattern": {impl.CkOk, typeCon("opt", wrapped(9990, intType, node(impl.TCon, 0, "opt", 1))), wrapped(9990, wildPat, node(impl.PCon, 0, "Some", 1))},
	} {
		it := ccase("Match", raising(c.of), crule(c.pat, one))
		if !impl.Form(it) {
			t.Fatalf("%s: %d nodes", name, len(it))
		}
		soon(t, name, func() {
			if _, code, node := impl.TypeOf(program, it); code != c.code {
				t.Errorf("%s: code %d at node %d", name, code, node)
			}
		})
	}
	// A type that grows by each constructor.
	grows := resolved(t, "datatype 'a g = N | G of (int -> 'a) g")
	for n, want := range map[int]int{9000: impl.CkOk, 9998: impl.CkOk, 9999: impl.CkOk, 10000: impl.CkLarge, 40000: impl.CkLarge} {
		it := ccase("Match", raising(typeCon("g", intType)), crule(wrapped(n, wildPat, node(impl.PCon, 0, "G", 1)), one))
		soon(t, "a type that grows", func() {
			if _, code, node := impl.TypeOf(grows, it); code != want {
				t.Errorf("%d: code %d at node %d", n, code, node)
			}
		})
	}
}

// Wide types that are used as often as there is room.
func TestTypeOfWideOften(t *testing.T) {
	program, one := resolved(t, checkedFront), unplaced(impl.CInt, 1, "")
	max := impl.MaxWide
	body := func(n int) []impl.Node { return typeTuple(slices.Repeat([][]impl.Node{typeNum(1)}, n-1)...) }
	scheme, fun := allsOver(1, body(max-2)), allsOver(1, typeArrow(intType, body(max-5)))
	two := unplaced(impl.TAll, 2, "", allsOver(1, body(9990)))
	types := [][]impl.Node{intType, stringType, boolType, exnType, unitType, typeCon("t")}
	use := func(i int, x int64) []impl.Node { return insts(cvar(x), types[i%len(types)]) }
	each := func(n int, c func(i int) []impl.Node) [][]impl.Node {
		out := [][]impl.Node{}
		for i := range n {
			out = append(out, c(i))
		}
		return out
	}
	let := func(s []impl.Node, c ...[]impl.Node) []impl.Node {
		return unplaced(impl.CLet, 1, "", s, one, unplaced(impl.CTuple, 0, "", c...))
	}
	chained := func(n int, front []impl.Node) []impl.Node { return nested(n, front, one, node(impl.CTuple, 0, "", 2)) }
	many := allsOver(1000, typeTuple(slices.Repeat([][]impl.Node{typeNum(500), typeNum(1), typeNum(1000)}, 6000)...))
	for name, c := range map[string]longCode{
		"put":            {impl.CkLarge, let(scheme, each(13000, func(i int) []impl.Node { return use(i, 1) })...)},
		"put, nested":    {impl.CkLarge, unplaced(impl.CLet, 1, "", scheme, one, chained(9900, use(0, 1)))},
		"called":         {impl.CkLarge, let(fun, each(7900, func(i int) []impl.Node { return unplaced(impl.CApp, 0, "", use(i, 1), one) })...)},
		"called, nested": {impl.CkLarge, unplaced(impl.CLet, 1, "", fun, one, chained(6600, unplaced(impl.CApp, 0, "", use(0, 1), one)))},
		"functions":      {impl.CkLarge, let(wideType(max-2), each(13000, func(i int) []impl.Node { return unplaced(impl.CLam, 2, "", intType, cvar(1)) })...)},
		"nested":         {impl.CkLarge, unplaced(impl.CLet, 1, "", wideType(max-2), one, chained(9900, unplaced(impl.CLam, 2, "", intType, cvar(1))))},
		"compared":       {impl.CkLarge, unplaced(impl.CLam, 1, "", wideType(max-4), unplaced(impl.CLam, 2, "", wideType(max-4), unplaced(impl.CTuple, 0, "", each(6600, func(i int) []impl.Node { return unplaced(impl.CBin, 0, "=", cvar(1), cvar(2)) })...)))},
		"put, compared":  {impl.CkClash, unplaced(impl.CLet, 1, "", allsOver(1, body(9990)), one, unplaced(impl.CLet, 2, "", two, one, unplaced(impl.CTuple, 0, "", each(4000, func(i int) []impl.Node { return unplaced(impl.CBin, 0, "=", use(i, 1), insts(use(i+1, 2), types[i%6])) })...)))},
		"general again": {impl.CkLarge, let(scheme, each(5600, func(i int) []impl.Node {
			return insts(unplaced(impl.CAll, 9, "", insts(cvar(1), typeNum(9))), types[i%6])
		})...)},
		"many variables":  {impl.CkLarge, let(many, each(19, func(i int) []impl.Node { return insts(cvar(1), slices.Repeat([][]impl.Node{types[i%6]}, 1000)...) })...)},
		"alls":            {impl.CkClash, unplaced(impl.CLet, 1, "", wideType(10000), one, nestedAlls(9999, cvar(1)))},
		"alls and insts":  {impl.CkClash, unplaced(impl.CLet, 1, "", wideType(max-2), one, unplaced(impl.CTuple, 0, "", each(4900, func(i int) []impl.Node { return forgotten(insts(unplaced(impl.CAll, 3, "", cvar(1)), intType)) })...))},
		"patterns":        {impl.CkClash, unplaced(impl.CLet, 1, "", typeTuple(wideType(9990), wideType(9990)), one, unplaced(impl.CCase, 0, "Match", append([][]impl.Node{cvar(1)}, each(7800, func(i int) []impl.Node { return crule(unplaced(impl.PTuple, 0, "", wildPat, wildPat), one) })...)...))},
		"list patterns":   {impl.CkClash, unplaced(impl.CLet, 1, "", typeCon("list", wideType(9990)), one, unplaced(impl.CCase, 0, "Match", append([][]impl.Node{cvar(1)}, each(9900, func(i int) []impl.Node { return crule(unplaced(impl.PCon, 0, "::", wildPat), one) })...)...))},
		"rules of a type": {impl.CkClash, unplaced(impl.CLet, 1, "", scheme, one, forgotten(unplaced(impl.CCase, 0, "Match", append([][]impl.Node{one}, each(7900, func(i int) []impl.Node { return crule(wildPat, use(0, 1)) })...)...)))},
	} {
		if !impl.Form(c.c) || len(c.c) < 20000 {
			t.Fatalf("%s: %d nodes", name, len(c.c))
		}
		soon(t, name, func() {
			if _, code, node := impl.TypeOf(program, c.c); code != c.code {
				t.Errorf("%s with %d nodes: code %d at node %d, want %d", name, len(c.c), code, node, c.code)
			}
		})
	}
}

func nestedAlls(n int, c []impl.Node) []impl.Node {
	for i := range n {
		c = append(c, impl.Node{Kind: impl.CAll, Num: int64(i + 1), Kids: 1})
	}
	return c
}

// As many datatypes and constructors as a program may have.
func TestTypeOfManyConstructors(t *testing.T) {
	src := "datatype t = A0"
	for i := range 1000 {
		src += " | A" + strconv.Itoa(i+1) + " of t list"
	}
	program := resolved(t, src)
	parts := [][]impl.Node{}
	for i := range 6000 {
		parts = append(parts, unplaced(impl.CApp, 0, "", unplaced(impl.CCon, 0, "A"+strconv.Itoa(1+i%1000)), unplaced(impl.CCon, 0, "nil", typeCon("t"))))
	}
	soon(t, "many constructors", func() {
		ty, code, node := impl.TypeOf(program, unplaced(impl.CTuple, 0, "", parts...))
		if code != impl.CkOk || len(ty) != 6001 {
			t.Errorf("code %d at node %d, %d nodes", code, node, len(ty))
		}
	})
}
