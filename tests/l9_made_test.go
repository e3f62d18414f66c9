package tests

import (
	"math/rand"
	"slices"
	"strconv"
	"strings"
	"testing"

	"loop.example/s02665/impl"
)

// known is a name with the type that it has, or may have: TMetas are what it can be used with.
type known struct {
	name string
	ty   []impl.Node
}

// coder makes programs up that have types most of the time. TNums are types of which nothing is known.
type coder struct {
	drawer
	scope []known
	made  int
	slips int // one exp out of so many has another type
}

const coderFront = `datatype 'a opt = None | Some of 'a
datatype ('a, 'b) two = Two of 'a * 'b | One of 'b list | No
type 'a twice = 'a * 'a exception Stop exception Num of int
`

func (c *coder) fresh() string {
	c.made++
	return "v" + strconv.Itoa(c.made%23)
}

func (c *coder) oneOf(texts ...string) string {
	return texts[c.rnd.Intn(len(texts))]
}

func (c *coder) typ(deep int) []impl.Node {
	pick := c.rnd.Intn(16)
	if deep <= 0 {
		pick %= 8
	}
	one := func() []impl.Node { return c.typ(deep - 1) }
	switch pick {
	case 0, 1:
		return typeNum(int64(1 + pick))
	case 2, 3, 4:
		return intType
	case 5:
		return boolType
	case 6:
		return stringType
	case 7:
		return slices.Clone([][]impl.Node{unitType, exnType}[c.rnd.Intn(2)])
	case 8, 9:
		return typeCon("list", one())
	case 10:
		return typeCon("ref", one())
	case 11:
		return typeCon("opt", one())
	case 12:
		return typeCon("two", one(), one())
	case 13:
		return typeTuple(one(), one())
	}
	return typeArrow(one(), one())
}

// typeText writes a type, with a TVar for each that nothing is known of.
func typeText(ty []impl.Node) string {
	root := ty[len(ty)-1]
	kids := []string{}
	for _, kid := range impl.Kids(ty) {
		kids = append(kids, typeText(kid))
	}
	switch root.Kind {
	case impl.TNum, impl.TMeta:
		return "'" + string(rune('a'+root.Num%20))
	case impl.TArrow:
		return "(" + strings.Join(kids, " -> ") + ")"
	case impl.TTuple:
		if len(kids) == 0 {
			return "unit"
		}
		return "(" + strings.Join(kids, " * ") + ")"
	}
	if len(kids) == 0 {
		return root.Text
	}
	return "(" + strings.Join(kids, ", ") + ") " + root.Text
}

// fitting are names in scope that can have a type.
func (c *coder) fitting(want []impl.Node) []string {
	names := []string{}
	for i, k := range c.scope {
		hidden := slices.ContainsFunc(c.scope[i+1:], func(other known) bool { return other.name == k.name })
		if !hidden && (filling{}).matches(k.ty, want) {
			names = append(names, k.name)
		}
	}
	return names
}

// applying are names in scope of functions that can give a type, and what they are given.
func (c *coder) applying(want []impl.Node) []known {
	found := []known{}
	for i, k := range c.scope {
		hidden := slices.ContainsFunc(c.scope[i+1:], func(other known) bool { return other.name == k.name })
		if k.ty[len(k.ty)-1].Kind != impl.TArrow || hidden {
			continue
		}
		kids, f := impl.Kids(k.ty), filling{}
		if f.matches(kids[1], want) {
			arg := f.put(kids[0])
			units := filling{}
			for _, num := range metasOf(arg) {
				if f[num] == nil {
					units[num] = intType
				}
			}
			found = append(found, known{k.name, units.put(arg)})
		}
	}
	return found
}

func (c *coder) exp(want []impl.Node, deep int) string {
	if c.rnd.Intn(c.slips) == 0 {
		want = c.typ(1)
	}
	if names := c.fitting(want); len(names) > 0 && c.rnd.Intn(3) > 0 && (deep <= 0 || c.rnd.Intn(2) == 0) {
		return names[c.rnd.Intn(len(names))]
	}
	if found := c.applying(want); len(found) > 0 && deep > 0 && c.rnd.Intn(3) == 0 {
		one := found[c.rnd.Intn(len(found))]
		return "(" + one.name + " " + c.exp(one.ty, deep-1) + ")"
	}
	if deep <= 0 {
		return c.leaf(want)
	}
	return c.deeper(want, deep-1)
}

func (c *coder) deeper(want []impl.Node, deep int) string {
	switch c.rnd.Intn(18) {
	case 0:
		return "(if " + c.exp(boolType, deep) + " then " + c.exp(want, deep) + " else " + c.exp(want, deep) + ")"
	case 1:
		ty := c.typ(1)
		return "(case " + c.exp(ty, deep) + " of " + c.rules(ty, want, deep) + ")"
	case 2, 3, 4:
		return c.let(want, deep)
	case 5:
		ty := c.typ(1)
		return "((fn " + c.rules(ty, want, deep) + ") " + c.exp(ty, deep) + ")"
	case 6:
		return "(raise " + c.exp(exnType, deep) + ")"
	case 7:
		return "(" + c.exp(want, deep) + " handle " + c.rules(exnType, want, deep) + ")"
	case 8:
		return "(" + c.exp(c.typ(1), deep) + "; " + c.exp(want, deep) + ")"
	case 9:
		return "(" + c.exp(want, deep) + " : " + typeText(want) + ")"
	case 10:
		return "(!" + c.exp(typeCon("ref", want), deep) + ")"
	}
	return c.shaped(want, deep)
}

func (c *coder) leaf(want []impl.Node) string {
	root := want[len(want)-1]
	switch {
	case root.Kind == impl.TNum:
		return "(raise Stop)"
	case root.Kind == impl.TArrow && c.rnd.Intn(2) == 0:
		return "(fn _ => raise Stop)"
	case root.Kind == impl.TTuple && root.Kids == 0:
		return "()"
	}
	switch root.Text {
	case "list":
		return "nil"
	case "opt":
		return "None"
	case "two":
		return "No"
	case "int":
		return c.oneOf("1", "~2")
	case "bool":
		return c.oneOf("true", "false")
	case "string":
		return `"s"`
	case "exn":
		return c.oneOf("Stop", "Div")
	}
	return c.shaped(want, 0)
}

func (c *coder) shaped(want []impl.Node, deep int) string {
	kids, root := impl.Kids(want), want[len(want)-1]
	one := func(k int) string { return c.exp(kids[k], deep) }
	switch root.Kind {
	case impl.TNum:
		return "(raise Stop)"
	case impl.TArrow:
		return "(fn " + c.rules(kids[0], kids[1], deep) + ")"
	case impl.TTuple:
		if len(kids) == 0 {
			return c.unit(deep)
		}
		return "(" + one(0) + ", " + one(1) + ")"
	}
	switch root.Text {
	case "list":
		return "(" + c.oneOf(one(0)+" :: "+c.exp(want, deep), "["+one(0)+", "+one(0)+"]") + ")"
	case "ref":
		return "(ref " + one(0) + ")"
	case "opt":
		return "(Some " + one(0) + ")"
	case "two":
		return c.oneOf("(Two ("+one(0)+", "+one(1)+"))", "(One "+c.exp(typeCon("list", kids[1]), deep)+")")
	}
	return c.basic(root.Text, deep)
}

func (c *coder) basic(name string, deep int) string {
	number := func() string { return c.exp(intType, deep) }
	truth := func() string { return c.exp(boolType, deep) }
	text := func() string { return c.exp(stringType, deep) }
	switch name {
	case "int":
		return c.oneOf("("+number()+c.one(" + - * / %")+number()+")", "(~ "+number()+")", "(size "+text()+")", "(sub ("+text()+", "+number()+"))")
	case "bool":
		ty := c.typ(1)
		return c.oneOf("("+number()+c.one("< <= > >=")+number()+")", "("+c.exp(ty, deep)+c.oneOf(" = ", " <> ")+c.exp(ty, deep)+")",
			"(not "+truth()+")", "("+truth()+c.oneOf(" andalso ", " orelse ")+truth()+")")
	case "string":
		return c.oneOf("("+text()+" ^ "+text()+")", "(show "+number()+")", "(chr "+number()+")", "(cut ("+text()+", "+number()+", "+number()+"))")
	}
	return "(Num " + number() + ")"
}

func (c *coder) unit(deep int) string {
	ty := c.typ(1)
	return c.oneOf("(print "+c.exp(stringType, deep)+")", "("+c.exp(typeCon("ref", ty), deep)+" := "+c.exp(ty, deep)+")",
		"(while "+c.exp(boolType, deep)+" do "+c.exp(ty, deep)+")")
}

// inside makes something up within which names are in scope that are not behind it.
func (c *coder) inside(one func() string) string {
	before := slices.Clone(c.scope)
	out := one()
	c.scope = before
	return out
}

func (c *coder) rules(from []impl.Node, to []impl.Node, deep int) string {
	rules := []string{}
	for range 1 + c.rnd.Intn(2) {
		rules = append(rules, c.inside(func() string { return c.pat(from, 1+c.rnd.Intn(2)) + " => " + c.exp(to, deep) }))
	}
	return strings.Join(rules, " | ")
}

func (c *coder) bind(ty []impl.Node) string {
	name := c.fresh()
	c.scope = append(c.scope, known{name, ty})
	return name
}

func (c *coder) pat(ty []impl.Node, deep int) string {
	if c.rnd.Intn(c.slips) == 0 {
		ty = c.typ(1)
	}
	switch pick := c.rnd.Intn(12); {
	case pick == 0:
		return "_"
	case pick == 1:
		return "(" + c.bind(ty) + " as " + c.pat(ty, deep-1) + ")"
	case pick == 2:
		return "(" + c.pat(ty, deep-1) + " : " + typeText(ty) + ")"
	case pick < 8 || deep <= 0:
		return c.bind(ty)
	}
	kids, root := impl.Kids(ty), ty[len(ty)-1]
	switch {
	case root.Kind == impl.TTuple && len(kids) == 0:
		return "()"
	case root.Kind == impl.TTuple:
		return "(" + c.pat(kids[0], deep-1) + ", " + c.pat(kids[1], deep-1) + ")"
	}
	if con := map[string]string{"exn": "Stop", "list": "nil", "opt": "None", "two": "No"}[root.Text]; con != "" && c.rnd.Intn(2) == 0 {
		return con
	}
	switch root.Text {
	case "int":
		return c.oneOf("0", "~1")
	case "string":
		return `"a"`
	case "bool":
		return c.oneOf("true", "false")
	case "exn":
		return "(Num " + c.pat(intType, deep-1) + ")"
	case "list":
		return "(" + c.pat(kids[0], deep-1) + " :: " + c.pat(ty, deep-1) + ")"
	case "opt":
		return "(Some " + c.pat(kids[0], deep-1) + ")"
	case "two":
		return "(Two (" + c.pat(kids[0], deep-1) + ", " + c.pat(kids[1], deep-1) + "))"
	}
	return c.bind(ty)
}

func (c *coder) let(want []impl.Node, deep int) string {
	return c.inside(func() string {
		decs := ""
		for range 1 + c.rnd.Intn(2) {
			decs += c.dec(deep) + " "
		}
		return "(let " + decs + "in " + c.exp(want, deep) + " end)"
	})
}

// general are decs that are known to have types with something left open.
func (c *coder) general() string {
	a, b := typeMeta(1), typeMeta(2)
	ways := []struct {
		front, behind string
		ty            []impl.Node
	}{
		{"val ", " = fn q => q", typeArrow(a, a)},
		{"fun ", " q = q", typeArrow(a, a)},
		{"fun ", " (q : 'z) = q", typeArrow(a, a)},
		{"val ", " = nil", typeCon("list", a)},
		{"val ", " = (nil, None)", typeTuple(typeCon("list", a), typeCon("opt", b))},
		{"val ", " = Some (fn q => q)", typeCon("opt", typeArrow(a, a))},
		{"val ", " = Some : 'y -> 'y opt", typeArrow(a, typeCon("opt", a))},
		{"fun ", " q r = q", typeArrow(a, typeArrow(b, a))},
		{"fun ", " q = raise Stop", typeArrow(a, b)},
		{"val ", " = ref", typeArrow(a, typeCon("ref", a))},
		{"val ", " = ref nil", typeCon("ref", typeCon("list", intType))},
		{"val ", " = (fn q => q) (fn q => q)", typeArrow(boolType, boolType)},
		{"val ", " = if true then nil else nil", typeCon("list", stringType)},
	}
	if len(c.scope) > 0 {
		k := c.scope[c.rnd.Intn(len(c.scope))]
		if len(metasOf(k.ty)) == 0 && c.fitting(k.ty) != nil && slices.Contains(c.fitting(k.ty), k.name) {
			ways = ways[:3]
			ways[0].behind, ways[0].ty = " = fn q => ("+k.name+", q)", typeArrow(a, typeTuple(k.ty, a))
			ways[1].behind, ways[1].ty = " q = if true then ["+k.name+"] else (q; nil)", typeArrow(a, typeCon("list", k.ty))
			ways[2].behind, ways[2].ty = " q = ("+k.name+", q : 'z)", typeArrow(a, typeTuple(k.ty, a))
		}
	}
	way := ways[c.rnd.Intn(len(ways))]
	name := c.fresh()
	c.scope = append(c.scope, known{name, way.ty})
	return way.front + name + way.behind
}

func (c *coder) clause(name string, args [][]impl.Node, result []impl.Node, deep int) string {
	return c.inside(func() string {
		out := name
		for _, arg := range args {
			out += " " + c.pat(arg, 1)
		}
		return out + " = " + c.exp(result, deep)
	})
}

func (c *coder) fun(deep int) string {
	binds := 1 + c.rnd.Intn(5)/4
	names, args, results := []string{}, [][][]impl.Node{}, [][]impl.Node{}
	for range binds {
		one, result := [][]impl.Node{}, c.typ(1)
		for range 1 + c.rnd.Intn(2) {
			one = append(one, c.typ(1))
		}
		ty := result
		for _, arg := range slices.Backward(one) {
			ty = typeArrow(arg, ty)
		}
		names, args, results = append(names, c.bind(ty)), append(args, one), append(results, result)
	}
	funs := []string{}
	for k, name := range names {
		clauses := []string{}
		for range 1 + c.rnd.Intn(2) {
			clauses = append(clauses, c.clause(name, args[k], results[k], deep))
		}
		funs = append(funs, strings.Join(clauses, " | "))
	}
	return "fun " + strings.Join(funs, " and ")
}

// dec leaves its names in scope.
func (c *coder) dec(deep int) string {
	switch c.rnd.Intn(6) {
	case 0, 1:
		return c.general()
	case 2, 3:
		ty := c.typ(2)
		it := c.inside(func() string { return c.exp(ty, deep) })
		return "val " + c.pat(ty, c.rnd.Intn(2)) + " = " + it
	}
	return c.fun(deep)
}

// learn has the types in scope that the binders of the program's decs have.
func (c *coder) learn(program []impl.Node) bool {
	typed := impl.Infer(program)
	c.scope = nil
	for _, b := range typed.Binders {
		if slices.Contains(outerAgain(program), b.Node) {
			c.scope = append(c.scope, known{b.Name, impl.Scheme(b)})
		}
	}
	return typed.Code == impl.TyOk
}

// outerAgain are the nodes of the binders that belong to decs of the program itself.
func outerAgain(program []impl.Node) []int {
	u, out := treeOf(program), []int{}
	for i, n := range program {
		if !isOneOf(n.Kind, impl.PVar, impl.PAs, impl.FBind) {
			continue
		}
		up := u.parent[i]
		for isOneOf(program[up].Kind, impl.PTuple, impl.PCon, impl.PAs, impl.PType) {
			up = u.parent[up]
		}
		if isOneOf(program[up].Kind, impl.DVal, impl.DFun) && u.parent[up] == len(program)-1 {
			out = append(out, i)
		}
	}
	return out
}

// codedPrograms hands out sources of programs dec by dec, until one has no types.
func codedPrograms(t *testing.T, programs int64, each func(c *coder, src string, program []impl.Node)) {
	t.Helper()
	for seed := range programs {
		c := &coder{drawer: drawer{rand.New(rand.NewSource(seed))}, slips: 20 << (seed % 6)}
		src := coderFront
		for range 1 + seed%7 {
			before := src
			src += c.dec(1+c.rnd.Intn(3)) + "\n"
			it, code, _ := impl.Parse(src)
			if code != impl.ParseOk || len(it) > 700 {
				src = before
				c.learn(resolved(t, src))
				continue
			}
			program, code, node := impl.Resolve(it)
			if code == impl.ScTwice {
				src = before
				c.learn(resolved(t, src))
				continue
			}
			if code != impl.ScOk {
				t.Fatalf("%s\nnames: code %d at node %d", src, code, node)
			}
			each(c, src, program)
			if !c.learn(program) {
				break
			}
		}
	}
}
