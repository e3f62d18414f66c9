package tests

import (
	"slices"
	"strconv"
	"strings"
	"testing"

	"loop.example/s02665/impl"
)

func kindName(kind int) string {
	return list()[kind-1].name
}

// shown writes a term in short: names, numbers, strings and constructors stand for themselves where
// they have no kids, other nodes begin with their kinds.
func shown(it []impl.Node) string {
	root := it[len(it)-1]
	kids := []string{}
	for _, kid := range impl.Kids(it) {
		kids = append(kids, shown(kid))
	}
	switch {
	case root.Kind == impl.PWild:
		return "_"
	case root.Kind == impl.TVar:
		return "'" + root.Text
	case isOneOf(root.Kind, impl.PInt, impl.EInt):
		return strconv.FormatInt(root.Num, 10)
	case isOneOf(root.Kind, impl.PStr, impl.EStr):
		return strconv.Quote(root.Text)
	case isOneOf(root.Kind, impl.PVar, impl.EVar, impl.ECon), isOneOf(root.Kind, impl.PCon, impl.TCon) && len(kids) == 0:
		return root.Text
	}
	out := kindName(root.Kind)
	if root.Text != "" {
		out += " " + root.Text
	}
	if root.Num != 0 {
		out += " " + strconv.FormatInt(root.Num, 10)
	}
	return out + "(" + strings.Join(kids, ", ") + ")"
}

// parsed wants a source to be accepted.
func parsed(t *testing.T, src string) []impl.Node {
	t.Helper()
	got, code, place := impl.Parse(src)
	if code != impl.ParseOk || place != 0 || len(got) == 0 {
		t.Fatalf("%.200q: %d nodes, code %d at %d", src, len(got), code, place)
	}
	return got
}

// partsShown is what the kids of the only dec are, each as shown.
func partsShown(t *testing.T, src string) []string {
	t.Helper()
	out := []string{}
	for _, part := range impl.Kids(impl.Kids(parsed(t, src))[0]) {
		out = append(out, shown(part))
	}
	return out
}

func expIs(t *testing.T, src string, want string) {
	t.Helper()
	if got := partsShown(t, "val x = "+src); got[0] != "x" || got[1] != want {
		t.Errorf("%s: %s, want %s", src, got[1], want)
	}
}

func patIs(t *testing.T, src string, want string) {
	t.Helper()
	if got := partsShown(t, "val "+src+" = 1"); got[0] != want || got[1] != "1" {
		t.Errorf("%s: %s, want %s", src, got[0], want)
	}
}

// typeIs asks at every place where a type may stand.
func typeIs(t *testing.T, src string, want string) {
	t.Helper()
	patIs(t, "x : "+src, "PType(x, "+want+")")
	expIs(t, "y : "+src, "EType(y, "+want+")")
	decsAre(t, "exception E of "+src, "DExn E("+want+")")
	decsAre(t, "type t = "+src, "DType t("+want+")")
	decsAre(t, "datatype t = A of "+src+" | B", "DData(TBind t(CBind A("+want+"), CBind B()))")
}

func decsAre(t *testing.T, src string, want ...string) {
	t.Helper()
	got := []string{}
	for _, dec := range impl.Kids(parsed(t, src)) {
		got = append(got, shown(dec))
	}
	if !slices.Equal(got, want) {
		t.Errorf("%s: %s, want %s", src, got, want)
	}
}

func parseFails(t *testing.T, src string, code int, place int) {
	t.Helper()
	got, c, p := impl.Parse(src)
	if len(got) != 0 || c != code || p != place {
		t.Errorf("%.200q: %d nodes, code %d at %d, want code %d at %d", src, len(got), c, p, code, place)
	}
}

// failsAtMark wants the code at the place of the "@", which is none of the source.
func failsAtMark(t *testing.T, marked string, code int) {
	t.Helper()
	place := strings.Index(marked, "@")
	if place < 0 {
		t.Fatalf("%q has no mark", marked)
	}
	parseFails(t, strings.Replace(marked, "@", "", 1), code, place)
}

func TestParseConstants(t *testing.T) {
	codes := []int{impl.ParseOk, impl.ParseSyntax, impl.ParseClause, impl.ParseLarge}
	if !slices.Equal(codes, []int{0, 10, 11, 12}) {
		t.Error("codes", codes)
	}
}

func TestParseExamples(t *testing.T) {
	expIs(t, "a + b * c - d", "EBin -(EBin +(a, EBin *(b, c)), d)")
	expIs(t, "a + 1 :: b ^ c", "EApp(::, ETuple(EBin +(a, 1), EBin ^(b, c)))")
	expIs(t, "a :: b = c", "EBin =(EApp(::, ETuple(a, b)), c)")
	expIs(t, "a !b ~ c ~3", "EApp(EApp(EApp(a, EUn !(b)), EUn ~(c)), -3)")
	expIs(t, "raise a handle b => c", "ERaise(EHandle(a, Rule(b, c)))")
	expIs(t, "fn a => a | b => case c of a => a | b => d",
		"EFn(Rule(a, a), Rule(b, ECase(c, Rule(a, a), Rule(b, d))))")
	patIs(t, "(a as b : t)", "PAs a(PType(b, t))")
	patIs(t, "op :: x", "PCon ::(x)")
	failsAtMark(t, "val x =@", impl.ParseSyntax)
	failsAtMark(t, "val x = 1 2 = @= 3", impl.ParseSyntax)
	failsAtMark(t, "val x = let @in 1 end", impl.ParseSyntax)
	failsAtMark(t, "val A B @x = 1", impl.ParseSyntax)
	failsAtMark(t, "fun f x = 1 | @g x = 2", impl.ParseClause)
	failsAtMark(t, "fun f x = 1 | f x y @= 2", impl.ParseClause)
	failsAtMark(t, "val x : int @unit = 1", impl.ParseSyntax)
	failsAtMark(t, "val x = 1 + @fn a => a", impl.ParseSyntax)
	failsAtMark(t, "val 1 = = @$", impl.LexChar)
}

func TestParsePrograms(t *testing.T) {
	decsAre(t, "")
	decsAre(t, " (* nothing *) \n")
	decsAre(t, "val a = 1", "DVal(a, 1)")
	decsAre(t, "val a = 1 val b = a fun f x = 1 exception E type t = u datatype d = D val c = 2",
		"DVal(a, 1)", "DVal(b, a)", "DFun(FBind f(FClause(x, 1)))", "DExn E()", "DType t(u)", "DData(TBind d(CBind D()))", "DVal(c, 2)")
	root := parsed(t, "val a = 1 val b = 2")
	if got := root[len(root)-1]; got != (impl.Node{Kind: impl.KProgram, Kids: 2}) {
		t.Errorf("the root is %v", got)
	}
}

func TestParseVals(t *testing.T) {
	decsAre(t, "val x = y", "DVal(x, y)")
	decsAre(t, "val _ = y = z", "DVal(_, EBin =(y, z))")
	decsAre(t, "val (a, b) : t = y", "DVal(PType(PTuple(a, b), t), y)")
	decsAre(t, "val unit = unit", "DVal(unit, unit)")
	decsAre(t, "val x = fn y => y val z = 1", "DVal(x, EFn(Rule(y, y)))", "DVal(z, 1)")
}

func TestParseFuns(t *testing.T) {
	decsAre(t, "fun f x = y", "DFun(FBind f(FClause(x, y)))")
	decsAre(t, "fun f x y _ 1 \"s\" = z", `DFun(FBind f(FClause(x, y, _, 1, "s", z)))`)
	decsAre(t, "fun f A x = y", "DFun(FBind f(FClause(A, x, y)))")
	decsAre(t, "fun f (A x) nil = y", "DFun(FBind f(FClause(PCon A(x), nil, y)))")
	decsAre(t, "fun f op :: x = y", "DFun(FBind f(FClause(::, x, y)))")
	decsAre(t, "fun f true false nil B = y", "DFun(FBind f(FClause(true, false, nil, B, y)))")
	decsAre(t, "fun f () (a) (b, c) [] [d] = y",
		"DFun(FBind f(FClause(PTuple(), a, PTuple(b, c), nil, PCon ::(PTuple(d, nil)), y)))")
	decsAre(t, "fun f (a as b) (c : t) (d :: e) = y",
		"DFun(FBind f(FClause(PAs a(b), PType(c, t), PCon ::(PTuple(d, e)), y)))")
	decsAre(t, "fun f x = a | f y = b | f z = c", "DFun(FBind f(FClause(x, a), FClause(y, b), FClause(z, c)))")
	decsAre(t, "fun f x = a and g y = b and f z = c",
		"DFun(FBind f(FClause(x, a)), FBind g(FClause(y, b)), FBind f(FClause(z, c)))")
	decsAre(t, "fun f x = a | f y = b and g y z = c | g u v = d",
		"DFun(FBind f(FClause(x, a), FClause(y, b)), FBind g(FClause(y, z, c), FClause(u, v, d)))")
	decsAre(t, "fun f x = y = z", "DFun(FBind f(FClause(x, EBin =(y, z))))")
	decsAre(t, "fun unit x = y", "DFun(FBind unit(FClause(x, y)))")
	decsAre(t, "fun f f = f | f f = f", "DFun(FBind f(FClause(f, f), FClause(f, f)))")
}

func TestParseDatatypes(t *testing.T) {
	decsAre(t, "datatype t = A", "DData(TBind t(CBind A()))")
	decsAre(t, "datatype t = A of int | B | C of 'a list",
		"DData(TBind t(CBind A(int), CBind B(), CBind C(TCon list('a))))")
	decsAre(t, "datatype 'a t = A of 'a", "DData(TBind t 1('a, CBind A('a)))")
	decsAre(t, "datatype ('a) t = A", "DData(TBind t 1('a, CBind A()))")
	decsAre(t, "datatype ('a, 'b, 'a) t = A | B", "DData(TBind t 3('a, 'b, 'a, CBind A(), CBind B()))")
	decsAre(t, "datatype t = A of t | B and 'a u = A and ('a, 'b) v = C",
		"DData(TBind t(CBind A(t), CBind B()), TBind u 1('a, CBind A()), TBind v 2('a, 'b, CBind C()))")
}

func TestParseTypesAndExceptions(t *testing.T) {
	decsAre(t, "type t = int", "DType t(int)")
	decsAre(t, "type 'a t = 'a list", "DType t 1('a, TCon list('a))")
	decsAre(t, "type ('a) t = unit", "DType t 1('a, TTuple())")
	decsAre(t, "type ('a, 'b) t = 'b -> 'a", "DType t 2('a, 'b, TArrow('b, 'a))")
	decsAre(t, "exception E", "DExn E()")
	decsAre(t, "exception E of int * string", "DExn E(TTuple(int, string))")
	decsAre(t, "exception E of int exception F", "DExn E(int)", "DExn F()")
}

func TestParseTypes(t *testing.T) {
	typeIs(t, "'a", "'a")
	typeIs(t, "int", "int")
	typeIs(t, "unit", "TTuple()")
	typeIs(t, "int list", "TCon list(int)")
	typeIs(t, "'a list ref", "TCon ref(TCon list('a))")
	typeIs(t, "unit list", "TCon list(TTuple())")
	typeIs(t, "(int)", "int")
	typeIs(t, "((unit))", "TTuple()")
	typeIs(t, "(int) list", "TCon list(int)")
	typeIs(t, "(a, b) t", "TCon t(a, b)")
	typeIs(t, "(a, b, 'c) t u", "TCon u(TCon t(a, b, 'c))")
	typeIs(t, "(a -> b, c * d) t", "TCon t(TArrow(a, b), TTuple(c, d))")
	typeIs(t, "(unit, unit) t", "TCon t(TTuple(), TTuple())")
	typeIs(t, "a * b", "TTuple(a, b)")
	typeIs(t, "a * b * c", "TTuple(a, b, c)")
	typeIs(t, "(a * b) * c", "TTuple(TTuple(a, b), c)")
	typeIs(t, "a * (b * c)", "TTuple(a, TTuple(b, c))")
	typeIs(t, "(a * b)", "TTuple(a, b)")
	typeIs(t, "(a * b) list", "TCon list(TTuple(a, b))")
	typeIs(t, "a * b list", "TTuple(a, TCon list(b))")
	typeIs(t, "a -> b", "TArrow(a, b)")
	typeIs(t, "a -> b -> c", "TArrow(a, TArrow(b, c))")
	typeIs(t, "(a -> b) -> c", "TArrow(TArrow(a, b), c)")
	typeIs(t, "a * b -> c * d", "TArrow(TTuple(a, b), TTuple(c, d))")
	typeIs(t, "a * (b -> c) * d", "TTuple(a, TArrow(b, c), d)")
	typeIs(t, "(a -> b) list", "TCon list(TArrow(a, b))")
	typeIs(t, "unit -> unit * unit", "TArrow(TTuple(), TTuple(TTuple(), TTuple()))")
}

func TestParsePats(t *testing.T) {
	for src, want := range map[string]string{
		"_": "_", "x": "x", "1": "1", "~7": "-7", `"a\n"`: `"a\n"`, "A": "A", "true": "true", "false": "false", "nil": "nil", "op ::": "::",
		"()": "PTuple()", "(x)": "x", "((x))": "x", "(x, y)": "PTuple(x, y)", "(x, y, _)": "PTuple(x, y, _)", "((x, y), z)": "PTuple(PTuple(x, y), z)",
		"unit": "unit", "(())": "PTuple()",
	} {
		patIs(t, src, want)
		decsAre(t, "fun f ("+src+") = 1", "DFun(FBind f(FClause("+want+", 1)))")
		expIs(t, "fn "+src+" => 1", "EFn(Rule("+want+", 1))")
		patIs(t, "A ("+src+")", "PCon A("+want+")")
		patIs(t, "("+src+", "+src+")", "PTuple("+want+", "+want+")")
		patIs(t, "["+src+"]", "PCon ::(PTuple("+want+", nil))")
		patIs(t, src+" :: "+src, "PCon ::(PTuple("+want+", "+want+"))")
		patIs(t, "a as "+src, "PAs a("+want+")")
		patIs(t, src+" : t", "PType("+want+", t)")
	}
}

func TestParsePatsWithCons(t *testing.T) {
	for _, con := range []string{"A", "true", "false", "nil"} {
		patIs(t, con+" x", "PCon "+con+"(x)")
		patIs(t, con+" _", "PCon "+con+"(_)")
		patIs(t, con+" 1", "PCon "+con+"(1)")
		patIs(t, con+` "s"`, "PCon "+con+`("s")`)
		patIs(t, con+" B", "PCon "+con+"(B)")
		patIs(t, con+" nil", "PCon "+con+"(nil)")
		patIs(t, con+" op ::", "PCon "+con+"(::)")
		patIs(t, con+" ()", "PCon "+con+"(PTuple())")
		patIs(t, con+" (B x)", "PCon "+con+"(PCon B(x))")
		patIs(t, con+" []", "PCon "+con+"(nil)")
		patIs(t, con+" [x]", "PCon "+con+"(PCon ::(PTuple(x, nil)))")
	}
	patIs(t, "op :: (x, y)", "PCon ::(PTuple(x, y))")
	patIs(t, "op :: op ::", "PCon ::(::)")
	patIs(t, "op :: :: op ::", "PCon ::(PTuple(::, ::))")
	patIs(t, "op :: x :: y", "PCon ::(PTuple(PCon ::(x), y))")
}

func TestParsePatsThatGroup(t *testing.T) {
	patIs(t, "a :: b :: c", "PCon ::(PTuple(a, PCon ::(PTuple(b, c))))")
	patIs(t, "(a :: b) :: c", "PCon ::(PTuple(PCon ::(PTuple(a, b)), c))")
	patIs(t, "A a :: B b", "PCon ::(PTuple(PCon A(a), PCon B(b)))")
	patIs(t, "A :: B", "PCon ::(PTuple(A, B))")
	patIs(t, "a :: b : t", "PType(PCon ::(PTuple(a, b)), t)")
	patIs(t, "a : t : u", "PType(PType(a, t), u)")
	patIs(t, "a : t -> u : v", "PType(PType(a, TArrow(t, u)), v)")
	patIs(t, "a as b as c", "PAs a(PAs b(c))")
	patIs(t, "a as b :: c : t", "PAs a(PType(PCon ::(PTuple(b, c)), t))")
	patIs(t, "a as A b", "PAs a(PCon A(b))")
	patIs(t, "(a as b) :: c", "PCon ::(PTuple(PAs a(b), c))")
	patIs(t, "(a as b) : t", "PType(PAs a(b), t)")
	patIs(t, "(a as b, c as d)", "PTuple(PAs a(b), PAs c(d))")
	patIs(t, "[]", "nil")
	patIs(t, "[a]", "PCon ::(PTuple(a, nil))")
	patIs(t, "[a, b as c, d : t]", "PCon ::(PTuple(a, PCon ::(PTuple(PAs b(c), PCon ::(PTuple(PType(d, t), nil))))))")
	patIs(t, "[a :: b, [c]]", "PCon ::(PTuple(PCon ::(PTuple(a, b)), PCon ::(PTuple(PCon ::(PTuple(c, nil)), nil))))")
}

func TestParseAtoms(t *testing.T) {
	for src, want := range map[string]string{
		"x": "x", "1": "1", "~7": "-7", `"a\n"`: `"a\n"`, "A": "A", "true": "true", "false": "false", "nil": "nil", "op ::": "::",
		"()": "ETuple()", "(x)": "x", "((x))": "x", "(x, y)": "ETuple(x, y)", "(x, y, z)": "ETuple(x, y, z)", "((x, y), z)": "ETuple(ETuple(x, y), z)",
		"(x; y)": "ESeq(x, y)", "(x; y; z)": "ESeq(x, y, z)", "((x; y); z)": "ESeq(ESeq(x, y), z)", "((x; y), z)": "ETuple(ESeq(x, y), z)",
		"unit": "unit", "(())": "ETuple()", "[]": "nil", "[x]": "EApp(::, ETuple(x, nil))",
		"[x, y]":                 "EApp(::, ETuple(x, EApp(::, ETuple(y, nil))))",
		"let val a = 1 in b end": "ELet(DVal(a, 1), b)",
	} {
		expIs(t, src, want)
		expIs(t, "("+src+")", want)
		expIs(t, src+" "+src, "EApp("+want+", "+want+")")
		expIs(t, "f "+src+" x", "EApp(EApp(f, "+want+"), x)")
		expIs(t, "! "+src, "EUn !("+want+")")
		expIs(t, src+" * "+src, "EBin *("+want+", "+want+")")
		expIs(t, "["+src+"]", "EApp(::, ETuple("+want+", nil))")
		expIs(t, src+" :: "+src, "EApp(::, ETuple("+want+", "+want+"))")
		expIs(t, "if "+src+" then "+src+" else "+src, "EIf("+want+", "+want+", "+want+")")
		expIs(t, "("+src+"; "+src+")", "ESeq("+want+", "+want+")")
	}
}

func TestParseListsOfExps(t *testing.T) {
	expIs(t, "a :: b :: c", "EApp(::, ETuple(a, EApp(::, ETuple(b, c))))")
	expIs(t, "(a :: b) :: c", "EApp(::, ETuple(EApp(::, ETuple(a, b)), c))")
	expIs(t, "a :: b :: []", "EApp(::, ETuple(a, EApp(::, ETuple(b, nil))))")
	expIs(t, "[a + b, if c then d else e, fn f => g]",
		"EApp(::, ETuple(EBin +(a, b), EApp(::, ETuple(EIf(c, d, e), EApp(::, ETuple(EFn(Rule(f, g)), nil))))))")
	expIs(t, "[[a], []]", "EApp(::, ETuple(EApp(::, ETuple(a, nil)), EApp(::, ETuple(nil, nil))))")
	expIs(t, "a * b :: c * d :: e", "EApp(::, ETuple(EBin *(a, b), EApp(::, ETuple(EBin *(c, d), e))))")
	expIs(t, "op :: (a, b)", "EApp(::, ETuple(a, b))")
	expIs(t, "op :: a", "EApp(::, a)")
	expIs(t, "op :: :: op ::", "EApp(::, ETuple(::, ::))")
	expIs(t, "f op :: x", "EApp(EApp(f, ::), x)")
	expIs(t, "a = b :: c = d", "EBin =(EBin =(a, EApp(::, ETuple(b, c))), d)")
}

// levels tells for each operator how tightly it holds.
var levels = map[string]int{
	"orelse": 1, "andalso": 2, ":=": 4, "=": 5, "<>": 5, "<": 5, "<=": 5, ">": 5, ">=": 5,
	"::": 6, "+": 7, "-": 7, "^": 7, "*": 8, "/": 8, "%": 8,
}

const levelOfType = 3

func opIs(op string, left string, right string) string {
	switch op {
	case "orelse":
		return "EOr(" + left + ", " + right + ")"
	case "andalso":
		return "EAnd(" + left + ", " + right + ")"
	case "::":
		return "EApp(::, ETuple(" + left + ", " + right + "))"
	}
	return "EBin " + op + "(" + left + ", " + right + ")"
}

// leftFirst tells of a first operator whether it takes what stands between it and a second one.
func leftFirst(first string, second string) bool {
	return levels[first] > levels[second] || levels[first] == levels[second] && first != "::"
}

func TestParseLevels(t *testing.T) {
	for first := range levels {
		expIs(t, "a "+first+" b", opIs(first, "a", "b"))
		expIs(t, "f a "+first+" g b", opIs(first, "EApp(f, a)", "EApp(g, b)"))
		expIs(t, "!a "+first+" ~ b", opIs(first, "EUn !(a)", "EUn ~(b)"))
		for second := range levels {
			src := "a " + first + " b " + second + " c"
			if leftFirst(first, second) {
				expIs(t, src, opIs(second, opIs(first, "a", "b"), "c"))
			} else {
				expIs(t, src, opIs(first, "a", opIs(second, "b", "c")))
			}
			expIs(t, "(a "+first+" b) "+second+" c", opIs(second, opIs(first, "a", "b"), "c"))
			expIs(t, "a "+first+" (b "+second+" c)", opIs(first, "a", opIs(second, "b", "c")))
		}
	}
}

// grouped splits at the loosest operator: of several on one level at the last, but at the first "::".
func grouped(names []string, ops []string) string {
	if len(ops) == 0 {
		return names[0]
	}
	split := 0
	for i := range ops {
		if leftFirst(ops[split], ops[i]) {
			split = i
		}
	}
	return opIs(ops[split], grouped(names[:split+1], ops[:split]), grouped(names[split+1:], ops[split+1:]))
}

func TestParseLevelsOfThree(t *testing.T) {
	for first := range levels {
		for second := range levels {
			for third := range levels {
				want := grouped([]string{"a", "b", "c", "d"}, []string{first, second, third})
				expIs(t, "a "+first+" b "+second+" c "+third+" d", want)
			}
		}
	}
}

func TestParseTypedExps(t *testing.T) {
	expIs(t, "a : t : u", "EType(EType(a, t), u)")
	expIs(t, "a : t -> u : v", "EType(EType(a, TArrow(t, u)), v)")
	failsAtMark(t, "val x = a : t * @1", impl.ParseSyntax)
	expIs(t, "a : t * u list", "EType(a, TTuple(t, TCon list(u)))")
	for op, level := range levels {
		typed := "a " + op + " b : t"
		switch {
		case level < levelOfType:
			expIs(t, typed, opIs(op, "a", "EType(b, t)"))
			expIs(t, "a : t "+op+" b", opIs(op, "EType(a, t)", "b"))
			continue
		case op != "*":
			failsAtMark(t, "val x = a : t @"+op+" 1", impl.ParseSyntax)
			failsAtMark(t, "val x = a : 'u -> t @"+op+" (b, c)", impl.ParseSyntax)
		}
		expIs(t, typed, "EType("+opIs(op, "a", "b")+", t)")
	}
	expIs(t, "f a : t", "EType(EApp(f, a), t)")
	expIs(t, "(a : t) b", "EApp(EType(a, t), b)")
	expIs(t, "a : t handle b => c : u", "EHandle(EType(a, t), Rule(b, EType(c, u)))")
}

func TestParseApplications(t *testing.T) {
	expIs(t, "a b c d", "EApp(EApp(EApp(a, b), c), d)")
	expIs(t, "a (b c) d", "EApp(EApp(a, EApp(b, c)), d)")
	expIs(t, "A 1", "EApp(A, 1)")
	expIs(t, "A B C", "EApp(EApp(A, B), C)")
	expIs(t, "1 2", "EApp(1, 2)")
	expIs(t, "~ a b", "EApp(EUn ~(a), b)")
	expIs(t, "a ~ b c", "EApp(EApp(a, EUn ~(b)), c)")
	expIs(t, "! ~ ! a", "EUn !(EUn ~(EUn !(a)))")
	expIs(t, "!!a", "EUn !(EUn !(a))")
	expIs(t, "~~3", "EUn ~(-3)")
	expIs(t, "a~3", "EApp(a, -3)")
	expIs(t, "a - 3", "EBin -(a, 3)")
	expIs(t, "a - ~ 3", "EBin -(a, EUn ~(3))")
	expIs(t, "a()", "EApp(a, ETuple())")
	expIs(t, "a[]", "EApp(a, nil)")
	expIs(t, "let val a = 1 in b end let val c = 2 in d end", "EApp(ELet(DVal(a, 1), b), ELet(DVal(c, 2), d))")
}

func TestParseExpsOfWords(t *testing.T) {
	expIs(t, "if a then b else c", "EIf(a, b, c)")
	expIs(t, "if if a then b else c then d else e", "EIf(EIf(a, b, c), d, e)")
	expIs(t, "if a then if b then c else d else e", "EIf(a, EIf(b, c, d), e)")
	expIs(t, "if a then b else c orelse d", "EIf(a, b, EOr(c, d))")
	expIs(t, "if a then b else c : t", "EIf(a, b, EType(c, t))")
	expIs(t, "if a then b else c handle d => e", "EIf(a, b, EHandle(c, Rule(d, e)))")
	expIs(t, "if a then b handle d => e else c", "EIf(a, EHandle(b, Rule(d, e)), c)")
	expIs(t, "while a do b", "EWhile(a, b)")
	expIs(t, "while a do while b do c := d", "EWhile(a, EWhile(b, EBin :=(c, d)))")
	expIs(t, "while while a do b do c", "EWhile(EWhile(a, b), c)")
	expIs(t, "case a of b => c", "ECase(a, Rule(b, c))")
	expIs(t, "case case a of b => c of d => e", "ECase(ECase(a, Rule(b, c)), Rule(d, e))")
	expIs(t, "case fn a => b of c => d", "ECase(EFn(Rule(a, b)), Rule(c, d))")
	expIs(t, "fn a => b", "EFn(Rule(a, b))")
	expIs(t, "fn a => fn b => c", "EFn(Rule(a, EFn(Rule(b, c))))")
	expIs(t, "fn a : t => b : u", "EFn(Rule(PType(a, t), EType(b, u)))")
	expIs(t, "fn a as b :: c => d", "EFn(Rule(PAs a(PCon ::(PTuple(b, c))), d))")
	expIs(t, "raise a", "ERaise(a)")
	expIs(t, "raise raise a b", "ERaise(ERaise(EApp(a, b)))")
	expIs(t, "raise if a then b else c", "ERaise(EIf(a, b, c))")
	expIs(t, "a handle b => c", "EHandle(a, Rule(b, c))")
	expIs(t, "a handle b => c | d => e", "EHandle(a, Rule(b, c), Rule(d, e))")
	expIs(t, "a orelse b handle c => d", "EHandle(EOr(a, b), Rule(c, d))")
	expIs(t, "a handle b => c orelse d", "EHandle(a, Rule(b, EOr(c, d)))")
	expIs(t, "(a handle b => c) handle d => e", "EHandle(EHandle(a, Rule(b, c)), Rule(d, e))")
	expIs(t, "case a of b => c handle d => e", "ECase(a, Rule(b, EHandle(c, Rule(d, e))))")
	expIs(t, "(if a then b else c; fn d => e)", "ESeq(EIf(a, b, c), EFn(Rule(d, e)))")
	expIs(t, "(case a of b => c, raise d)", "ETuple(ECase(a, Rule(b, c)), ERaise(d))")
}

func TestParseLets(t *testing.T) {
	expIs(t, "let val a = 1 in b end", "ELet(DVal(a, 1), b)")
	expIs(t, "let val a = 1 val b = 2 fun f x = y and g x = y in c end",
		"ELet(DVal(a, 1), DVal(b, 2), DFun(FBind f(FClause(x, y)), FBind g(FClause(x, y))), c)")
	expIs(t, "let fun f x = y | f z = u in c end", "ELet(DFun(FBind f(FClause(x, y), FClause(z, u))), c)")
	expIs(t, "let val a = 1 in b; c end", "ELet(DVal(a, 1), ESeq(b, c))")
	expIs(t, "let val a = 1 in b; c; d end", "ELet(DVal(a, 1), ESeq(b, c, d))")
	expIs(t, "let val a = 1 in (b; c) end", "ELet(DVal(a, 1), ESeq(b, c))")
	expIs(t, "let val a = 1 in (b; c); d end", "ELet(DVal(a, 1), ESeq(ESeq(b, c), d))")
	expIs(t, "let val a = let val b = 1 in c end in d end", "ELet(DVal(a, ELet(DVal(b, 1), c)), d)")
	expIs(t, "let val a = 1 in fn b => c end", "ELet(DVal(a, 1), EFn(Rule(b, c)))")
}

// A "|" belongs to the innermost match or fbind that is open.
func TestParseBars(t *testing.T) {
	expIs(t, "case a of b => fn c => d | e => f", "ECase(a, Rule(b, EFn(Rule(c, d), Rule(e, f))))")
	expIs(t, "case a of b => (fn c => d) | e => f", "ECase(a, Rule(b, EFn(Rule(c, d))), Rule(e, f))")
	expIs(t, "fn a => b handle c => d | e => f", "EFn(Rule(a, EHandle(b, Rule(c, d), Rule(e, f))))")
	expIs(t, "a handle b => case c of d => e | f => g", "EHandle(a, Rule(b, ECase(c, Rule(d, e), Rule(f, g))))")
	expIs(t, "fn a => if b then c else fn d => e | f => g", "EFn(Rule(a, EIf(b, c, EFn(Rule(d, e), Rule(f, g)))))")
	expIs(t, "fn a => if case b of c => d | e => f then g else h | i => j",
		"EFn(Rule(a, EIf(ECase(b, Rule(c, d), Rule(e, f)), g, h)), Rule(i, j))")
	expIs(t, "fn a => raise fn b => c | d => e", "EFn(Rule(a, ERaise(EFn(Rule(b, c), Rule(d, e)))))")
	expIs(t, "fn a => let fun f b = c | f d = e in g end | h => i",
		"EFn(Rule(a, ELet(DFun(FBind f(FClause(b, c), FClause(d, e))), g)), Rule(h, i))")
	expIs(t, "fn a => [fn b => c | d => e] | f => g",
		"EFn(Rule(a, EApp(::, ETuple(EFn(Rule(b, c), Rule(d, e)), nil))), Rule(f, g))")
	decsAre(t, "fun f a = (case a of b => c | d => e) | f g = h",
		"DFun(FBind f(FClause(a, ECase(a, Rule(b, c), Rule(d, e))), FClause(g, h)))")
	decsAre(t, "fun f a = fn b => c | f => d", "DFun(FBind f(FClause(a, EFn(Rule(b, c), Rule(f, d)))))")
	decsAre(t, "fun f a = case b of c => d | e => f and g h = i",
		"DFun(FBind f(FClause(a, ECase(b, Rule(c, d), Rule(e, f)))), FBind g(FClause(h, i)))")
	failsAtMark(t, "fun f a = case a of b => c | f @d = e", impl.ParseSyntax)
	failsAtMark(t, "fun f a = fn b => c | f @= e", impl.ParseSyntax)
	failsAtMark(t, "fun f a = b handle c => d | f @(e) = g", impl.ParseSyntax)
}

func TestParseNums(t *testing.T) {
	for text, n := range map[string]int64{"0": 0, "~0": 0, "007": 7, "9223372036854775807": 1<<63 - 1, "~9223372036854775808": -1 << 63} {
		want := impl.Join(impl.Node{Kind: impl.KProgram}, [][]impl.Node{made(impl.DVal, 0, "", made(impl.PInt, n, ""), made(impl.EInt, n, ""))})
		if got := parsed(t, "val "+text+" = "+text); !impl.Same(got, want) {
			t.Errorf("%s: %v, want %v", text, got, want)
		}
	}
	long := strings.Repeat("s", impl.MaxString)
	want := impl.Join(impl.Node{Kind: impl.KProgram}, [][]impl.Node{made(impl.DVal, 0, "", made(impl.PStr, 0, "\x00\xff\"\\"), made(impl.EStr, 0, long))})
	if got := parsed(t, `val "\000\255\"\\" = "`+long+`"`); !impl.Same(got, want) {
		t.Errorf("strings: %v, want %v", got, want)
	}
	for _, n := range parsed(t, "fun f x = x as' | f (y as z) = x' val x = f 3 ~4") {
		if isOneOf(n.Kind, impl.FBind, impl.PVar, impl.PAs, impl.EVar) && n.Num != 0 {
			t.Errorf("%v has a number", n)
		}
	}
}

// The Text of a string or of a Var may be that of a word, and is none for that.
func TestParseTextsOfWords(t *testing.T) {
	for _, w := range strings.Fields("_ " + wordList + " " + symbolList + " true nil unit x A") {
		quoted := strconv.Quote(w)
		expIs(t, quoted, quoted)
		expIs(t, "a "+quoted, "EApp(a, "+quoted+")")
		expIs(t, "a + "+quoted+" "+quoted, "EBin +(a, EApp("+quoted+", "+quoted+"))")
		patIs(t, quoted, quoted)
		patIs(t, "A "+quoted, "PCon A("+quoted+")")
		decsAre(t, "fun f "+quoted+" x = 1 | f y "+quoted+" = 2", "DFun(FBind f(FClause("+quoted+", x, 1), FClause(y, "+quoted+", 2)))")
		failsAtMark(t, "@"+quoted+" x = 1", impl.ParseSyntax)
		failsAtMark(t, "val x @"+quoted+" 1", impl.ParseSyntax)
		failsAtMark(t, "val x : @"+quoted+" = 1", impl.ParseSyntax)
		failsAtMark(t, "exception @"+quoted, impl.ParseSyntax)
		if w[0] < 'a' || w[0] > 'z' {
			continue
		}
		typeIs(t, "'"+w, "'"+w)
		typeIs(t, "'"+w+" t", "TCon t('"+w+")")
		decsAre(t, "datatype '"+w+" t = B", "DData(TBind t 1('"+w+", CBind B()))")
		failsAtMark(t, "@'"+w+" x = 1", impl.ParseSyntax)
		failsAtMark(t, "val x = 1 @'"+w+" 1", impl.ParseSyntax)
		failsAtMark(t, "val x = @'"+w, impl.ParseSyntax)
		failsAtMark(t, "val @'"+w+" = 1", impl.ParseSyntax)
	}
}
