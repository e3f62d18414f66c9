package tests

import (
	"fmt"
	"math"
	"slices"
	"strings"
	"testing"

	"loop.example/s02665/impl"
)

// printsAs wants the program that a source is read as to be printed as something else.
func printsAs(t *testing.T, src string, want string) {
	t.Helper()
	if got := impl.Print(parsed(t, src)); got != want {
		t.Errorf("%s:\n got %q\nwant %q", src, got, want)
	}
}

// staysAs wants a dec to be printed as it is written.
func staysAs(t *testing.T, decs ...string) {
	t.Helper()
	for _, dec := range decs {
		printsAs(t, dec, dec+"\n")
	}
}

// expPrints wants an exp to be printed so.
func expPrints(t *testing.T, src string, want string) {
	t.Helper()
	printsAs(t, "val x = "+src, "val x = "+want+"\n")
}

func expsStay(t *testing.T, exps ...string) {
	t.Helper()
	for _, exp := range exps {
		expPrints(t, exp, exp)
	}
}

// alone wants a term to be printed so, with no program around it.
func alone(t *testing.T, it []impl.Node, want string) {
	t.Helper()
	if got := impl.Print(it); got != want {
		t.Errorf("%v:\n got %q\nwant %q", it, got, want)
	}
}

func evar(text string) []impl.Node { return made(impl.EVar, 0, text) }
func pvar(text string) []impl.Node { return made(impl.PVar, 0, text) }
func tcon(text string) []impl.Node { return made(impl.TCon, 0, text) }

func TestPrintExamples(t *testing.T) {
	staysAs(t,
		"val x = a - (b - c)",
		"val x = (a :: b) :: c",
		"val x = (if a then b else c) + 1",
		"val x = fn a => (fn b => c) | d => fn e => e",
		"val x = case a of b => (case c of d => e) | f => case g of h => i",
		"val x = (a handle b => c) handle d => e",
		"val x = (raise a) : int",
		"val x = f (g x) ~5 ~ 5 !r",
		"fun f x = (case x of a => b) | f y = case y of a => b and g (x :: y) (A z) = x",
		"val (x as y : int) :: nil = 1",
		"datatype 'a t = A | B of ('a -> int) list * (int * 'a) and ('b, 'c) u = C of ('b, 'c) u",
	)
	expPrints(t, "[1, 2]", "1 :: 2 :: nil")
	expPrints(t, "[]", "nil")
	expPrints(t, "[[1], []]", "(1 :: nil) :: nil :: nil")
	printsAs(t, "val [1, x] = 1", "val 1 :: x :: nil = 1\n")
}

// The examples of parsing, printed with the parentheses that show how they are read.
func TestPrintExamplesOfParsing(t *testing.T) {
	expsStay(t, "a + b * c - d", "a + 1 :: b ^ c", "a :: b = c", "a !b ~ c ~3", "raise a handle b => c",
		"fn a => a | b => case c of a => a | b => d")
	printsAs(t, "val (a as b : t) = 1", "val a as b : t = 1\n")
	staysAs(t, "val op :: x = 1")
	expPrints(t, "(a) + [b]", "a + (b :: nil)")
}

func TestPrintPrograms(t *testing.T) {
	printsAs(t, "", "")
	printsAs(t, " (* nothing *) ", "")
	printsAs(t, "val x = 1", "val x = 1\n")
	printsAs(t, "val x=1 val y=2 exception E", "val x = 1\nval y = 2\nexception E\n")
	printsAs(t, "fun f x=1\n\n\ntype t=u\tdatatype t=A", "fun f x = 1\ntype t = u\ndatatype t = A\n")
	printsAs(t, "val(x)=((1))", "val x = 1\n")
}

// printedAlone is every kind of the list, over the parts that fit, by itself.
var printedAlone = map[string]string{
	"KProgram": "val x = y\nexception Exn\n",
	"DVal":     "val x = y",
	"DFun":     "fun f x = y",
	"DData":    "datatype b = K",
	"DType":    "type t = int",
	"DExn":     "exception E",
	"TVar":     "'a",
	"TCon":     "int t",
	"TArrow":   "int -> 'a",
	"TTuple":   "unit",
	"PWild":    "_",
	"PVar":     "x",
	"PInt":     "0",
	"PStr":     `"s t"`,
	"PCon":     "C x",
	"PTuple":   "()",
	"PAs":      "x as x",
	"PType":    "x : int",
	"EVar":     "x",
	"EInt":     "0",
	"EStr":     `"s t"`,
	"ECon":     "C",
	"ETuple":   "(y, y)",
	"EFn":      "fn x => y | x => y",
	"EApp":     "y y",
	"EBin":     "y + y",
	"EUn":      "~ y",
	"EIf":      "if y then y else y",
	"ECase":    "case y of x => y",
	"ELet":     "let val x = y in y end",
	"ESeq":     "(y; y)",
	"ERaise":   "raise y",
	"EHandle":  "y handle x => y",
	"EWhile":   "while y do y",
	"EType":    "y : int",
	"EAnd":     "y andalso y",
	"EOr":      "y orelse y",
}

func TestPrintEveryKindAlone(t *testing.T) {
	for _, l := range list() {
		it := lettered(l.kind, 0, l.text, l.some)
		if got, want := impl.Print(it), printedAlone[l.name]; got != want || (want == "") != (l.sort == impl.SortNone) {
			t.Errorf("%s: %q, want %q", l.name, got, want)
		}
	}
}

func TestPrintNothing(t *testing.T) {
	for name, it := range badLists() {
		if got := impl.Print(it); got != "" {
			t.Errorf("%s: %q", name, got)
		}
	}
	e := partsByLetter()['e']
	for _, it := range [][]impl.Node{
		slices.Concat(e, e), made(0, 0, ""), made(impl.EOr+1, 0, ""), made(-1, 0, "", e),
		lettered(impl.Rule, 0, "", "pe"), lettered(impl.FBind, 0, "f", "c"), lettered(impl.FClause, 0, "", "pe"),
		lettered(impl.TBind, 0, "t", "k"), lettered(impl.CBind, 0, "C", ""),
		made(impl.EVar, 0, "X"), made(impl.EVar, 0, "true"), made(impl.EVar, 0, "val"), made(impl.EVar, 0, ""), made(impl.EVar, 0, "x y"),
		made(impl.ECon, 0, "x"), made(impl.TCon, 0, "unit"), made(impl.TVar, 0, "'a"), made(impl.ECon, 1, "A"), made(impl.EInt, 1, "1"),
		made(impl.EStr, 0, strings.Repeat("s", impl.MaxString+1)), made(impl.ETuple, 0, "", e), made(impl.ESeq, 0, "", e),
		made(impl.EBin, 0, "orelse", e, e), made(impl.EUn, 0, "-", e), made(impl.EApp, 0, "", e), made(impl.EFn, 0, ""),
		made(impl.DExn, 0, "nil"), made(impl.KProgram, 0, "", e), made(impl.KProgram, 0, "", made(impl.KProgram, 0, "")),
		lettered(impl.TBind, 1, "t", "k"), lettered(impl.DType, 9, "t", strings.Repeat("v", 9)+"t"),
		raised(impl.MaxDeep, e), wide(impl.ESeq, 'e', impl.MaxNodes), raised(290, made(impl.EVar, 0, "X")),
	} {
		if got := impl.Print(it); got != "" {
			t.Errorf("%v is printed %q", it[len(it)-1], got)
		}
	}
}

func TestPrintSpaces(t *testing.T) {
	printsAs(t, "val   x\t=\n a(* *)+b", "val x = a + b\n")
	expPrints(t, "( a,b ,c )", "(a, b, c)")
	expPrints(t, "( a;b ;c )", "(a; b; c)")
	expPrints(t, "( )", "()")
	expPrints(t, "( ( ),( ) )", "((), ())")
	expPrints(t, "f( )( ( ) )", "f () ()")
	expPrints(t, "f(a,b)(c;d)", "f (a, b) (c; d)")
	expPrints(t, "((a,b),(c;d))", "((a, b), (c; d))")
	expPrints(t, "((a+b)*c,!(d))", "((a + b) * c, !d)")
	expPrints(t, "! a", "!a")
	expPrints(t, "! ! a", "!!a")
	expPrints(t, "! ( a b )", "!(a b)")
	expPrints(t, "! ( )", "!()")
	expPrints(t, "! ~ a", "!~ a")
	expPrints(t, "~a", "~ a")
	expPrints(t, "~ ~a", "~ ~ a")
	expPrints(t, "~ !a", "~ !a")
	expPrints(t, "~(a b)", "~ (a b)")
	expPrints(t, "!let val x=1 in x end", "!let val x = 1 in x end")
	expPrints(t, "!op ::", "!op ::")
	expPrints(t, "(op::,op ::)", "(op ::, op ::)")
	expPrints(t, "(op::;op ::)", "(op ::; op ::)")
	expPrints(t, "a::b::nil", "a :: b :: nil")
	expPrints(t, "a:=b:t", "a := b : t")
	expPrints(t, `f"s""t"!"u"`, `f "s" "t" !"u"`)
	expPrints(t, "let val a=1 fun f x=2 val b=3 in(a;b)end", "let val a = 1 fun f x = 2 val b = 3 in (a; b) end")
	printsAs(t, "val(x,y)=1", "val (x, y) = 1\n")
	printsAs(t, "val(( ),(x,_))=1", "val ((), (x, _)) = 1\n")
	printsAs(t, "fun f(x)( )(y,z)=x|f _ _ _=y and g~1=2", "fun f x () (y, z) = x | f _ _ _ = y and g ~1 = 2\n")
	printsAs(t, "val x:t=1", "val x : t = 1\n")
	printsAs(t, "datatype('a,'b)t=A of('a->'b)u|B and 'a v=C", "datatype ('a, 'b) t = A of ('a -> 'b) u | B and 'a v = C\n")
	printsAs(t, "type('a,'b,'c)t=('a,'b*'c)t", "type ('a, 'b, 'c) t = ('a, 'b * 'c) t\n")
	// Signs inside strings have nothing to say.
	expsStay(t, `"(" "!" "["`, `")" "," ";" "]"`, `"(" ^ ")"`, `a "(" b`, `a ")" b`, `(")", "(")`, `!"!" a`, `"\n" a "\n"`)
}

func TestPrintNumbers(t *testing.T) {
	for num, want := range map[int64]string{
		0: "0", 1: "1", 5: "5", 10: "10", -1: "~1", -5: "~5", 42: "42", -100: "~100",
		math.MaxInt64: "9223372036854775807", math.MinInt64: "~9223372036854775808", math.MaxInt32: "2147483647", math.MinInt32: "~2147483648",
	} {
		e, p := made(impl.EInt, num, ""), made(impl.PInt, num, "")
		alone(t, e, want)
		alone(t, p, want)
		alone(t, made(impl.EBin, 0, "-", e, e), want+" - "+want)
		alone(t, made(impl.EApp, 0, "", evar("f"), e), "f "+want)
		alone(t, made(impl.EApp, 0, "", e, e), want+" "+want)
		alone(t, made(impl.EApp, 0, "", made(impl.EApp, 0, "", evar("f"), e), e), "f "+want+" "+want)
		alone(t, made(impl.EUn, 0, "~", e), "~ "+want)
		alone(t, made(impl.EUn, 0, "!", e), "!"+want)
		alone(t, made(impl.EUn, 0, "~", made(impl.EUn, 0, "~", e)), "~ ~ "+want)
		alone(t, made(impl.EUn, 0, "!", made(impl.EUn, 0, "~", e)), "!~ "+want)
		alone(t, made(impl.EUn, 0, "~", made(impl.EUn, 0, "!", e)), "~ !"+want)
		alone(t, made(impl.EApp, 0, "", evar("f"), made(impl.EUn, 0, "~", e)), "f ~ "+want)
		alone(t, made(impl.PCon, 0, "A", p), "A "+want)
		alone(t, made(impl.ETuple, 0, "", e, e), "("+want+", "+want+")")
		alone(t, made(impl.DFun, 0, "", made(impl.FBind, 0, "f", made(impl.FClause, 0, "", p, p, e))), "fun f "+want+" "+want+" = "+want)
	}
	expsStay(t, "~5", "~ 5", "~ ~5", "~ ~ 5", "!~5", "!5", "!~ 5", "a - ~5", "a - ~ 5", "~5 - a", "~ 5 - a", "f ~5", "f ~ 5", "~ (f 5)", "~ f 5", "~5 5", "!f ~5")
	expPrints(t, "~(~5)", "~ ~5")
	expPrints(t, "f(~5)(~ 5)", "f ~5 ~ 5")
	expPrints(t, "007", "7")
	expPrints(t, "~0", "0")
}

// quoted is a string as the document has it printed.
func quoted(text string) string {
	out := `"`
	for _, b := range []byte(text) {
		switch {
		case b == 10:
			out += `\n`
		case b == 9:
			out += `\t`
		case b == 92:
			out += `\\`
		case b == 34:
			out += `\"`
		case b >= 32 && b <= 126:
			out += string(rune(b))
		default:
			out += fmt.Sprintf(`\%03d`, b)
		}
	}
	return out + `"`
}

func TestPrintStrings(t *testing.T) {
	all := []byte{}
	for b := range 256 {
		one := string([]byte{byte(b)})
		alone(t, made(impl.EStr, 0, one), quoted(one))
		alone(t, made(impl.PStr, 0, one+"1"), quoted(one+"1"))
		all = append(all, byte(b))
	}
	for text, want := range map[string]string{
		"":             `""`,
		"plain text":   `"plain text"`,
		"a\nb\tc\\d\"": `"a\nb\tc\\d\""`,
		"\x00\x1f\r":   `"\000\031\013"`,
		"\x7f\x80\xff": `"\127\128\255"`,
		" ~é'":         `" ~\195\169'"`,
		"(* no *)":     `"(* no *)"`,
		`\n`:           `"\\n"`,
		`\001`:         `"\\001"`,
		string(all):    quoted(string(all)),
	} {
		alone(t, made(impl.EStr, 0, text), want)
		alone(t, made(impl.PStr, 0, text), want)
		expsStay(t, want, "f "+want, "("+want+", "+want+")")
		staysAs(t, "val "+want+" = 1", "fun f "+want+" = 1")
	}
	longest := strings.Repeat("\x01", impl.MaxString)
	alone(t, made(impl.EStr, 0, longest), `"`+strings.Repeat(`\001`, impl.MaxString)+`"`)
}

// Numbers of names are not printed, and neither are places.
func TestPrintNumsOfNames(t *testing.T) {
	for _, num := range []int64{0, 1, -1, 7, math.MaxInt64, math.MinInt64} {
		alone(t, made(impl.EVar, num, "x"), "x")
		alone(t, made(impl.PVar, num, "x"), "x")
		alone(t, made(impl.PAs, num, "x", made(impl.PVar, num, "y")), "x as y")
		clause := made(impl.FClause, 0, "", made(impl.PVar, num, "x"), made(impl.EVar, num, "x"))
		alone(t, made(impl.DFun, 0, "", made(impl.FBind, num, "f", clause, clause)), "fun f x = x | f x = x")
	}
	program := largeProgram()
	want := impl.Print(program)
	for i := range program {
		program[i].At = -i
	}
	if got := impl.Print(program); got != want || want == "" {
		t.Errorf("with other places: %q, want %q", got, want)
	}
}

func TestPrintConsExps(t *testing.T) {
	cons := func(kid []impl.Node) []impl.Node {
		return made(impl.EApp, 0, "", made(impl.ECon, 0, "::"), kid)
	}
	a, b, c := evar("a"), evar("b"), evar("c")
	pair := made(impl.ETuple, 0, "", a, b)
	alone(t, made(impl.ECon, 0, "::"), "op ::")
	alone(t, cons(pair), "a :: b")
	alone(t, cons(a), "op :: a")
	alone(t, cons(made(impl.ETuple, 0, "")), "op :: ()")
	alone(t, cons(made(impl.ETuple, 0, "", a, b, c)), "op :: (a, b, c)")
	alone(t, cons(made(impl.ESeq, 0, "", a, b)), "op :: (a; b)")
	alone(t, cons(made(impl.EType, 0, "", pair, tcon("t"))), "op :: ((a, b) : t)")
	alone(t, cons(made(impl.ECon, 0, "::")), "op :: op ::")
	alone(t, cons(cons(pair)), "op :: (a :: b)")
	alone(t, cons(cons(a)), "op :: (op :: a)")
	alone(t, made(impl.EApp, 0, "", cons(pair), c), "(a :: b) c")
	alone(t, made(impl.EApp, 0, "", cons(a), c), "op :: a c")
	alone(t, made(impl.EApp, 0, "", cons(a), pair), "op :: a (a, b)")
	alone(t, made(impl.EApp, 0, "", c, cons(pair)), "c (a :: b)")
	alone(t, made(impl.EApp, 0, "", c, made(impl.ECon, 0, "::")), "c op ::")
	alone(t, made(impl.EApp, 0, "", made(impl.ECon, 0, "A"), pair), "A (a, b)")
	alone(t, made(impl.EApp, 0, "", made(impl.ECon, 0, "nil"), pair), "nil (a, b)")
	alone(t, made(impl.EApp, 0, "", made(impl.EStr, 0, "::"), pair), `"::" (a, b)`)
	alone(t, made(impl.EUn, 0, "!", made(impl.ECon, 0, "::")), "!op ::")
	for _, op := range strings.Fields(":= = <> < <= > >= ^ + - * / %") {
		alone(t, made(impl.EBin, 0, op, made(impl.ECon, 0, "::"), made(impl.ECon, 0, "::")), "op :: "+op+" op ::")
	}
	alone(t, made(impl.EType, 0, "", made(impl.ECon, 0, "::"), tcon("t")), "op :: : t")
	expsStay(t, "op :: :: op ::", "op :: :: a :: op ::", "(op ::, op ::)", "a :: b :: c", "(a :: b) :: c", "a + b :: c * d", "a :: b = c :: d",
		"(a = b) :: c", "a :: (b = c)", "(fn x => y) :: (if a then b else c)", "!(a :: b)", "op :: op :: a")
	expPrints(t, "op :: (a, b)", "a :: b")
	expPrints(t, "a :: (b :: c)", "a :: b :: c")
}

func TestPrintConsPats(t *testing.T) {
	cons := func(kids ...[]impl.Node) []impl.Node { return made(impl.PCon, 0, "::", kids...) }
	a, b, c := pvar("a"), pvar("b"), pvar("c")
	pair := made(impl.PTuple, 0, "", a, b)
	alone(t, cons(), "op ::")
	alone(t, cons(pair), "a :: b")
	alone(t, cons(a), "op :: a")
	alone(t, cons(made(impl.PTuple, 0, "")), "op :: ()")
	alone(t, cons(made(impl.PTuple, 0, "", a, b, c)), "op :: (a, b, c)")
	alone(t, cons(made(impl.PType, 0, "", pair, tcon("t"))), "op :: ((a, b) : t)")
	alone(t, cons(cons()), "op :: op ::")
	alone(t, cons(cons(pair)), "op :: (a :: b)")
	alone(t, cons(cons(a)), "op :: (op :: a)")
	alone(t, cons(made(impl.PTuple, 0, "", cons(), cons())), "op :: :: op ::")
	alone(t, cons(made(impl.PTuple, 0, "", cons(a), cons(b))), "op :: a :: op :: b")
	alone(t, made(impl.PCon, 0, "A", cons()), "A op ::")
	alone(t, made(impl.PCon, 0, "A", pair), "A (a, b)")
	alone(t, made(impl.PCon, 0, "nil", pair), "nil (a, b)")
	alone(t, made(impl.PCon, 0, "A", cons(pair)), "A (a :: b)")
	staysAs(t, "val (a :: b) :: c = 1", "val a :: b :: c = 1", "val A a :: B = 1", "val (a : t) :: (b as c) = 1", "fun f op :: (op :: a) (a :: b) = 1",
		"val op :: : t = 1", "val x as op :: = 1")
	printsAs(t, "val op :: (a, b) = 1", "val a :: b = 1\n")
	printsAs(t, "val a :: (b :: c) = 1", "val a :: b :: c = 1\n")
}

func TestPrintTuples(t *testing.T) {
	expsStay(t, "()", "(a, b)", "(a, b, c)", "((), (a, b))", "(a; b)", "(a; b; c)", "((a; b), (c, d))", "((a, b); (c; d); ())", "(fn a => b, raise c)", "(fn a => b; raise c)")
	staysAs(t, "val () = 1", "val (a, b) = 1", "val (a, b, c) = 1", "val ((), (a, b)) = 1", "val (a as b, c : t, d :: e) = 1")
	staysAs(t, "type t = unit", "type t = a * b", "type t = a * b * c", "type t = unit * (a * b)", "type t = (a * b) * c")
}

func TestPrintParams(t *testing.T) {
	names := []string{"'a", "'b", "'c", "'d", "'e", "'f", "'g", "'h"}
	for n := 2; n <= len(names); n++ {
		params := "(" + strings.Join(names[:n], ", ") + ")"
		staysAs(t, "datatype "+params+" t = A", "type "+params+" t = int", "datatype "+params+" t = A of 'a | B and "+params+" u = C of "+params+" t")
	}
	staysAs(t, "datatype t = A", "datatype 'a t = A", "type t = int", "type 'a t = int")
	printsAs(t, "datatype ('a) t = A and ('long_1) u = B", "datatype 'a t = A and 'long_1 u = B\n")
	printsAs(t, "type ('a) t = 'a", "type 'a t = 'a\n")
	alone(t, lettered(impl.DType, 2, "t", "vvv"), "type ('a, 'a) t = 'a")
	alone(t, housed(lettered(impl.TBind, 2, "t", "vvkk")), "datatype ('a, 'a) t = K | K")
}

func TestPrintCons(t *testing.T) {
	staysAs(t, "datatype t = A | B of int | C and u = D of t | E", "exception E", "exception E of int", "exception E' of a -> b * c",
		"datatype t = A of a -> b | B of a * b | C of unit | D of 'a | E of (a, b) c")
	for _, typ := range []string{"unit", "'a", "int", "int list", "unit ref", "(a, b) t", "a * b", "a -> b", "(a -> b) -> c", "(a -> b) list", "(a * b) list", "(a -> b) * c",
		"(a -> b, c * d) t", "(unit, unit) t u", "'a list list", "(a, b -> c) t * unit -> (a * b) * c"} {
		staysAs(t, "exception E of "+typ, "datatype t = A | B of "+typ+" | C of "+typ, "type t = "+typ, "type 'a t = "+typ, "val x : "+typ+" = y : "+typ)
	}
}

func TestPrintFuns(t *testing.T) {
	staysAs(t,
		"fun f x = x",
		"fun f x y = x and g z = f and h u = v",
		"fun f 0 = a | f 1 = b | f _ = c",
		"fun f (x : t) = 1 | f (x as y) = 2 | f (A x) = 3 | f (x :: y) = 4 | f A = 5 | f () = 6 | f (x, y) = 7 | f op :: = 8 | f \"s\" = 9",
		"fun f x = a handle b => c and g x = (a handle b => c) | g y = a handle b => c",
		"fun f x = a orelse b | f y = a : t | f z = (if a then b else c) | f u = (raise a) | f v = (while a do b) | f w = fn a => b",
		"fun true' nil = 1 and f true = 2",
	)
}

func TestPrintLets(t *testing.T) {
	expsStay(t, "let val a = 1 in a end", "let val a = fn b => c in fn d => e end", "let fun f a = case a of b => c in f end",
		"let fun f a = b | f c = d and g e = f val x : t = y in (a; b) end", "let val a = let val b = c in d end in let val e = f in g end end",
		"f let val a = b in c end let val d = e in f end", "let val a = b in c end + let val d = e in f end", "let val a = b in (c; d) end",
		"let val a = b in (c, d) end", "fn a => let val b = c in fn d => e end | f => g")
	expPrints(t, "let val a = 1 in b; c; d end", "let val a = 1 in (b; c; d) end")
}
