package tests

import (
	"math/rand"
	"slices"
	"strconv"
	"strings"
	"testing"

	"loop.example/s02665/impl"
)

// placesAre wants the nodes of a program in their order, each with its kind, its Text and its place.
func placesAre(t *testing.T, src string, want ...string) {
	t.Helper()
	got := []string{}
	for _, n := range parsed(t, src) {
		got = append(got, strings.Join(strings.Fields(kindName(n.Kind)+" "+n.Text+" "+strconv.Itoa(n.At)), " "))
	}
	if !slices.Equal(got, want) {
		t.Errorf("%s:\n got %q\nwant %q", src, got, want)
	}
}

func TestParsePlacesOfTheExample(t *testing.T) {
	placesAre(t, "val x = (a) + [b]",
		"PVar x 4", "EVar a 9", "ECon :: 14", "EVar b 15", "ECon nil 14", "ETuple 14", "EApp 14", "EBin + 8", "DVal 0", "KProgram 0")
}

func TestParsePlacesOfPrograms(t *testing.T) {
	placesAre(t, "", "KProgram 0")
	placesAre(t, "  (**) ", "KProgram 7")
	placesAre(t, " val x = 1", "PVar x 5", "EInt 9", "DVal 1", "KProgram 1")
	placesAre(t, "(**)val x=1\nval y=2", "PVar x 8", "EInt 10", "DVal 4", "PVar y 16", "EInt 18", "DVal 12", "KProgram 4")
}

func TestParsePlacesOfDecs(t *testing.T) {
	placesAre(t, " fun f x = a | f y = b and g z = c",
		"PVar x 7", "EVar a 11", "FClause 5", "PVar y 17", "EVar b 21", "FClause 15", "FBind f 5",
		"PVar z 29", "EVar c 33", "FClause 27", "FBind g 27", "DFun 1", "KProgram 1")
	placesAre(t, " datatype t = A and 'a u = B of 'a | C and ('a, 'b) v = D",
		"CBind A 14", "TBind t 10", "TVar a 20", "TVar a 32", "CBind B 27", "CBind C 37", "TBind u 20",
		"TVar a 44", "TVar b 48", "CBind D 56", "TBind v 43", "DData 1", "KProgram 1")
	placesAre(t, " type t = a type 'a u = b type ('a) v = c",
		"TCon a 10", "DType t 1", "TVar a 17", "TCon b 24", "DType u 12", "TVar a 32", "TCon c 40", "DType v 26", "KProgram 1")
	placesAre(t, " exception A exception B of t", "DExn A 1", "TCon t 28", "DExn B 13", "KProgram 1")
}

// typePlacesAre has the type at place 7 of a type dec.
func typePlacesAre(t *testing.T, src string, want ...string) {
	t.Helper()
	placesAre(t, "type t="+src, append(want, "DType t 0", "KProgram 0")...)
}

func TestParsePlacesOfTypes(t *testing.T) {
	typePlacesAre(t, "'a", "TVar a 7")
	typePlacesAre(t, "unit", "TTuple 7")
	typePlacesAre(t, "(unit)", "TTuple 8")
	typePlacesAre(t, "a b c", "TCon a 7", "TCon b 7", "TCon c 7")
	typePlacesAre(t, "(a) b", "TCon a 8", "TCon b 7")
	typePlacesAre(t, "(a b) c", "TCon a 8", "TCon b 8", "TCon c 7")
	typePlacesAre(t, "(a, b) c d", "TCon a 8", "TCon b 11", "TCon c 7", "TCon d 7")
	typePlacesAre(t, "((a, b) c)", "TCon a 9", "TCon b 12", "TCon c 8")
	typePlacesAre(t, "a * b", "TCon a 7", "TCon b 11", "TTuple 7")
	typePlacesAre(t, "(a * b)", "TCon a 8", "TCon b 12", "TTuple 8")
	typePlacesAre(t, "(a) * b", "TCon a 8", "TCon b 13", "TTuple 7")
	typePlacesAre(t, "a -> b -> c", "TCon a 7", "TCon b 12", "TCon c 17", "TArrow 12", "TArrow 7")
	typePlacesAre(t, "(a -> b) -> c", "TCon a 8", "TCon b 13", "TArrow 8", "TCon c 19", "TArrow 7")
	typePlacesAre(t, "a * b -> c", "TCon a 7", "TCon b 11", "TTuple 7", "TCon c 16", "TArrow 7")
}

// patPlacesAre has the pattern at place 4 of a val; the exp behind it is a place for itself.
func patPlacesAre(t *testing.T, src string, want ...string) {
	t.Helper()
	behind := "EInt " + strconv.Itoa(len("val "+src+" = "))
	placesAre(t, "val "+src+" = 1", append(want, behind, "DVal 0", "KProgram 0")...)
}

func TestParsePlacesOfPats(t *testing.T) {
	patPlacesAre(t, "_", "PWild 4")
	patPlacesAre(t, "(_)", "PWild 5")
	patPlacesAre(t, "~1", "PInt 4")
	patPlacesAre(t, `"s"`, "PStr s 4")
	patPlacesAre(t, "A", "PCon A 4")
	patPlacesAre(t, "A x", "PVar x 6", "PCon A 4")
	patPlacesAre(t, "(A x)", "PVar x 7", "PCon A 5")
	patPlacesAre(t, "op ::", "PCon :: 4")
	patPlacesAre(t, "op :: x", "PVar x 10", "PCon :: 4")
	patPlacesAre(t, "()", "PTuple 4")
	patPlacesAre(t, "((), x)", "PTuple 5", "PVar x 9", "PTuple 4")
	patPlacesAre(t, "((x, y))", "PVar x 6", "PVar y 9", "PTuple 5")
	patPlacesAre(t, "x :: y", "PVar x 4", "PVar y 9", "PTuple 4", "PCon :: 4")
	patPlacesAre(t, "(x) :: (y)", "PVar x 5", "PVar y 12", "PTuple 4", "PCon :: 4")
	patPlacesAre(t, "(x :: y)", "PVar x 5", "PVar y 10", "PTuple 5", "PCon :: 5")
	patPlacesAre(t, "x :: y :: z", "PVar x 4", "PVar y 9", "PVar z 14", "PTuple 9", "PCon :: 9", "PTuple 4", "PCon :: 4")
	patPlacesAre(t, "[]", "PCon nil 4")
	patPlacesAre(t, "([])", "PCon nil 5")
	patPlacesAre(t, "[x, y]", "PVar x 5", "PVar y 8", "PCon nil 4", "PTuple 4", "PCon :: 4", "PTuple 4", "PCon :: 4")
	patPlacesAre(t, "x as y", "PVar y 9", "PAs x 4")
	patPlacesAre(t, "(x as y)", "PVar y 10", "PAs x 5")
	patPlacesAre(t, "x : t : u", "PVar x 4", "TCon t 8", "PType 4", "TCon u 12", "PType 4")
	patPlacesAre(t, "(x) : t", "PVar x 5", "TCon t 10", "PType 4")
	patPlacesAre(t, "(x : t)", "PVar x 5", "TCon t 9", "PType 5")
}

// expPlacesAre has the exp at place 8 of a val.
func expPlacesAre(t *testing.T, src string, want ...string) {
	t.Helper()
	placesAre(t, "val _ = "+src, slices.Concat([]string{"PWild 4"}, want, []string{"DVal 0", "KProgram 0"})...)
}

func TestParsePlacesOfOperators(t *testing.T) {
	for op, kind := range map[string]string{"orelse": "EOr", "andalso": "EAnd", ":=": "EBin :=", "<=": "EBin <=", "-": "EBin -", "*": "EBin *"} {
		behind := len("val _ = (a) " + op + " ")
		expPlacesAre(t, "(a) "+op+" (b)", "EVar a 9", "EVar b "+strconv.Itoa(behind+1), kind+" 8")
		expPlacesAre(t, "(a "+op+" b)", "EVar a 9", "EVar b "+strconv.Itoa(behind-1), kind+" 9")
	}
	expPlacesAre(t, "a + b - c", "EVar a 8", "EVar b 12", "EBin + 8", "EVar c 16", "EBin - 8")
	expPlacesAre(t, "a + b * c", "EVar a 8", "EVar b 12", "EVar c 16", "EBin * 12", "EBin + 8")
	expPlacesAre(t, "(a) : t : u", "EVar a 9", "TCon t 14", "EType 8", "TCon u 18", "EType 8")
	expPlacesAre(t, "(a) b c", "EVar a 9", "EVar b 12", "EApp 8", "EVar c 14", "EApp 8")
	expPlacesAre(t, "(a b) c", "EVar a 9", "EVar b 11", "EApp 9", "EVar c 14", "EApp 8")
	expPlacesAre(t, "! ~ (a)", "EVar a 13", "EUn ~ 10", "EUn ! 8")
	expPlacesAre(t, "(!a)", "EVar a 10", "EUn ! 9")
}

func TestParsePlacesOfLists(t *testing.T) {
	expPlacesAre(t, "a :: b", "ECon :: 8", "EVar a 8", "EVar b 13", "ETuple 8", "EApp 8")
	expPlacesAre(t, "(a) :: (b)", "ECon :: 8", "EVar a 9", "EVar b 16", "ETuple 8", "EApp 8")
	expPlacesAre(t, "(a :: b)", "ECon :: 9", "EVar a 9", "EVar b 14", "ETuple 9", "EApp 9")
	expPlacesAre(t, "a :: b :: c", "ECon :: 8", "EVar a 8", "ECon :: 13", "EVar b 13", "EVar c 18", "ETuple 13", "EApp 13", "ETuple 8", "EApp 8")
	expPlacesAre(t, "(a :: b) :: c", "ECon :: 8", "ECon :: 9", "EVar a 9", "EVar b 14", "ETuple 9", "EApp 9", "EVar c 20", "ETuple 8", "EApp 8")
	expPlacesAre(t, "f a + b :: c", "ECon :: 8", "EVar f 8", "EVar a 10", "EApp 8", "EVar b 14", "EBin + 8", "EVar c 19", "ETuple 8", "EApp 8")
	expPlacesAre(t, "[]", "ECon nil 8")
	expPlacesAre(t, "([])", "ECon nil 9")
	expPlacesAre(t, "[a, (b)]", "ECon :: 8", "EVar a 9", "ECon :: 8", "EVar b 13", "ECon nil 8", "ETuple 8", "EApp 8", "ETuple 8", "EApp 8")
	expPlacesAre(t, "[[a]]", "ECon :: 8", "ECon :: 9", "EVar a 10", "ECon nil 9", "ETuple 9", "EApp 9", "ECon nil 8", "ETuple 8", "EApp 8")
	expPlacesAre(t, "[a] :: b", "ECon :: 8", "ECon :: 8", "EVar a 9", "ECon nil 8", "ETuple 8", "EApp 8", "EVar b 15", "ETuple 8", "EApp 8")
	expPlacesAre(t, "op :: a", "ECon :: 8", "EVar a 14", "EApp 8")
	expPlacesAre(t, "(op ::)", "ECon :: 9")
}

func TestParsePlacesOfExps(t *testing.T) {
	expPlacesAre(t, "~1", "EInt 8")
	expPlacesAre(t, `"s"`, "EStr s 8")
	expPlacesAre(t, "A", "ECon A 8")
	expPlacesAre(t, "()", "ETuple 8")
	expPlacesAre(t, "(())", "ETuple 9")
	expPlacesAre(t, "((a, b))", "EVar a 10", "EVar b 13", "ETuple 9")
	expPlacesAre(t, "(a; b)", "EVar a 9", "EVar b 12", "ESeq 8")
	expPlacesAre(t, "((a; b))", "EVar a 10", "EVar b 13", "ESeq 9")
	expPlacesAre(t, "(if a then b else c)", "EVar a 12", "EVar b 19", "EVar c 26", "EIf 9")
	expPlacesAre(t, "while a do b", "EVar a 14", "EVar b 19", "EWhile 8")
	expPlacesAre(t, "case a of (b) => c | d => e", "EVar a 13", "PVar b 19", "EVar c 25", "Rule 18", "PVar d 29", "EVar e 34", "Rule 29", "ECase 8")
	expPlacesAre(t, "fn (a, b) => c", "PVar a 12", "PVar b 15", "PTuple 11", "EVar c 21", "Rule 11", "EFn 8")
	expPlacesAre(t, "fn a : t => b", "PVar a 11", "TCon t 15", "PType 11", "EVar b 20", "Rule 11", "EFn 8")
	expPlacesAre(t, "raise (a)", "EVar a 15", "ERaise 8")
	expPlacesAre(t, "(a) handle b => c", "EVar a 9", "PVar b 19", "EVar c 24", "Rule 19", "EHandle 8")
	expPlacesAre(t, "raise a handle b => c", "EVar a 14", "PVar b 23", "EVar c 28", "Rule 23", "EHandle 14", "ERaise 8")
	expPlacesAre(t, "let val a = b in c end", "PVar a 16", "EVar b 20", "DVal 12", "EVar c 25", "ELet 8")
	expPlacesAre(t, "let fun f a = b in c; d end",
		"PVar a 18", "EVar b 22", "FClause 16", "FBind f 16", "DFun 12", "EVar c 27", "EVar d 30", "ESeq 27", "ELet 8")
	expPlacesAre(t, "let val a = b in (c); d end", "PVar a 16", "EVar b 20", "DVal 12", "EVar c 26", "EVar d 30", "ESeq 25", "ELet 8")
	expPlacesAre(t, "let val a = b in (c; d) end", "PVar a 16", "EVar b 20", "DVal 12", "EVar c 26", "EVar d 29", "ESeq 25", "ELet 8")
}

// writer makes a program up: it writes the tokens of each part and answers the term, with its places,
// that the document says they become.
type writer struct {
	rnd  *rand.Rand
	src  strings.Builder
	gaps []string
}

var wideGaps = []string{" ", "  ", "\n", "\t", "\r\n", " (* note *) ", "(**)", "(* (* *) val = *)", " (*)*) "}

func (w *writer) tok(text string) int {
	w.src.WriteString(w.gaps[w.rnd.Intn(len(w.gaps))])
	place := w.src.Len()
	w.src.WriteString(text)
	return place
}

func (w *writer) any(texts ...string) string {
	return texts[w.rnd.Intn(len(texts))]
}

func placed(kind int, text string, place int, kids ...[]impl.Node) []impl.Node {
	return impl.Join(impl.Node{Kind: kind, Text: text, At: place}, kids)
}

// sized draws a number that is small as a rule.
func (w *writer) sized(least int) int {
	for w.rnd.Intn(3) == 0 {
		least++
	}
	return least
}

// several writes parts with a word between any two.
func several[T any](w *writer, n int, between string, part func() T) []T {
	out := []T{}
	for i := range n {
		if i > 0 {
			w.tok(between)
		}
		out = append(out, part())
	}
	return out
}

// part is a term together with the place where its text begins, which a parenthesis may push ahead.
type part struct {
	term  []impl.Node
	begin int
}

func terms(parts []part) [][]impl.Node {
	out := [][]impl.Node{}
	for _, p := range parts {
		out = append(out, p.term)
	}
	return out
}

func (w *writer) smallName() string {
	return w.any("x", "y", "f", "unit", "x'", "_1", "truely", "nil'")
}
func (w *writer) typeName() string { return w.any("int", "list", "t", "unit'", "true1") }
func (w *writer) newCon() string   { return w.any("A", "B'", "Nil", "True") }

func (w *writer) program(deep int) []impl.Node {
	decs, first := [][]impl.Node{}, -1
	for range w.sized(1) {
		dec := w.dec(deep)
		if first < 0 {
			first = dec[len(dec)-1].At
		}
		decs = append(decs, dec)
	}
	return placed(impl.KProgram, "", first, decs...)
}

func (w *writer) dec(deep int) []impl.Node {
	switch w.rnd.Intn(6) {
	case 0:
		place := w.tok("datatype")
		binds := several(w, w.sized(1), "and", func() []impl.Node { return w.tbind(deep) })
		return placed(impl.DData, "", place, binds...)
	case 1:
		place := w.tok("type")
		params, _ := w.params()
		text := w.typeName()
		w.tok(text)
		w.tok("=")
		kids := append(params, w.typ(deep, 0).term)
		return impl.Join(impl.Node{Kind: impl.DType, Num: int64(len(params)), Text: text, At: place}, kids)
	case 2:
		place := w.tok("exception")
		dec := w.conOf(impl.DExn, deep)
		dec[len(dec)-1].At = place
		return dec
	}
	return w.vdec(deep)
}

func (w *writer) vdec(deep int) []impl.Node {
	if w.rnd.Intn(2) == 0 {
		place := w.tok("val")
		pat := w.pat(deep, 0)
		w.tok("=")
		return placed(impl.DVal, "", place, pat.term, w.exp(deep, 0, false).term)
	}
	place := w.tok("fun")
	binds := several(w, w.sized(1), "and", func() []impl.Node { return w.fbind(deep) })
	return placed(impl.DFun, "", place, binds...)
}

func (w *writer) params() ([][]impl.Node, int) {
	param := func() []impl.Node {
		text := w.any("a", "b", "true", "val", "a_1")
		return placed(impl.TVar, text, w.tok("'"+text))
	}
	switch w.rnd.Intn(3) {
	case 0:
		return nil, -1
	case 1:
		only := param()
		return [][]impl.Node{only}, only[0].At
	}
	place := w.tok("(")
	params := several(w, w.sized(1), ",", param)
	w.tok(")")
	return params, place
}

func (w *writer) tbind(deep int) []impl.Node {
	params, place := w.params()
	text := w.typeName()
	if called := w.tok(text); place < 0 {
		place = called
	}
	w.tok("=")
	cons := several(w, w.sized(1), "|", func() []impl.Node { return w.conOf(impl.CBind, deep) })
	return impl.Join(impl.Node{Kind: impl.TBind, Num: int64(len(params)), Text: text, At: place}, slices.Concat(params, cons))
}

func (w *writer) conOf(kind int, deep int) []impl.Node {
	text := w.newCon()
	place := w.tok(text)
	if w.rnd.Intn(2) == 0 {
		return placed(kind, text, place)
	}
	w.tok("of")
	return placed(kind, text, place, w.typ(deep, 0).term)
}

func (w *writer) fbind(deep int) []impl.Node {
	text, apats, n := w.smallName(), w.sized(1), w.sized(1)
	i := 0
	clauses := several(w, n, "|", func() []impl.Node {
		i++
		place := w.tok(text)
		pats := [][]impl.Node{}
		for range apats {
			pats = append(pats, w.pat(deep-1, 3).term)
		}
		w.tok("=")
		return placed(impl.FClause, "", place, append(pats, w.exp(deep-1, 0, i < n).term)...)
	})
	return placed(impl.FBind, text, clauses[0][len(clauses[0])-1].At, clauses...)
}

// inParens surrounds a part that is looser than its place asks for.
func (w *writer) inParens(inner func() part) part {
	place := w.tok("(")
	it := inner()
	w.tok(")")
	return part{it.term, place}
}

// typ writes a type that fits a level: 0 type, 1 prod, 2 post.
func (w *writer) typ(deep int, level int) part {
	pick := w.rnd.Intn(8)
	if deep <= 0 {
		pick = 7
	}
	switch {
	case pick == 0 && level > 0 || pick == 1 && level > 1 || pick == 2:
		return w.inParens(func() part { return w.typ(deep-1, 0) })
	case pick == 0:
		left := w.typ(deep-1, 1)
		w.tok("->")
		return part{placed(impl.TArrow, "", left.begin, left.term, w.typ(deep-1, 0).term), left.begin}
	case pick == 1:
		posts := several(w, w.sized(2), "*", func() part { return w.typ(deep-1, 2) })
		return part{placed(impl.TTuple, "", posts[0].begin, terms(posts)...), posts[0].begin}
	case pick == 3:
		inner := w.typ(deep-1, 2)
		text := w.typeName()
		w.tok(text)
		return part{placed(impl.TCon, text, inner.begin, inner.term), inner.begin}
	case pick == 4:
		place := w.tok("(")
		types := several(w, w.sized(2), ",", func() part { return w.typ(deep-1, 0) })
		w.tok(")")
		text := w.typeName()
		w.tok(text)
		return part{placed(impl.TCon, text, place, terms(types)...), place}
	case pick == 5:
		place := w.tok("unit")
		return part{placed(impl.TTuple, "", place), place}
	case pick == 6:
		place := w.tok("'a1")
		return part{placed(impl.TVar, "a1", place), place}
	}
	text := w.typeName()
	place := w.tok(text)
	return part{placed(impl.TCon, text, place), place}
}

// con writes a constructor and answers its Text.
func (w *writer) con() (string, int) {
	text := w.any("true", "false", "nil", "::", w.newCon())
	if text == "::" {
		place := w.tok("op")
		w.tok("::")
		return text, place
	}
	return text, w.tok(text)
}

// leaf writes what is one node in patterns and expressions alike.
func (w *writer) leaf(nameKind, intKind, strKind, conKind int) part {
	it := impl.Node{}
	switch w.rnd.Intn(5) {
	case 0:
		it.Kind, it.Num = intKind, w.rnd.Int63n(100)-50
		it.At = w.tok(impl.Spell(num(it.Num)))
	case 1:
		it.Kind, it.Text = strKind, w.any("", "s", "a\n\"\\", "\x00\xff", "(* no note *)")
		it.At = w.tok(impl.Spell(str(it.Text)))
	case 2:
		it.Kind = conKind
		it.Text, it.At = w.con()
	default:
		it.Kind, it.Text = nameKind, w.smallName()
		it.At = w.tok(it.Text)
	}
	return part{[]impl.Node{it}, it.At}
}

func consPat(place int, head []impl.Node, tail []impl.Node) []impl.Node {
	return placed(impl.PCon, "::", place, placed(impl.PTuple, "", place, head, tail))
}

func consExp(place int, head []impl.Node, tail []impl.Node) []impl.Node {
	return placed(impl.EApp, "", place, placed(impl.ECon, "::", place), placed(impl.ETuple, "", place, head, tail))
}

// bracketed writes a list and answers the conses that it stands for, from the last one on.
func (w *writer) bracketed(nilKind int, element func() part, cons func(int, []impl.Node, []impl.Node) []impl.Node) part {
	place := w.tok("[")
	elements := several(w, w.sized(0), ",", element)
	w.tok("]")
	out := placed(nilKind, "nil", place)
	for _, e := range slices.Backward(elements) {
		out = cons(place, e.term, out)
	}
	return part{out, place}
}

// pat writes a pattern that fits a level: 0 pat, 1 cons, 2 papp, 3 apat.
func (w *writer) pat(deep int, level int) part {
	pick := w.rnd.Intn(10)
	if deep <= 0 {
		pick = 9
	}
	switch {
	case pick <= 1 && level > 0 || pick == 2 && level > 1 || pick == 3 && level > 2 || pick == 4:
		return w.inParens(func() part { return w.pat(deep-1, 0) })
	case pick == 0:
		text := w.smallName()
		place := w.tok(text)
		w.tok("as")
		return part{placed(impl.PAs, text, place, w.pat(deep-1, 0).term), place}
	case pick == 1:
		left := w.pat(deep-1, 1)
		for range w.sized(1) {
			w.tok(":")
			left.term = placed(impl.PType, "", left.begin, left.term, w.typ(deep-1, 0).term)
		}
		return left
	case pick == 2:
		left := w.pat(deep-1, 2)
		w.tok("::")
		return part{consPat(left.begin, left.term, w.pat(deep-1, 1).term), left.begin}
	case pick == 3:
		text, place := w.con()
		return part{placed(impl.PCon, text, place, w.pat(deep-1, 3).term), place}
	case pick == 5:
		place := w.tok("(")
		pats := several(w, w.notOne(), ",", func() part { return w.pat(deep-1, 0) })
		w.tok(")")
		return part{placed(impl.PTuple, "", place, terms(pats)...), place}
	case pick == 6:
		return w.bracketed(impl.PCon, func() part { return w.pat(deep-1, 0) }, consPat)
	case pick == 7:
		place := w.tok("_")
		return part{placed(impl.PWild, "", place), place}
	}
	return w.leaf(impl.PVar, impl.PInt, impl.PStr, impl.PCon)
}

// notOne is how many parts a tuple has.
func (w *writer) notOne() int {
	n := w.sized(1)
	if n == 1 {
		return 0
	}
	return n
}

// The levels of exps, from exp itself to atom.
const (
	atExp = iota
	atOr
	atAnd
	atTyped
	atSet
	atCmp
	atList
	atSum
	atMul
	atApp
	atUn
	atAtom
)

// exp writes an exp that fits a level; one that is shut ends with no match that is open.
func (w *writer) exp(deep int, level int, shut bool) part {
	if deep <= 0 {
		return w.leaf(impl.EVar, impl.EInt, impl.EStr, impl.ECon)
	}
	pick := w.rnd.Intn(atAtom + 1)
	if pick < level || shut && pick == atExp && w.rnd.Intn(2) == 0 {
		return w.inParens(func() part { return w.exp(deep-1, atExp, false) })
	}
	switch pick {
	case atExp:
		return w.expOfWords(deep-1, shut)
	case atTyped:
		left := w.exp(deep-1, atTyped, false)
		w.tok(":")
		return part{placed(impl.EType, "", left.begin, left.term, w.typ(deep-1, 0).term), left.begin}
	case atList:
		left := w.exp(deep-1, atSum, false)
		w.tok("::")
		return part{consExp(left.begin, left.term, w.exp(deep-1, atList, false).term), left.begin}
	case atApp:
		left := w.exp(deep-1, atApp, false)
		return part{placed(impl.EApp, "", left.begin, left.term, w.exp(deep-1, atUn, false).term), left.begin}
	case atUn:
		text := w.any("~", "!")
		place := w.tok(text)
		return part{placed(impl.EUn, text, place, w.exp(deep-1, atUn, false).term), place}
	case atAtom:
		return w.atom(deep - 1)
	}
	return w.binary(deep-1, pick)
}

func (w *writer) binary(deep int, level int) part {
	kind, op := impl.EBin, ""
	switch level {
	case atOr:
		kind, op = impl.EOr, "orelse"
	case atAnd:
		kind, op = impl.EAnd, "andalso"
	case atSet:
		op = ":="
	case atCmp:
		op = w.any("=", "<>", "<", "<=", ">", ">=")
	case atSum:
		op = w.any("+", "-", "^")
	case atMul:
		op = w.any("*", "/", "%")
	}
	left := w.exp(deep, level, false)
	w.tok(op)
	text := op
	if kind != impl.EBin {
		text = ""
	}
	return part{placed(kind, text, left.begin, left.term, w.exp(deep, level+1, false).term), left.begin}
}

func (w *writer) expOfWords(deep int, shut bool) part {
	pick := w.rnd.Intn(6)
	if shut {
		pick = w.rnd.Intn(3)
	}
	switch pick {
	case 0:
		place := w.tok("if")
		first := w.exp(deep, atExp, false)
		w.tok("then")
		second := w.exp(deep, atExp, false)
		w.tok("else")
		return part{placed(impl.EIf, "", place, first.term, second.term, w.exp(deep, atExp, shut).term), place}
	case 1:
		place := w.tok("while")
		first := w.exp(deep, atExp, false)
		w.tok("do")
		return part{placed(impl.EWhile, "", place, first.term, w.exp(deep, atExp, shut).term), place}
	case 2:
		place := w.tok("raise")
		return part{placed(impl.ERaise, "", place, w.exp(deep, atExp, shut).term), place}
	case 3:
		place := w.tok("case")
		first := w.exp(deep, atExp, false)
		w.tok("of")
		return part{placed(impl.ECase, "", place, append([][]impl.Node{first.term}, w.match(deep)...)...), place}
	case 4:
		place := w.tok("fn")
		return part{placed(impl.EFn, "", place, w.match(deep)...), place}
	}
	first := w.exp(deep, atOr, false)
	w.tok("handle")
	return part{placed(impl.EHandle, "", first.begin, append([][]impl.Node{first.term}, w.match(deep)...)...), first.begin}
}

func (w *writer) match(deep int) [][]impl.Node {
	n, i := w.sized(1), 0
	return several(w, n, "|", func() []impl.Node {
		i++
		pat := w.pat(deep, 0)
		w.tok("=>")
		return placed(impl.Rule, "", pat.begin, pat.term, w.exp(deep, atExp, i < n).term)
	})
}

func (w *writer) atom(deep int) part {
	exp := func() part { return w.exp(deep, atExp, false) }
	switch w.rnd.Intn(5) {
	case 0:
		place := w.tok("(")
		exps := several(w, w.notOne(), ",", exp)
		w.tok(")")
		return part{placed(impl.ETuple, "", place, terms(exps)...), place}
	case 1:
		place := w.tok("(")
		exps := several(w, w.sized(2), ";", exp)
		w.tok(")")
		return part{placed(impl.ESeq, "", place, terms(exps)...), place}
	case 2:
		return w.bracketed(impl.ECon, exp, consExp)
	case 3:
		return w.let(deep)
	}
	return w.leaf(impl.EVar, impl.EInt, impl.EStr, impl.ECon)
}

func (w *writer) let(deep int) part {
	place := w.tok("let")
	kids := [][]impl.Node{}
	for range w.sized(1) {
		kids = append(kids, w.vdec(deep))
	}
	w.tok("in")
	exps := several(w, w.sized(1), ";", func() part { return w.exp(deep, atExp, false) })
	w.tok("end")
	body := exps[0].term
	if len(exps) > 1 {
		body = placed(impl.ESeq, "", exps[0].begin, terms(exps)...)
	}
	return part{placed(impl.ELet, "", place, append(kids, body)...), place}
}

// madeUp is a program of the writer's, as a source and as the term that is wanted.
func madeUp(seed int64, gaps []string) (string, []impl.Node) {
	w := &writer{rnd: rand.New(rand.NewSource(seed)), gaps: gaps}
	want := w.program(2 + int(seed%8))
	w.tok("")
	return w.src.String(), want
}

const madeUpPrograms = 4000

func TestParseMadeUpPrograms(t *testing.T) {
	seen := map[int]int{}
	for seed := range int64(madeUpPrograms) {
		src, want := madeUp(seed, wideGaps)
		if len(src) > impl.MaxSource || impl.SortOf(want) != impl.SortProgram {
			continue
		}
		got := parsed(t, src)
		if !slices.Equal(got, want) {
			t.Fatalf("%s:\n got %v\nwant %v", src, got, want)
		}
		for _, n := range got {
			seen[n.Kind]++
		}
	}
	for kind := impl.KProgram; kind <= impl.EOr; kind++ {
		if seen[kind] < 100 {
			t.Errorf("%s was made up %d times", kindName(kind), seen[kind])
		}
	}
}

// The same tokens with anything else between them are the same term, but for At.
func TestParseOtherSpaces(t *testing.T) {
	for seed := range int64(madeUpPrograms / 4) {
		src, want := madeUp(seed, []string{" "})
		if len(src) > impl.MaxSource || impl.SortOf(want) != impl.SortProgram {
			continue
		}
		toks := tokensOf(t, src)
		for _, gap := range append(wideGaps, "(* \xff\x00 # 1x *)") {
			other := gap
			for _, tok := range toks {
				other += impl.Spell(tok) + gap
			}
			if len(other) > impl.MaxSource {
				continue
			}
			if got := parsed(t, other); !impl.Same(got, want) {
				t.Fatalf("%q:\n got %v\nwant %v", other, got, want)
			}
		}
	}
}

// Where nothing needs to stand between two tokens, nothing does.
func TestParseWithoutSpaces(t *testing.T) {
	for _, c := range [][2]string{
		{"val x=(a)+[b]", "val x = ( a ) + [ b ]"},
		{"val(x,y)=1", "val ( x , y ) = 1"},
		{"val x:'a list=[]", "val x : 'a list = [ ]"},
		{"fun f(x)=x|f[y]=y", "fun f ( x ) = x | f [ y ] = y"},
		{"val x=a::b:: ~1::[]", "val x = a :: b :: ~1 :: [ ]"},
		{`val x="a"^"b""c"`, `val x = "a" ^ "b" "c"`},
		{"val x=!a:= ! ~b", "val x = ! a := ! ~ b"},
		{"datatype('a,'b)t=A of('a->'b)list|B", "datatype ( 'a , 'b ) t = A of ( 'a -> 'b ) list | B"},
		{"val x=1(**)2", "val x = 1 2"},
		{"val x(**)=(**)a(**)b", "val x = a b"},
	} {
		got, code, place := impl.Parse(c[0])
		if code != impl.ParseOk || !impl.Same(got, parsed(t, c[1])) {
			t.Errorf("%s: code %d at %d, %v", c[0], code, place, got)
		}
	}
}

// beginsWith tells with what the text of a node may begin, where that is always the same.
func beginsWith(n impl.Node, tok impl.Token) bool {
	switch n.Kind {
	case impl.DVal, impl.DFun, impl.DData, impl.DType, impl.DExn, impl.EFn, impl.EIf, impl.ECase, impl.ELet, impl.ERaise, impl.EWhile:
		words := map[int]string{
			impl.DVal: "val", impl.DFun: "fun", impl.DData: "datatype", impl.DType: "type", impl.DExn: "exception", impl.EFn: "fn",
			impl.EIf: "if", impl.ECase: "case", impl.ELet: "let", impl.ERaise: "raise", impl.EWhile: "while",
		}
		return tok.Kind == impl.TokWord && tok.Text == words[n.Kind]
	case impl.EUn:
		return tok.Kind == impl.TokWord && tok.Text == n.Text
	case impl.PWild:
		return tok.Kind == impl.TokWord && tok.Text == "_"
	case impl.FBind, impl.PVar, impl.PAs, impl.EVar:
		return tok.Kind == impl.TokName && tok.Text == n.Text
	case impl.TVar:
		return tok.Kind == impl.TokVar && tok.Text == n.Text
	case impl.CBind:
		return tok.Kind == impl.TokCon && tok.Text == n.Text
	case impl.PInt, impl.EInt:
		return tok.Kind == impl.TokInt && tok.Num == n.Num
	case impl.PStr, impl.EStr:
		return tok.Kind == impl.TokStr && tok.Text == n.Text
	}
	return true
}

func TestParsePlacesAreTokens(t *testing.T) {
	for seed := range int64(madeUpPrograms / 4) {
		src, want := madeUp(seed, wideGaps)
		if len(src) > impl.MaxSource || impl.SortOf(want) != impl.SortProgram {
			continue
		}
		at := map[int]impl.Token{}
		for _, tok := range tokensOf(t, src) {
			at[tok.At] = tok
		}
		for _, n := range parsed(t, src) {
			if tok, ok := at[n.At]; !ok || !beginsWith(n, tok) {
				t.Fatalf("%s: %v has the place of %v", src, n, tok)
			}
		}
	}
}
