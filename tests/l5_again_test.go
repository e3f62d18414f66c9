package tests

import (
	"fmt"
	"math"
	"math/rand"
	"slices"
	"strconv"
	"strings"
	"testing"

	"loop.example/s02665/impl"
)

// form is one line of the document's chapter: a number stands for the next kid and the level that is
// asked of it, Text for the node's own, all else for itself.
type form struct {
	level int
	words string
}

const noLevel = 99 // of what never stands in parentheses

var fixedForms = map[int]form{
	impl.DVal:   {noLevel, "val 0 = 0"},
	impl.TArrow: {0, "1 -> 0"},
	impl.TVar:   {2, "Text"},
	impl.PWild:  {4, "_"},
	impl.PVar:   {4, "Text"},
	impl.PInt:   {4, "Text"},
	impl.PStr:   {4, "Text"},
	impl.PAs:    {0, "Text as 0"},
	impl.PType:  {1, "1 : 0"},
	impl.EVar:   {12, "Text"},
	impl.EInt:   {12, "Text"},
	impl.EStr:   {12, "Text"},
	impl.ECon:   {12, "Text"},
	impl.EIf:    {0, "if 0 then 0 else 0"},
	impl.EWhile: {0, "while 0 do 0"},
	impl.ERaise: {0, "raise 0"},
	impl.EOr:    {2, "2 orelse 3"},
	impl.EAnd:   {3, "3 andalso 4"},
	impl.EType:  {4, "4 : 0"},
	impl.EApp:   {10, "10 11"},
	impl.EUn:    {11, "Text 11"},
}

var binaryForms = map[string]form{
	":=": {5, "5 := 6"}, "=": {6, "6 = 7"}, "<>": {6, "6 <> 7"}, "<": {6, "6 < 7"}, "<=": {6, "6 <= 7"}, ">": {6, "6 > 7"}, ">=": {6, "6 >= 7"},
	"+": {8, "8 + 9"}, "-": {8, "8 - 9"}, "^": {8, "8 ^ 9"}, "*": {9, "9 * 10"}, "/": {9, "9 / 10"}, "%": {9, "9 % 10"},
}

func joined(n int, one string, between string) string {
	return strings.Join(slices.Repeat([]string{one}, n), between)
}

// matchForm has level 2 for all rules or clauses but the last.
func matchForm(n int, front string) string {
	return strings.Repeat(front+"2 | ", n-1) + front + "0"
}

func headForm(params int) string {
	switch params {
	case 0:
		return "Text"
	case 1:
		return "2 Text"
	}
	return "( " + joined(params, "0", " , ") + " ) Text"
}

// toldForm is the form of a node that is no infix "::", where so many kids and such a level are asked for.
func toldForm(root impl.Node, asked int) form {
	n := root.Kids
	if it, ok := fixedForms[root.Kind]; ok {
		return it
	}
	of := ""
	if n == 1 {
		of = " of 0"
	}
	switch root.Kind {
	case impl.KProgram:
		return form{noLevel, strings.Repeat("0 \n ", n)}
	case impl.DFun:
		return form{noLevel, "fun " + joined(n, "0", " and ")}
	case impl.FBind:
		return form{noLevel, matchForm(n, "Text ")}
	case impl.FClause:
		return form{noLevel, strings.Repeat("4 ", n-1) + "= " + strconv.Itoa(asked)}
	case impl.DData:
		return form{noLevel, "datatype " + joined(n, "0", " and ")}
	case impl.TBind:
		return form{noLevel, headForm(int(root.Num)) + " = " + joined(n-int(root.Num), "0", " | ")}
	case impl.CBind:
		return form{noLevel, "Text" + of}
	case impl.DType:
		return form{noLevel, "type " + headForm(int(root.Num)) + " = 0"}
	case impl.DExn:
		return form{noLevel, "exception Text" + of}
	case impl.Rule:
		return form{noLevel, "0 => " + strconv.Itoa(asked)}
	}
	return toldFormOfAny(root, n)
}

// toldFormOfAny is for types, patterns and exps of any number of kids.
func toldFormOfAny(root impl.Node, n int) form {
	tuple := "( " + joined(n, "0", " , ") + " )"
	switch {
	case root.Kind == impl.TCon:
		return form{2, headForm(n)}
	case root.Kind == impl.TTuple && n == 0:
		return form{2, "unit"}
	case root.Kind == impl.TTuple:
		return form{1, joined(n, "2", " * ")}
	case root.Kind == impl.PCon && n == 0:
		return form{4, "Text"}
	case root.Kind == impl.PCon:
		return form{3, "Text 4"}
	case root.Kind == impl.PTuple:
		return form{4, tuple}
	case root.Kind == impl.ETuple:
		return form{12, tuple}
	case root.Kind == impl.ESeq:
		return form{12, "( " + joined(n, "0", " ; ") + " )"}
	case root.Kind == impl.ELet:
		return form{12, "let " + strings.Repeat("0 ", n-1) + "in 0 end"}
	case root.Kind == impl.EFn:
		return form{0, "fn " + matchForm(n, "")}
	case root.Kind == impl.ECase:
		return form{0, "case 0 of " + matchForm(n-1, "")}
	case root.Kind == impl.EHandle:
		return form{1, "2 handle " + matchForm(n-1, "")}
	case root.Kind == impl.EBin:
		return binaryForms[root.Text]
	}
	panic(root)
}

func ownWords(root impl.Node) []string {
	switch {
	case root.Kind == impl.TVar:
		return []string{"'" + root.Text}
	case isOneOf(root.Kind, impl.PStr, impl.EStr):
		return []string{quoted(root.Text)}
	case isOneOf(root.Kind, impl.PInt, impl.EInt):
		return []string{strings.ReplaceAll(fmt.Sprint(root.Num), "-", "~")}
	case root.Text == "::":
		return []string{"op", "::"}
	}
	return []string{root.Text}
}

// toldWords are the words of a term where a level is asked for.
func toldWords(it []impl.Node, asked int) []string {
	root, kids := it[len(it)-1], impl.Kids(it)
	told := toldForm(root, asked)
	if pair, ok := consed(root, kids); ok && root.Kind == impl.PCon {
		told, kids = form{2, "3 :: 2"}, pair
	} else if ok {
		told, kids = form{7, "8 :: 7"}, pair
	}
	out := []string{}
	for _, word := range strings.FieldsFunc(told.words, func(r rune) bool { return r == ' ' }) {
		level, err := strconv.Atoi(word)
		switch {
		case word == "Text":
			out = append(out, ownWords(root)...)
		case err == nil:
			out = append(out, toldWords(kids[0], level)...)
			kids = kids[1:]
		default:
			out = append(out, word)
		}
	}
	if told.level < asked {
		out = slices.Concat([]string{"("}, out, []string{")"})
	}
	return out
}

// consed answers the two sides of an infix "::".
func consed(root impl.Node, kids [][]impl.Node) ([][]impl.Node, bool) {
	if root.Kind == impl.EApp && impl.Same(kids[0], []impl.Node{{Kind: impl.ECon, Text: "::"}}) || root.Kind == impl.PCon && root.Text == "::" && len(kids) == 1 {
		pair := kids[len(kids)-1]
		top := pair[len(pair)-1]
		return impl.Kids(pair), top.Kids == 2 && isOneOf(top.Kind, impl.ETuple, impl.PTuple)
	}
	return nil, false
}

// laid puts words side by side with the spaces that the document has between them.
func laid(words []string) string {
	out := ""
	for i, w := range words {
		if i > 0 && !isOneOf(words[i-1], "(", "[", "!", "\n") && !isOneOf(w, ")", "]", ",", ";", "\n") {
			out += " "
		}
		out += w
	}
	return out
}

func toldText(it []impl.Node) string {
	return laid(toldWords(it, 0))
}

// drawer makes terms up that are of a sort, node by node.
type drawer struct {
	rnd *rand.Rand
}

func (d drawer) one(texts string) string {
	all := strings.Fields(texts)
	return all[d.rnd.Intn(len(all))]
}

func (d drawer) node(kind int, num int64, text string, kids ...[]impl.Node) []impl.Node {
	return impl.Join(impl.Node{Kind: kind, Num: num, Text: text, At: d.rnd.Intn(1000)}, kids)
}

func (d drawer) some(least int, one func() []impl.Node) [][]impl.Node {
	out := [][]impl.Node{}
	for d.rnd.Intn(3) == 0 {
		least++
	}
	for range least {
		out = append(out, one())
	}
	return out
}

// tuple has no kid, or two and more.
func (d drawer) tuple(kind int, one func() []impl.Node) []impl.Node {
	if d.rnd.Intn(4) == 0 {
		return d.node(kind, 0, "")
	}
	return d.node(kind, 0, "", d.some(2, one)...)
}

func (d drawer) number() int64 {
	switch d.rnd.Intn(6) {
	case 0:
		return math.MinInt64
	case 1:
		return math.MaxInt64
	}
	return d.rnd.Int63n(20) - 10
}

func (d drawer) str() string {
	out := []byte{}
	for d.rnd.Intn(4) > 0 {
		out = append(out, byte(d.rnd.Intn(256)))
	}
	return string(out)
}

func (d drawer) name() string     { return d.one("x y f unit x' _1 truely nil' op_") }
func (d drawer) con() string      { return d.one("A B' Nil true false nil :: :: ::") }
func (d drawer) typeName() string { return d.one("int list t unit' true1 __") }

func (d drawer) program(deep int) []impl.Node {
	return d.node(impl.KProgram, 0, "", d.some(0, func() []impl.Node { return d.dec(deep) })...)
}

func (d drawer) dec(deep int) []impl.Node {
	typ := func() []impl.Node { return d.typ(deep) }
	newCon := func(kind int) []impl.Node {
		if d.rnd.Intn(2) == 0 {
			return d.node(kind, 0, d.one("A B' Nil True"))
		}
		return d.node(kind, 0, d.one("A B' Nil True"), typ())
	}
	params := d.params()
	switch d.rnd.Intn(6) {
	case 0:
		binds := d.some(1, func() []impl.Node {
			params := d.params()
			cons := d.some(1, func() []impl.Node { return newCon(impl.CBind) })
			return d.node(impl.TBind, int64(len(params)), d.typeName(), slices.Concat(params, cons)...)
		})
		return d.node(impl.DData, 0, "", binds...)
	case 1:
		return d.node(impl.DType, int64(len(params)), d.typeName(), append(params, typ())...)
	case 2:
		return newCon(impl.DExn)
	}
	return d.localDec(deep)
}

func (d drawer) params() [][]impl.Node {
	return d.some(d.rnd.Intn(3), func() []impl.Node { return d.node(impl.TVar, 0, d.one("a b true val a_1")) })
}

func (d drawer) localDec(deep int) []impl.Node {
	if d.rnd.Intn(2) == 0 {
		return d.node(impl.DVal, 0, "", d.pat(deep), d.exp(deep))
	}
	return d.node(impl.DFun, 0, "", d.some(1, func() []impl.Node {
		pats := 1 + d.rnd.Intn(3)
		return d.node(impl.FBind, d.number(), d.name(), d.some(1, func() []impl.Node {
			kids := [][]impl.Node{}
			for range pats {
				kids = append(kids, d.pat(deep-1))
			}
			return d.node(impl.FClause, 0, "", append(kids, d.exp(deep-1))...)
		})...)
	})...)
}

func (d drawer) typ(deep int) []impl.Node {
	typ := func() []impl.Node { return d.typ(deep - 1) }
	pick := d.rnd.Intn(6)
	if deep <= 0 {
		pick %= 3
	}
	switch pick {
	case 0:
		return d.node(impl.TVar, 0, d.one("a b true val a_1"))
	case 1:
		return d.node(impl.TTuple, 0, "")
	case 2:
		return d.node(impl.TCon, 0, d.typeName())
	case 3:
		return d.node(impl.TArrow, 0, "", typ(), typ())
	case 4:
		return d.tuple(impl.TTuple, typ)
	}
	return d.node(impl.TCon, 0, d.typeName(), d.some(0, typ)...)
}

func (d drawer) pat(deep int) []impl.Node {
	pat := func() []impl.Node { return d.pat(deep - 1) }
	pick := d.rnd.Intn(10)
	if deep <= 0 {
		pick %= 5
	}
	switch pick {
	case 0:
		return d.node(impl.PWild, 0, "")
	case 1:
		return d.node(impl.PVar, d.number(), d.name())
	case 2:
		return d.node(impl.PInt, d.number(), "")
	case 3:
		return d.node(impl.PStr, 0, d.str())
	case 4:
		return d.node(impl.PCon, 0, d.con())
	case 5:
		return d.tuple(impl.PTuple, pat)
	case 6:
		return d.node(impl.PAs, d.number(), d.name(), pat())
	case 7:
		return d.node(impl.PType, 0, "", pat(), d.typ(deep-1))
	case 8:
		return d.node(impl.PCon, 0, d.con(), d.tuple(impl.PTuple, pat))
	}
	return d.node(impl.PCon, 0, d.con(), pat())
}

func (d drawer) exp(deep int) []impl.Node {
	exp := func() []impl.Node { return d.exp(deep - 1) }
	if deep <= 0 {
		return d.leafExp()
	}
	switch d.rnd.Intn(18) {
	case 0:
		return d.leafExp()
	case 1:
		return d.tuple(impl.ETuple, exp)
	case 2:
		return d.node(impl.EFn, 0, "", d.rules(deep)...)
	case 3:
		return d.node(impl.EApp, 0, "", exp(), exp())
	case 4:
		return d.node(impl.EApp, 0, "", d.node(impl.ECon, 0, d.con()), d.tuple(impl.ETuple, exp))
	case 5, 6:
		return d.node(impl.EBin, 0, d.one(":= = <> < <= > >= ^ + - * / %"), exp(), exp())
	case 7:
		return d.node(impl.EUn, 0, d.one("~ !"), exp())
	case 8:
		return d.node(impl.EIf, 0, "", exp(), exp(), exp())
	case 9:
		return d.node(impl.ECase, 0, "", append([][]impl.Node{exp()}, d.rules(deep)...)...)
	case 10:
		decs := d.some(1, func() []impl.Node { return d.localDec(deep - 1) })
		return d.node(impl.ELet, 0, "", append(decs, exp())...)
	case 11:
		return d.node(impl.ESeq, 0, "", d.some(2, exp)...)
	case 12:
		return d.node(impl.ERaise, 0, "", exp())
	case 13:
		return d.node(impl.EHandle, 0, "", append([][]impl.Node{exp()}, d.rules(deep)...)...)
	case 14:
		return d.node(impl.EWhile, 0, "", exp(), exp())
	case 15:
		return d.node(impl.EType, 0, "", exp(), d.typ(deep-1))
	case 16:
		return d.node(impl.EAnd, 0, "", exp(), exp())
	}
	return d.node(impl.EOr, 0, "", exp(), exp())
}

func (d drawer) leafExp() []impl.Node {
	switch d.rnd.Intn(5) {
	case 0:
		return d.node(impl.EInt, d.number(), "")
	case 1:
		return d.node(impl.EStr, 0, d.str())
	case 2:
		return d.node(impl.ECon, 0, d.con())
	case 3:
		return d.node(impl.ETuple, 0, "")
	}
	return d.node(impl.EVar, d.number(), d.name())
}

func (d drawer) rules(deep int) [][]impl.Node {
	return d.some(1, func() []impl.Node { return d.node(impl.Rule, 0, "", d.pat(deep-1), d.exp(deep-1)) })
}

// withoutNums is a term as it is read back: the numbers of names are not printed.
func withoutNums(it []impl.Node) []impl.Node {
	out := slices.Clone(it)
	for i := range out {
		if isOneOf(out[i].Kind, impl.FBind, impl.PVar, impl.PAs, impl.EVar) {
			out[i].Num = 0
		}
	}
	return out
}

// isReadBack wants what is printed of a program to be read as the program.
func isReadBack(t *testing.T, program []impl.Node) {
	t.Helper()
	text := impl.Print(program)
	got, code, place := impl.Parse(text)
	if len(text) > impl.MaxSource {
		if code != impl.LexLong {
			t.Fatalf("%d bytes: code %d", len(text), code)
		}
		return
	}
	if code != impl.ParseOk || !impl.Same(got, withoutNums(program)) {
		t.Fatalf("code %d at %d, %s\nis printed %s", code, place, shown(program), text)
	}
}

// inProgram is a type, a pattern or an exp where it stands in a small program.
func inProgram(it []impl.Node) ([]impl.Node, string, string) {
	x, one := pvar("x"), made(impl.EInt, 1, "")
	switch impl.SortOf(it) {
	case impl.SortType:
		return made(impl.KProgram, 0, "", made(impl.DType, 0, "t", it)), "type t = ", "\n"
	case impl.SortPat:
		return made(impl.KProgram, 0, "", made(impl.DVal, 0, "", it, one)), "val ", " = 1\n"
	case impl.SortExp:
		return made(impl.KProgram, 0, "", made(impl.DVal, 0, "", x, it)), "val x = ", "\n"
	case impl.SortDec:
		return made(impl.KProgram, 0, "", it), "", "\n"
	}
	return it, "", ""
}

// checkPrinted wants a term to be printed as it is told, to be read back, and to stay as it was.
func checkPrinted(t *testing.T, it []impl.Node) {
	t.Helper()
	before := slices.Clone(it)
	text := impl.Print(it)
	if want := toldText(it); text != want {
		t.Fatalf("%s:\n got %q\nwant %q", shown(it), text, want)
	}
	if !slices.Equal(it, before) {
		t.Fatalf("printing %s changed it", text)
	}
	program, front, behind := inProgram(it)
	if impl.SortOf(program) != impl.SortProgram {
		return
	}
	if got := impl.Print(program); got != front+text+behind {
		t.Fatalf("%q is printed %q in a program", text, got)
	}
	isReadBack(t, program)
}

func TestPrintDrawnTerms(t *testing.T) {
	seen := map[int]int{}
	for seed := range int64(3000) {
		d := drawer{rand.New(rand.NewSource(seed))}
		deep := 1 + int(seed%5)
		for _, it := range [][]impl.Node{d.program(deep), d.dec(deep), d.typ(deep), d.pat(deep), d.exp(deep)} {
			if impl.SortOf(it) == impl.SortNone {
				if len(it) <= impl.MaxNodes && !slices.ContainsFunc(it, func(n impl.Node) bool { return isOneOf(n.Kind, impl.TBind, impl.DType) && n.Num > 8 }) {
					t.Fatalf("drawn, and of no sort: %v", it)
				}
				continue
			}
			checkPrinted(t, it)
			for _, n := range it {
				seen[n.Kind]++
			}
		}
	}
	for kind := impl.KProgram; kind <= impl.EOr; kind++ {
		if seen[kind] < 100 {
			t.Errorf("%s was drawn %d times", kindName(kind), seen[kind])
		}
	}
}

// Every kind of exp directly below every other, at each place; and the same for patterns and types.
func TestPrintEveryKindBelowEveryOther(t *testing.T) {
	kinds := map[int][][]impl.Node{}
	for seed := range int64(80) {
		d := drawer{rand.New(rand.NewSource(seed))}
		for _, it := range [][]impl.Node{d.typ(1), d.pat(1), d.exp(1)} {
			sort := impl.SortOf(it)
			if !slices.ContainsFunc(kinds[sort], func(other []impl.Node) bool { return impl.Same(other, it) }) && len(it) < 9 {
				kinds[sort] = append(kinds[sort], it)
			}
		}
	}
	for _, sort := range []int{impl.SortType, impl.SortPat, impl.SortExp} {
		for _, outer := range kinds[sort] {
			for i, n := range outer[:len(outer)-1] {
				if n.Kids > 0 || impl.SortOf(outer[i:i+1]) != sort {
					continue
				}
				for _, inner := range kinds[sort] {
					checkPrinted(t, slices.Concat(outer[:i], inner, outer[i+1:]))
				}
			}
		}
	}
}

func TestPrintWhatIsParsed(t *testing.T) {
	for _, src := range programsOfAllRules() {
		isReadBack(t, parsed(t, src))
		checkPrinted(t, parsed(t, src))
	}
	for seed := range int64(madeUpPrograms) {
		src, _ := madeUp(seed, wideGaps)
		if got, code, _ := impl.Parse(src); code == impl.ParseOk {
			checkPrinted(t, got)
		}
	}
}

// What is printed is printed again as it is.
func TestPrintOnceIsEnough(t *testing.T) {
	for seed := range int64(madeUpPrograms / 4) {
		src, _ := madeUp(seed, []string{" "})
		program, code, _ := impl.Parse(src)
		if code != impl.ParseOk {
			continue
		}
		text := impl.Print(program)
		if again := impl.Print(parsed(t, text)); again != text {
			t.Fatalf("%q\nis printed %q", text, again)
		}
	}
}

// gapIs tells what stands between two tokens of a printed text.
func gapIs(left impl.Token, right impl.Token) string {
	isWord := func(tok impl.Token, words string) bool {
		return tok.Kind == impl.TokWord && slices.Contains(strings.Fields(words), tok.Text)
	}
	if isWord(left, "( [ !") || isWord(right, ") ] , ;") {
		return ""
	}
	return " "
}

func TestPrintGapsBetweenTokens(t *testing.T) {
	for seed := range int64(madeUpPrograms / 4) {
		_, program := madeUp(seed, []string{" "})
		for _, dec := range impl.Kids(program) {
			text := impl.Print(dec)
			if len(text) > impl.MaxSource || text == "" {
				continue
			}
			toks, want := tokensOf(t, text), ""
			for i, tok := range toks {
				if i > 0 {
					want += gapIs(toks[i-1], tok)
				}
				want += impl.Spell(tok)
			}
			if text != want {
				t.Fatalf("printed %q\n   want %q", text, want)
			}
		}
	}
}
