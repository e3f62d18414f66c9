package tests

import (
	"math"
	"regexp"
	"slices"
	"strconv"
	"strings"
	"testing"

	"loop.example/s02665/impl"
)

func made(kind int, num int64, text string, kids ...[]impl.Node) []impl.Node {
	return term(impl.Node{Kind: kind, Num: num, Text: text}, kids...)
}

// A letter for each part that the list of kinds speaks of: v a TVar, t another type, l a dec that may
// stand in a let, d another dec, and so on.
func partsByLetter() map[rune][]impl.Node {
	v, p, e := made(impl.TVar, 0, "a"), made(impl.PVar, 4, "x"), made(impl.EVar, -9, "y")
	c, k := made(impl.FClause, 0, "", p, e), made(impl.CBind, 0, "K")
	return map[rune][]impl.Node{
		'v': v,
		't': made(impl.TCon, 0, "int"),
		'l': made(impl.DVal, 0, "", p, e),
		'd': made(impl.DExn, 0, "Exn"),
		'p': p,
		'e': e,
		'r': made(impl.Rule, 0, "", p, e),
		'f': made(impl.FBind, 2, "f", c),
		'c': c,
		'b': made(impl.TBind, 0, "b", k),
		'k': k,
		'g': made(impl.KProgram, 0, ""),
	}
}

const partLetters = "vtldperfcbkg"

// listed is the document's list again: what a node of a kind may be called, and its kids by letters.
type listed struct {
	kind int
	name string // as failures tell it
	sort int
	text string // a Text that fits
	num  bool   // whether Num may be any number
	kids string // a pattern of letters
	some string // letters that fit
}

func list() []listed {
	none, dec, typ, pat, exp := impl.SortNone, impl.SortDec, impl.SortType, impl.SortPat, impl.SortExp
	return []listed{
		{impl.KProgram, "KProgram", impl.SortProgram, "", false, "[ld]*", "ld"},
		{impl.DVal, "DVal", dec, "", false, "pe", "pe"},
		{impl.DFun, "DFun", dec, "", false, "f+", "f"},
		{impl.FBind, "FBind", none, "f", true, "c+", "c"},
		{impl.FClause, "FClause", none, "", false, "p+e", "pe"},
		{impl.DData, "DData", dec, "", false, "b+", "b"},
		{impl.TBind, "TBind", none, "t", false, "k+", "k"},
		{impl.CBind, "CBind", none, "C", false, "[vt]?", "t"},
		{impl.DType, "DType", dec, "t", false, "[vt]", "t"},
		{impl.DExn, "DExn", dec, "E", false, "[vt]?", ""},
		{impl.TVar, "TVar", typ, "a", false, "", ""},
		{impl.TCon, "TCon", typ, "t", false, "[vt]*", "t"},
		{impl.TArrow, "TArrow", typ, "", false, "[vt][vt]", "tv"},
		{impl.TTuple, "TTuple", typ, "", false, "([vt][vt]+)?", ""},
		{impl.PWild, "PWild", pat, "", false, "", ""},
		{impl.PVar, "PVar", pat, "x", true, "", ""},
		{impl.PInt, "PInt", pat, "", true, "", ""},
		{impl.PStr, "PStr", pat, "s t", false, "", ""},
		{impl.PCon, "PCon", pat, "C", false, "p?", "p"},
		{impl.PTuple, "PTuple", pat, "", false, "(pp+)?", ""},
		{impl.PAs, "PAs", pat, "x", true, "p", "p"},
		{impl.PType, "PType", pat, "", false, "p[vt]", "pt"},
		{impl.EVar, "EVar", exp, "x", true, "", ""},
		{impl.EInt, "EInt", exp, "", true, "", ""},
		{impl.EStr, "EStr", exp, "s t", false, "", ""},
		{impl.ECon, "ECon", exp, "C", false, "", ""},
		{impl.ETuple, "ETuple", exp, "", false, "(ee+)?", "ee"},
		{impl.EFn, "EFn", exp, "", false, "r+", "rr"},
		{impl.Rule, "Rule", none, "", false, "pe", "pe"},
		{impl.EApp, "EApp", exp, "", false, "ee", "ee"},
		{impl.EBin, "EBin", exp, "+", false, "ee", "ee"},
		{impl.EUn, "EUn", exp, "~", false, "e", "e"},
		{impl.EIf, "EIf", exp, "", false, "eee", "eee"},
		{impl.ECase, "ECase", exp, "", false, "er+", "er"},
		{impl.ELet, "ELet", exp, "", false, "l+e", "le"},
		{impl.ESeq, "ESeq", exp, "", false, "ee+", "ee"},
		{impl.ERaise, "ERaise", exp, "", false, "e", "e"},
		{impl.EHandle, "EHandle", exp, "", false, "er+", "er"},
		{impl.EWhile, "EWhile", exp, "", false, "ee", "ee"},
		{impl.EType, "EType", exp, "", false, "e[vt]", "et"},
		{impl.EAnd, "EAnd", exp, "", false, "ee", "ee"},
		{impl.EOr, "EOr", exp, "", false, "ee", "ee"},
	}
}

// lettered makes a node whose kids are told by letters.
func lettered(kind int, num int64, text string, letters string) []impl.Node {
	parts := partsByLetter()
	kids := [][]impl.Node{}
	for _, letter := range letters {
		kids = append(kids, parts[letter])
	}
	return made(kind, num, text, kids...)
}

// housed puts a part that has no sort of its own into the smallest term that has one.
func housed(part []impl.Node) []impl.Node {
	switch part[len(part)-1].Kind {
	case impl.FClause:
		return housed(made(impl.FBind, 0, "f", part))
	case impl.FBind:
		return made(impl.DFun, 0, "", part)
	case impl.CBind:
		return housed(made(impl.TBind, 0, "t", part))
	case impl.TBind:
		return made(impl.DData, 0, "", part)
	case impl.Rule:
		return made(impl.EFn, 0, "", part)
	}
	return part
}

// fits tells whether a part is as the list says, be it one that has a sort alone or not.
func fits(part []impl.Node) bool {
	return impl.SortOf(housed(part)) != impl.SortNone
}

// allLetters are all texts of the letters that are at most so long.
func allLetters(most int) []string {
	all, longest := []string{""}, []string{""}
	for range most {
		longer := []string{}
		for _, front := range longest {
			for _, letter := range partLetters {
				longer = append(longer, front+string(letter))
			}
		}
		all, longest = append(all, longer...), longer
	}
	return all
}

func TestSortOfEveryKind(t *testing.T) {
	kinds := list()
	for i, l := range kinds {
		if l.kind != i+1 {
			t.Errorf("%s: kind %d, want %d", l.name, l.kind, i+1)
		}
		it := lettered(l.kind, 0, l.text, l.some)
		if got := impl.SortOf(it); got != l.sort {
			t.Errorf("%s: sort %d, want %d", l.name, got, l.sort)
		}
		if !fits(it) {
			t.Errorf("%s does not fit where it belongs", l.name)
		}
	}
	if len(kinds) != impl.EOr {
		t.Errorf("%d kinds are listed, want %d", len(kinds), impl.EOr)
	}
	sorts := []int{impl.SortNone, impl.SortProgram, impl.SortDec, impl.SortType, impl.SortPat, impl.SortExp}
	if !slices.Equal(sorts, []int{0, 1, 2, 3, 4, 5}) {
		t.Errorf("sorts %v", sorts)
	}
}

func TestSortOfKindsOutsideTheList(t *testing.T) {
	for _, kind := range []int{0, -1, -impl.EVar, impl.EOr + 1, impl.EOr + 2, 256 + impl.ETuple, 1<<32 + impl.ETuple, math.MinInt, math.MaxInt} {
		for _, letters := range []string{"", "e", "ee", "pe"} {
			it := lettered(kind, 0, "", letters)
			if got := impl.SortOf(it); got != impl.SortNone {
				t.Errorf("kind %d over %q: sort %d", kind, letters, got)
			}
			if got := impl.SortOf(made(impl.ERaise, 0, "", it)); got != impl.SortNone {
				t.Errorf("kind %d over %q below an ERaise: sort %d", kind, letters, got)
			}
		}
	}
}

func TestSortOfKids(t *testing.T) {
	short := allLetters(3)
	for _, l := range list() {
		pattern := regexp.MustCompile("^(" + l.kids + ")$")
		longer := []string{}
		for _, letter := range l.some {
			longer = append(longer, l.some+strings.Repeat(string(letter), 5), strings.Repeat(string(letter), 7)+l.some)
		}
		for _, letters := range slices.Concat(short, longer) {
			want := pattern.MatchString(letters)
			if got := fits(lettered(l.kind, 0, l.text, letters)); got != want {
				t.Errorf("%s over %q: %v, want %v", l.name, letters, got, want)
			}
		}
	}
}

// The letters above stand for one kind each; here every kind stands below one node of each sort.
func TestSortOfEveryKindAsKid(t *testing.T) {
	e := partsByLetter()['e']
	for _, l := range list() {
		it := lettered(l.kind, 0, l.text, l.some)
		local := isOneOf(l.kind, impl.DVal, impl.DFun)
		for _, c := range []struct {
			name string
			it   []impl.Node
			want bool
		}{
			{"KProgram", made(impl.KProgram, 0, "", it), l.sort == impl.SortDec},
			{"ELet", made(impl.ELet, 0, "", it, e), local},
			{"ELet, as its last", made(impl.ELet, 0, "", partsByLetter()['l'], it), l.sort == impl.SortExp},
			{"ERaise", made(impl.ERaise, 0, "", it), l.sort == impl.SortExp},
			{"PAs", made(impl.PAs, 0, "x", it), l.sort == impl.SortPat},
			{"DExn", made(impl.DExn, 0, "E", it), l.sort == impl.SortType},
			{"DType with a param", made(impl.DType, 1, "t", it, partsByLetter()['t']), l.kind == impl.TVar},
		} {
			if got := fits(c.it); got != c.want {
				t.Errorf("%s below %s: %v, want %v", l.name, c.name, got, c.want)
			}
		}
	}
}

func TestSortOfParams(t *testing.T) {
	short := allLetters(3)
	for num := range int64(3) {
		params := "v{" + strconv.Itoa(int(num)) + "}"
		for kind, pattern := range map[int]*regexp.Regexp{
			impl.TBind: regexp.MustCompile("^" + params + "k+$"),
			impl.DType: regexp.MustCompile("^" + params + "[vt]$"),
		} {
			for _, letters := range short {
				want := pattern.MatchString(letters)
				if got := fits(lettered(kind, num, "t", letters)); got != want {
					t.Errorf("kind %d, %d params over %q: %v, want %v", kind, num, letters, got, want)
				}
			}
		}
	}
}

func TestSortOfNumberOfParams(t *testing.T) {
	for kind, behind := range map[int][]string{impl.TBind: {"k", "kk"}, impl.DType: {"t", "v"}} {
		for _, last := range behind {
			for n := range 11 {
				letters := strings.Repeat("v", n) + last
				for num := int64(-1); num <= 11; num++ {
					want := num == int64(n) && n <= 8
					if got := fits(lettered(kind, num, "t", letters)); got != want {
						t.Errorf("kind %d, Num %d over %q: %v, want %v", kind, num, letters, got, want)
					}
				}
				for _, num := range []int64{math.MinInt64, math.MaxInt64, 1<<32 + int64(n), 256 + int64(n)} {
					if fits(lettered(kind, num, "t", letters)) {
						t.Errorf("kind %d, Num %d over %q fits", kind, num, letters)
					}
				}
			}
		}
	}
}

func TestSortOfParamsBehindCons(t *testing.T) {
	for num, letters := range []string{"kv", "kv", "vkv", "vkvk", "vvtk"} {
		if fits(lettered(impl.TBind, int64(num), "t", letters)) {
			t.Errorf("TBind %d over %q fits", num, letters)
		}
	}
	for num, letters := range []string{"vt", "tv", "vtt", "vvtt", "vvvt"} {
		if fits(lettered(impl.DType, int64(num), "t", letters)) {
			t.Errorf("DType %d over %q fits", num, letters)
		}
	}
}

func TestSortOfClauses(t *testing.T) {
	clause := func(pats int) []impl.Node {
		return lettered(impl.FClause, 0, "", strings.Repeat("p", pats)+"e")
	}
	for _, pats := range [][]int{{1}, {4}, {1, 1}, {3, 3, 3}} {
		kids := [][]impl.Node{}
		for _, n := range pats {
			kids = append(kids, clause(n))
		}
		if !fits(made(impl.FBind, 0, "f", kids...)) {
			t.Errorf("clauses of %v patterns do not fit", pats)
		}
	}
	for _, pats := range [][]int{{0}, {0, 0}, {1, 2}, {2, 1}, {2, 2, 1}, {1, 2, 2}, {2, 1, 2}} {
		kids := [][]impl.Node{}
		for _, n := range pats {
			kids = append(kids, clause(n))
		}
		if fits(made(impl.FBind, 0, "f", kids...)) {
			t.Errorf("clauses of %v patterns fit", pats)
		}
	}
	one, two := made(impl.FBind, 0, "f", clause(1)), made(impl.FBind, 0, "f", clause(2))
	if impl.SortOf(made(impl.DFun, 0, "", one, two)) != impl.SortDec {
		t.Error("two functions need not have as many patterns as each other")
	}
}

func TestSortOfNum(t *testing.T) {
	for _, l := range list() {
		for _, num := range []int64{1, -1, 7, 1 << 32, math.MinInt64, math.MaxInt64} {
			if got := fits(lettered(l.kind, num, l.text, l.some)); got != l.num {
				t.Errorf("%s %d: %v, want %v", l.name, num, got, l.num)
			}
		}
	}
}

func TestSortOfText(t *testing.T) {
	for _, l := range list() {
		if l.text != "" {
			continue
		}
		for _, text := range []string{"x", "X", " ", "\x00", "+", "true", "::", "unit"} {
			if fits(lettered(l.kind, 0, text, l.some)) {
				t.Errorf("%s %q fits", l.name, text)
			}
		}
	}
}

// isOneOf reads better than the library's order where a case lists what it takes.
func isOneOf[T comparable](it T, several ...T) bool {
	return slices.Contains(several, it)
}

var (
	namePattern = regexp.MustCompile(`^[a-z_][A-Za-z0-9_']*$`)
	capPattern  = regexp.MustCompile(`^[A-Z][A-Za-z0-9_']*$`)
	varPattern  = regexp.MustCompile(`^[a-z][A-Za-z0-9_]*$`)
)

// textFits is the document's telling of Texts again, by patterns.
func textFits(kind int, text string) bool {
	given := isOneOf(text, "true", "false", "nil", "::")
	word := text == "_" || slices.Contains(strings.Fields(wordList), text)
	isName := namePattern.MatchString(text) && !word && !given
	isCap := capPattern.MatchString(text)
	isVar := varPattern.MatchString(text)
	switch {
	case isOneOf(kind, impl.TBind, impl.DType, impl.TCon):
		return isName && text != "unit"
	case isOneOf(kind, impl.FBind, impl.PVar, impl.PAs, impl.EVar):
		return isName
	case isOneOf(kind, impl.CBind, impl.DExn):
		return isCap
	case isOneOf(kind, impl.PCon, impl.ECon):
		return isCap || given
	case kind == impl.TVar:
		return isVar
	case kind == impl.EBin:
		return slices.Contains(strings.Fields(":= = <> < <= > >= ^ + - * / %"), text)
	case kind == impl.EUn:
		return text == "~" || text == "!"
	case kind == impl.PStr || kind == impl.EStr:
		return len(text) <= 1000
	}
	return text == ""
}

func oddTexts() []string {
	texts := []string{
		"", "x", "x1", "x_", "x'", "x''y", "_x", "_1", "__", "_'", "xY", "abcdefghijklmnopqrstuvwxyz",
		"A", "A1", "A_", "A'", "Ab", "ABC", "A.B", "x.y",
		"true", "false", "nil", "true'", "nil1", "True", "Nil", "TRUE", "unit", "unit'", "Unit", "units", "ref", "not",
		" x", "x ", "\tx", "x\n", "x\r", " x ", "(**)x", "x(* note *)", "(* a (* b *) *) x", "x (*", "(*x*)",
		" A", "A ", "A(**)", "(**)A", " :: ", ":: ", "true ", " nil", " +", "+ ", "~ ", "!(**)",
		"a ", "a(**)", "a'", "'a", "''a", "'", "a'b", "aB", "a_b", "a1", "1a", "1", "~1", "x y", "A B", "x A", "x;", ";",
		"x\x00", "\x00", "\xff", "x\xff", "é", "xé", "É", `"x"`, "x\"", "\"",
		strings.Repeat("s", 1000), strings.Repeat("s", 1001), strings.Repeat("\x00", 1000), strings.Repeat("\x00", 1001),
		strings.Repeat("é", 500), strings.Repeat("é", 501), "a+b", "++", "+-", "&&", "||", "==", "!!", "~~", "not", "mod", "div",
	}
	texts = append(texts, strings.Fields(wordList)...)
	texts = append(texts, strings.Fields(symbolList)...)
	for _, word := range strings.Fields(wordList) {
		texts = append(texts, word+"s", strings.ToUpper(word), word+" ")
	}
	return texts
}

func TestSortOfTexts(t *testing.T) {
	for _, l := range list() {
		for _, text := range oddTexts() {
			want := textFits(l.kind, text)
			if got := fits(lettered(l.kind, 0, text, l.some)); got != want {
				t.Errorf("%s %q: %v, want %v", l.name, text, got, want)
			}
		}
	}
}

func TestSortOfShortTexts(t *testing.T) {
	kinds := []int{impl.EVar, impl.ECon, impl.TVar, impl.DExn, impl.EUn}
	for first := range 256 {
		one := string([]byte{byte(first)})
		for second := range 256 {
			text := one + string([]byte{byte(second)})
			for _, kind := range kinds[:3] {
				if got, want := fits(lettered(kind, 0, text, "")), textFits(kind, text); got != want {
					t.Errorf("kind %d %q: %v, want %v", kind, text, got, want)
				}
			}
		}
		for _, kind := range kinds {
			letters := strings.Repeat("e", kind/impl.EUn)
			if got, want := fits(lettered(kind, 0, one, letters)), textFits(kind, one); got != want {
				t.Errorf("kind %d %q: %v, want %v", kind, one, got, want)
			}
		}
	}
}

// Scan takes no more than MaxSource bytes, and a Var comes to it with its "'".
func TestSortOfLongNames(t *testing.T) {
	for _, c := range []struct {
		kind int
		byte string
		most int
	}{
		{impl.EVar, "x", impl.MaxSource},
		{impl.PVar, "x", impl.MaxSource},
		{impl.TCon, "x", impl.MaxSource},
		{impl.ECon, "X", impl.MaxSource},
		{impl.DExn, "X", impl.MaxSource},
		{impl.TVar, "x", impl.MaxSource - 1},
	} {
		if !fits(made(c.kind, 0, strings.Repeat(c.byte, c.most))) {
			t.Errorf("kind %d with %d bytes does not fit", c.kind, c.most)
		}
		if fits(made(c.kind, 0, strings.Repeat(c.byte, c.most+1))) {
			t.Errorf("kind %d with %d bytes fits", c.kind, c.most+1)
		}
	}
}

func TestSortOfListsThatAreNotGood(t *testing.T) {
	for name, it := range badLists() {
		if got := impl.SortOf(it); got != impl.SortNone {
			t.Errorf("%s: sort %d", name, got)
		}
	}
	e, l := lettered(impl.EVar, 0, "x", ""), lettered(impl.DVal, 0, "", "pe")
	for _, it := range [][]impl.Node{
		slices.Concat(e, e),
		slices.Concat(l, e),
		slices.Concat(e, made(impl.ERaise, 0, "", e)),
		made(impl.ERaise, 0, "", e)[1:],
		{{Kind: impl.ETuple, Kids: -1}},
		{{Kind: impl.ETuple, Kids: 2}},
		{{Kind: impl.EVar, Text: "x"}, {Kind: impl.ETuple}},
		{{Kind: impl.KProgram, Kids: 1}},
	} {
		if got := impl.SortOf(it); got != impl.SortNone {
			t.Errorf("%v: sort %d", it, got)
		}
	}
}

// raised is so many ERaise over an exp.
func raised(n int, it []impl.Node) []impl.Node {
	out := slices.Clone(it)
	for range n {
		out = append(out, impl.Node{Kind: impl.ERaise, Kids: 1})
	}
	return out
}

func wide(kind int, letter rune, n int) []impl.Node {
	return made(kind, 0, "", slices.Repeat([][]impl.Node{partsByLetter()[letter]}, n)...)
}

func TestSortOfLimits(t *testing.T) {
	e := partsByLetter()['e']
	for _, c := range []struct {
		name string
		it   []impl.Node
		want int
	}{
		{"300 deep", raised(impl.MaxDeep-1, e), impl.SortExp},
		{"301 deep", raised(impl.MaxDeep, e), impl.SortNone},
		{"6000 nodes", wide(impl.ESeq, 'e', impl.MaxNodes-1), impl.SortExp},
		{"6001 nodes", wide(impl.ESeq, 'e', impl.MaxNodes), impl.SortNone},
		{"6000 nodes of a program", wide(impl.KProgram, 'd', impl.MaxNodes-1), impl.SortProgram},
		{"6001 nodes of a program", wide(impl.KProgram, 'd', impl.MaxNodes), impl.SortNone},
		{"many types", made(impl.TCon, 0, "t", slices.Repeat([][]impl.Node{partsByLetter()['t']}, 50)...), impl.SortType},
	} {
		if got := impl.SortOf(c.it); got != c.want {
			t.Errorf("%s: sort %d, want %d", c.name, got, c.want)
		}
	}
}

// largeProgram has a part of every kind but KProgram below it.
func largeProgram() []impl.Node {
	e := partsByLetter()['e']
	decs := [][]impl.Node{}
	for _, l := range list() {
		it := housed(lettered(l.kind, 0, l.text, l.some))
		switch impl.SortOf(it) {
		case impl.SortDec:
			decs = append(decs, it)
		case impl.SortType:
			decs = append(decs, made(impl.DExn, 0, "E", it))
		case impl.SortPat:
			decs = append(decs, made(impl.DVal, 0, "", it, e))
		case impl.SortExp:
			decs = append(decs, made(impl.DVal, 0, "", made(impl.PWild, 0, ""), raised(40, it)))
		}
	}
	return made(impl.KProgram, 0, "", decs...)
}

func TestSortOfSomethingWrongFarBelow(t *testing.T) {
	for _, wrong := range [][]impl.Node{
		made(impl.EVar, 0, "X"), made(impl.EInt, 0, "x"), made(impl.ETuple, 1, ""), made(0, 0, ""),
		partsByLetter()['p'], partsByLetter()['t'], partsByLetter()['l'], partsByLetter()['r'], partsByLetter()['g'],
		made(impl.ETuple, 0, "", partsByLetter()['e']),
	} {
		if got := impl.SortOf(raised(290, wrong)); got != impl.SortNone {
			t.Errorf("%v below 290 nodes: sort %d", wrong, got)
		}
	}
	program := largeProgram()
	if got := impl.SortOf(program); got != impl.SortProgram {
		t.Fatalf("the large program: sort %d", got)
	}
	for i := range program {
		for _, spoil := range []func(n *impl.Node){
			func(n *impl.Node) { n.Kind = 0 },
			func(n *impl.Node) { n.Kind = impl.EOr + 1 },
			func(n *impl.Node) { n.Text += "\x00" + strings.Repeat("x", impl.MaxString) },
			func(n *impl.Node) { n.Kids++ },
		} {
			spoilt := slices.Clone(program)
			spoil(&spoilt[i])
			if got := impl.SortOf(spoilt); got != impl.SortNone {
				t.Errorf("node %d as %v: sort %d", i, spoilt[i], got)
			}
		}
	}
}

func TestSortOfDoesNotLookAtPlaces(t *testing.T) {
	program := largeProgram()
	for _, at := range []int{0, -1, math.MinInt, math.MaxInt} {
		for i := range program {
			program[i].At = at
		}
		if got := impl.SortOf(program); got != impl.SortProgram {
			t.Errorf("with places %d: sort %d", at, got)
		}
	}
}

func TestSortOfWritesNothing(t *testing.T) {
	program := largeProgram()
	bad := raised(5, made(impl.EVar, 0, "X"))
	for _, it := range [][]impl.Node{program, bad, fan(20), {{Kids: 1}}} {
		behind := slices.Concat(it, leaf("behind"))
		before := slices.Clone(behind)
		first := impl.SortOf(behind[:len(it)])
		if !slices.Equal(behind, before) {
			t.Errorf("SortOf wrote into %v", before)
		}
		if again := impl.SortOf(it); again != first {
			t.Errorf("sort %d, and again %d", first, again)
		}
	}
}

// The first promise speaks of every good term: here of terms that have a sort, whose kids have the
// sorts that the list asks for.
func TestKidsOfTermsWithSorts(t *testing.T) {
	program := largeProgram()
	kids := impl.Kids(program)
	if !slices.Equal(impl.Join(program[len(program)-1], kids), program) {
		t.Error("the kids of a program, put together again, are not the program")
	}
	for i, kid := range kids {
		if got := impl.SortOf(kid); got != impl.SortDec {
			t.Errorf("kid %d of a program: sort %d", i, got)
		}
	}
}
