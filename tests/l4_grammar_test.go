package tests

import (
	"math/rand"
	"slices"
	"strconv"
	"strings"
	"testing"

	"loop.example/s02665/impl"
)

// The grammar of the document. Two of its rules that are told in words are written into it: TName is a
// Name but "unit", and a rule or clause with a "|" of its match or fbind behind it ends with a shut
// exp, that is, one at whose end no match is open (which would take the "|").
const grammarText = `
program = dec*
dec     = "datatype" tbind ("and" tbind)*
        | "type" params TName "=" type
        | "exception" Cap ("of" type)?
        | vdec
vdec    = "val" pat "=" exp
        | "fun" fbind ("and" fbind)*
params  = Var | "(" Var ("," Var)* ")" | nothing
tbind   = params TName "=" cbind ("|" cbind)*
cbind   = Cap ("of" type)?
fbind   = (shutclause "|")* clause
clause  = Name apat+ "=" exp
shutclause = Name apat+ "=" shut
type    = prod ("->" type)?
prod    = post ("*" post)*
post    = (Var | Name | "(" type ")" | "(" type ("," type)+ ")" TName) TName*
pat     = Name "as" pat | cons (":" type)*
cons    = papp ("::" cons)?
papp    = con apat? | apat
con     = Con | "op" "::"
apat    = "_" | Name | int | str | con | "(" ")" | "(" pat ")"
        | "(" pat ("," pat)+ ")" | "[" "]" | "[" pat ("," pat)* "]"
exp     = "if" exp "then" exp "else" exp | "while" exp "do" exp
        | "case" exp "of" match | "fn" match | "raise" exp
        | or ("handle" match)?
shut    = "if" exp "then" exp "else" shut | "while" exp "do" shut | "raise" shut | or
match   = (shutrule "|")* rule
rule    = pat "=>" exp
shutrule = pat "=>" shut
or      = and ("orelse" and)*
and     = typed ("andalso" typed)*
typed   = set (":" type)*
set     = cmp (":=" cmp)*
cmp     = list (("=" | "<>" | "<" | "<=" | ">" | ">=") list)*
list    = sum ("::" list)?
sum     = mul (("+" | "-" | "^") mul)*
mul     = app (("*" | "/" | "%") app)*
app     = un un*
un      = ("~" | "!") un | atom
atom    = Name | con | int | str | "(" ")" | "(" exp ")"
        | "(" exp ("," exp)+ ")" | "(" exp (";" exp)+ ")"
        | "[" "]" | "[" exp ("," exp)* "]"
        | "let" vdec+ "in" exp (";" exp)* "end"
`

// grammar has for each symbol the ways to write it; a symbol without ways is told by a token.
type grammar map[string][][]string

// grammarReader reads the text above; parts in parentheses become symbols of their own.
type grammarReader struct {
	rules grammar
	words []string
	owner string
	parts int
}

func theGrammar() grammar {
	r := &grammarReader{rules: grammar{}}
	for _, line := range strings.Split(strings.TrimSpace(grammarText), "\n") {
		name, ways, isNew := strings.Cut(line, " = ")
		if !isNew {
			name, ways = r.owner, strings.TrimPrefix(strings.TrimSpace(line), "|")
		}
		r.owner = strings.TrimSpace(name)
		r.words = inWords(ways)
		r.rules[r.owner] = append(r.rules[r.owner], r.ways()...)
	}
	return r.rules
}

// inWords takes "( )" of a group and the signs behind it apart, but nothing in quotation marks.
func inWords(ways string) []string {
	out := []string{}
	for _, field := range strings.Fields(ways) {
		for len(field) > 0 {
			size := strings.IndexAny(field, "()*+?|")
			switch {
			case field[0] == '"':
				size = strings.Index(field[1:], `"`) + 2
			case size < 0:
				size = len(field)
			case size == 0:
				size = 1
			}
			out = append(out, field[:size])
			field = field[size:]
		}
	}
	return out
}

func (r *grammarReader) ways() [][]string {
	all, way := [][]string{}, []string{}
	for len(r.words) > 0 && r.words[0] != ")" {
		first := r.words[0]
		r.words = r.words[1:]
		switch first {
		case "|":
			all, way = append(all, way), []string{}
		case "nothing":
		case "(":
			inner := r.fresh()
			r.rules[inner] = r.ways()
			r.words = r.words[1:]
			way = append(way, r.repeated(inner))
		default:
			way = append(way, r.repeated(first))
		}
	}
	return append(all, way)
}

func (r *grammarReader) fresh() string {
	r.parts++
	return r.owner + "-" + strconv.Itoa(r.parts)
}

func (r *grammarReader) repeated(symbol string) string {
	if len(r.words) == 0 || !isOneOf(r.words[0], "*", "+", "?") {
		return symbol
	}
	sign := r.words[0]
	r.words = r.words[1:]
	more := r.fresh()
	switch sign {
	case "?":
		r.rules[more] = [][]string{{}, {symbol}}
	case "*":
		r.rules[more] = [][]string{{}, {more, symbol}}
	case "+":
		r.rules[more] = [][]string{{symbol}, {more, symbol}}
	}
	return more
}

// fitsSymbol tells whether a token is one of a symbol that has no ways.
func fitsSymbol(tok impl.Token, symbol string) bool {
	given := isOneOf(tok.Text, "true", "false", "nil")
	switch tok.Kind {
	case impl.TokWord:
		return symbol == `"`+tok.Text+`"`
	case impl.TokName:
		return symbol == "Name" && !given || symbol == "TName" && !given && tok.Text != "unit" || symbol == "Con" && given
	case impl.TokCon:
		return symbol == "Cap" || symbol == "Con"
	case impl.TokVar:
		return symbol == "Var"
	case impl.TokInt:
		return symbol == "int"
	case impl.TokStr:
		return symbol == "str"
	}
	return false
}

// item is a way of a symbol that is read up to a point, since a place among the tokens.
type item struct {
	symbol string
	way    int
	point  int
	since  int
}

// chart has for every place among the tokens all items that may be open there: the grammar is read
// in all ways at once, as Earley does it. Ahead are the symbols behind the points of the last ones.
type chart struct {
	rules grammar
	sets  [][]item
	known []map[item]bool
	ahead map[string]bool
}

func newChart(rules grammar) *chart {
	c := &chart{rules: rules}
	c.begin()
	for way := range rules["program"] {
		c.add(item{"program", way, 0, 0})
	}
	c.close()
	return c
}

func (c *chart) begin() {
	c.sets = append(c.sets, nil)
	c.known = append(c.known, map[item]bool{})
}

func (c *chart) add(it item) {
	last := len(c.sets) - 1
	if !c.known[last][it] {
		c.known[last][it] = true
		c.sets[last] = append(c.sets[last], it)
	}
}

// next is the symbol behind the point of an item, and empty at its end.
func (c *chart) next(it item) string {
	way := c.rules[it.symbol][it.way]
	if it.point == len(way) {
		return ""
	}
	return way[it.point]
}

func (c *chart) close() {
	last := len(c.sets) - 1
	c.ahead = map[string]bool{}
	for i := 0; i < len(c.sets[last]); i++ {
		it := c.sets[last][i]
		symbol := c.next(it)
		c.ahead[symbol] = true
		if symbol == "" {
			for _, outer := range slices.Clone(c.sets[it.since]) {
				if c.next(outer) == it.symbol {
					outer.point++
					c.add(outer)
				}
			}
			continue
		}
		for way := range c.rules[symbol] {
			c.add(item{symbol, way, 0, last})
		}
		// What has ended here already, being empty, ends no second time.
		for way, symbols := range c.rules[symbol] {
			if c.known[last][item{symbol, way, len(symbols), last}] {
				it.point++
				c.add(it)
				break
			}
		}
	}
}

// canStand tells whether some program has this token next; TokEnd can if this is a program.
func (c *chart) canStand(tok impl.Token) bool {
	if tok.Kind == impl.TokEnd {
		return slices.ContainsFunc(c.sets[len(c.sets)-1], func(it item) bool {
			return it.symbol == "program" && c.next(it) == "" && it.since == 0
		})
	}
	for symbol := range c.ahead {
		if fitsSymbol(tok, symbol) {
			return true
		}
	}
	return false
}

func (c *chart) read(tok impl.Token) {
	before := c.sets[len(c.sets)-1]
	c.begin()
	for _, it := range before {
		if fitsSymbol(tok, c.next(it)) {
			it.point++
			c.add(it)
		}
	}
	c.close()
}

// firstWrong is the index of the first token that no program can have there, -1 if there is none.
func firstWrong(rules grammar, toks []impl.Token) int {
	c := newChart(rules)
	for i, tok := range toks {
		if !c.canStand(tok) {
			return i
		}
		c.read(tok)
	}
	return -1
}

// tokensOfAllSorts has one for every symbol, and those whose Texts matter.
func tokensOfAllSorts() []impl.Token {
	out := []impl.Token{name("x"), name("f"), name("unit"), name("true"), name("nil"), con("A"), tvar("a"), num(1), num(-1), str("s"), word("_")}
	// Texts of other tokens are no words.
	for _, w := range []string{"and", "as", "op", "fun", "in", "val"} {
		out = append(out, tvar(w), str(w))
	}
	for _, w := range []string{"(", "[", "=", "=>", "::", ":", "|", "*", "->", "_", "!", "nil", "A", "unit", "'a", "1", ""} {
		out = append(out, str(w))
	}
	for _, w := range strings.Fields(wordList + " " + symbolList) {
		out = append(out, word(w))
	}
	return out
}

// written puts tokens into a source and tells where each of them begins, and the end.
func written(toks []impl.Token) (string, []int) {
	src, places := "", []int{}
	for _, tok := range toks {
		places = append(places, len(src))
		src += impl.Spell(tok) + " "
	}
	return src, append(places, len(src))
}

// programsOfAllRules go through every way of every rule.
func programsOfAllRules() []string {
	return []string{
		"",
		"datatype t = A and 'a u = A of 'a | B and ('a) v = A and ('a , 'b , 'c) w = C | D of 'a t * ('a , unit) w | E val x = y",
		"type t = int type 'a t = 'a -> unit -> ('a) list type ('a , 'b) t = ('a -> 'b) list * t * (unit , t) u v exception A exception B of t exception C",
		"val x as y as z : t : u = 1 val _ :: A x :: op :: y :: nil = 1 val op :: = 2 val A = 3 val true _ : t = 4 val ( ) = 5 val ( x ) = 6 val ( x , y as z , _ : t ) = 7 val [ ] = 8 val [ x , y as 1 , \"s\" ] = 9",
		"fun f x = 1 | f y = fn z => 1 and g 1 ~1 \"s\" A nil op :: ( ) ( x ) ( x , y ) [ ] [ x ] [ x , y ] _ = 1 and h x = 1",
		"val x = if a then b else while c do case d of e => f | g => raise h handle i => j | k => fn l => m | n => o val x = 1",
		"fun f x = if a then b else raise while c do d | f x = case y of A => 1 and f x = 1 | f y = fn x => 1 | y => 2",
		"val x = fn a => if b then c else d | e => while f do g | h => raise i | j => k handle l => m | n => o",
		"val x = a orelse b andalso c : t : u -> v andalso d := e = f <> g < h <= i > j >= k :: l + m - n ^ o * p / q % r :: s orelse t",
		"val x = a b ! c ~ ! d A op :: 1 \"s\" ( ) ( a ) ( a , b , c ) ( a ; b ; c ) [ ] [ a ] [ a , b , c ] true nil val x = ~ a",
		"val x = let val a = b fun f x = y | f z = u and g x = y val c = d in a end b let fun f x = 1 in a ; b ; c end",
		"val x = ( fn a => b , case c of d => e | f => g ) val y = [ raise a , b handle c => d ] val z = ( while a do b ; if a then b else c ) val u = let val x = fn y => z in fn y => z ; raise u end",
		"val x = case case a of b => c of d => if case e of f => g then h else i",
		"val x = a : t * u list -> ( v ) handle A x :: y => ( 1 : t ) | _ => 2 : unit",
	}
}

func tokensOf(t *testing.T, src string) []impl.Token {
	t.Helper()
	toks, code, _ := impl.Scan(src)
	if code != impl.LexOk {
		t.Fatalf("%q: code %d", src, code)
	}
	return toks[:len(toks)-1]
}

func TestParseEveryTokenAtEveryPlace(t *testing.T) {
	rules, all := theGrammar(), tokensOfAllSorts()
	for _, program := range programsOfAllRules() {
		parsed(t, program)
		toks := tokensOf(t, program)
		c := newChart(rules)
		for i := 0; i <= len(toks); i++ {
			src, places := written(toks[:i])
			if c.canStand(impl.Token{}) {
				parsed(t, src)
			} else {
				parseFails(t, src, impl.ParseSyntax, len(src))
			}
			for _, tok := range all {
				longer := src + impl.Spell(tok) + " "
				_, code, place := impl.Parse(longer)
				failed := code == impl.ParseSyntax && place == places[i]
				if failed == c.canStand(tok) || place < places[i] && place != 0 {
					t.Errorf("%s: code %d at %d", longer, code, place)
				}
			}
			if i < len(toks) {
				c.read(toks[i])
			}
		}
	}
}

// checkAgainstGrammar leaves what is told of clauses to other tests, but not where it may be told.
func checkAgainstGrammar(t *testing.T, rules grammar, toks []impl.Token) {
	t.Helper()
	src, places := written(toks)
	wrong := firstWrong(rules, append(slices.Clone(toks), impl.Token{}))
	got, code, place := impl.Parse(src)
	switch code {
	case impl.ParseOk:
		if wrong >= 0 || place != 0 || impl.SortOf(got) != impl.SortProgram {
			t.Errorf("%s: is accepted, place %d, first wrong %d", src, place, wrong)
		}
	case impl.ParseSyntax:
		if wrong < 0 || place != places[wrong] || len(got) > 0 {
			t.Errorf("%s: ParseSyntax at %d, first wrong %d", src, place, wrong)
		}
	case impl.ParseClause:
		i := slices.Index(places, place)
		if wrong >= 0 && i >= wrong || i < 0 || toks[i].Kind != impl.TokName && toks[i].Text != "=" || len(got) > 0 {
			t.Errorf("%s: ParseClause at %d, first wrong %d", src, place, wrong)
		}
	default:
		t.Errorf("%s: code %d at %d", src, code, place)
	}
}

func TestParseProgramsWithChangedTokens(t *testing.T) {
	rules, all := theGrammar(), tokensOfAllSorts()
	rnd := rand.New(rand.NewSource(4))
	for _, program := range programsOfAllRules() {
		toks := tokensOf(t, program)
		for range 150 {
			changed := slices.Clone(toks)
			for range 1 + rnd.Intn(2) {
				changed = changedTokens(rnd, changed, all)
			}
			checkAgainstGrammar(t, rules, changed)
		}
	}
}

func changedTokens(rnd *rand.Rand, toks []impl.Token, all []impl.Token) []impl.Token {
	i := rnd.Intn(len(toks) + 1)
	tok := all[rnd.Intn(len(all))]
	if i == len(toks) {
		return append(toks, tok)
	}
	switch rnd.Intn(4) {
	case 0:
		return slices.Insert(toks, i, tok)
	case 1:
		return slices.Delete(toks, i, i+1)
	case 2:
		j := rnd.Intn(len(toks))
		toks[i], toks[j] = toks[j], toks[i]
	default:
		toks[i] = tok
	}
	return toks
}

// Tokens that are drawn from those that can stand there lead to places that no list foresees.
func TestParseDrawnTokens(t *testing.T) {
	rules, all := theGrammar(), tokensOfAllSorts()
	rnd := rand.New(rand.NewSource(5))
	for range 400 {
		c, toks := newChart(rules), []impl.Token{}
		for range 40 {
			fit := slices.DeleteFunc(slices.Clone(all), func(tok impl.Token) bool { return !c.canStand(tok) })
			tok := fit[rnd.Intn(len(fit))]
			toks = append(toks, tok)
			c.read(tok)
		}
		for _, n := range []int{5, 10, 20, 40} {
			checkAgainstGrammar(t, rules, toks[:n])
			checkAgainstGrammar(t, rules, append(slices.Clone(toks[:n]), all[rnd.Intn(len(all))]))
		}
	}
}
