package tests

import (
	"fmt"
	"math"
	"math/big"
	"regexp"
	"slices"
	"strconv"
	"strings"
	"testing"

	"loop.example/s02665/impl"
)

const wordList = "and andalso as case datatype do else end exception fn fun handle if in let of op orelse raise then type val while"
const symbolList = "( ) [ ] , ; : :: := ! = <> < <= > >= + - * / % ^ ~ -> => |"

func word(text string) impl.Token { return impl.Token{Kind: impl.TokWord, Text: text} }
func name(text string) impl.Token { return impl.Token{Kind: impl.TokName, Text: text} }
func con(text string) impl.Token  { return impl.Token{Kind: impl.TokCon, Text: text} }
func tvar(text string) impl.Token { return impl.Token{Kind: impl.TokVar, Text: text} }
func num(n int64) impl.Token      { return impl.Token{Kind: impl.TokInt, Num: n} }
func str(text string) impl.Token  { return impl.Token{Kind: impl.TokStr, Text: text} }

func at(tok impl.Token, place int) impl.Token {
	tok.At = place
	return tok
}

// scans wants these tokens, each At as given, and the end behind them.
func scans(t *testing.T, src string, want ...impl.Token) {
	t.Helper()
	want = append(slices.Clone(want), impl.Token{Kind: impl.TokEnd, At: len(src)})
	got, code, place := impl.Scan(src)
	if code != impl.LexOk || place != 0 || !slices.Equal(got, want) {
		t.Errorf("%.60q: %v, code %d at %d, want %v", src, got, code, place, want)
	}
}

func scanFails(t *testing.T, src string, code int, place int) {
	t.Helper()
	got, c, p := impl.Scan(src)
	if len(got) != 0 || c != code || p != place {
		t.Errorf("%.60q: %d tokens, code %d at %d, want code %d at %d", src, len(got), c, p, code, place)
	}
}

// scansOne wants one token at every place: alone, and between other tokens.
func scansOne(t *testing.T, src string, want impl.Token) {
	t.Helper()
	scans(t, src, want)
	scans(t, "x "+src+" ;", name("x"), at(want, 2), at(word(";"), 3+len(src)))
}

func TestScanConstants(t *testing.T) {
	if impl.MaxSource != 20000 || impl.MaxString != 1000 {
		t.Error("limits", impl.MaxSource, impl.MaxString)
	}
	kinds := []int{impl.TokEnd, impl.TokWord, impl.TokName, impl.TokCon, impl.TokVar, impl.TokInt, impl.TokStr}
	if !slices.Equal(kinds, []int{0, 1, 2, 3, 4, 5, 6}) {
		t.Error("kinds", kinds)
	}
	codes := []int{impl.LexOk, impl.LexLong, impl.LexChar, impl.LexInt, impl.LexStr, impl.LexNote}
	if !slices.Equal(codes, []int{0, 1, 2, 3, 4, 5}) {
		t.Error("codes", codes)
	}
}

func TestScanWords(t *testing.T) {
	scansOne(t, "_", word("_"))
	for _, w := range strings.Fields(wordList) {
		scansOne(t, w, word(w))
		for _, n := range []string{w + "'", w + "_", w + "0", w + "x", w + "X", "_" + w, "x" + w} {
			scansOne(t, n, name(n))
		}
		for _, c := range []string{strings.ToUpper(w), strings.ToUpper(w[:1]) + w[1:], "X" + w} {
			scansOne(t, c, con(c))
		}
		if short := w[:len(w)-1]; len(short) > 0 && !slices.Contains(strings.Fields(wordList), short) {
			scansOne(t, short, name(short))
		}
	}
}

func TestScanNames(t *testing.T) {
	for _, n := range strings.Fields("x z a az true false nil unit ref not print __ _1 _' _x _X _A' x' x'' x'y x'Y' x1 x_ aZ9_' int list zZ09") {
		scansOne(t, n, name(n))
	}
	for _, c := range strings.Fields("A Z M A' A'b A_ A0 Az AZ Match Div Bind Z9' True Nil") {
		scansOne(t, c, con(c))
	}
	scans(t, "x'1'Y", name("x'1'Y"))
	scans(t, "a\tB\n_\rc", name("a"), at(con("B"), 2), at(word("_"), 4), at(name("c"), 6))
	scans(t, "_;_a", word("_"), at(word(";"), 1), at(name("_a"), 2))
}

func TestScanVars(t *testing.T) {
	for _, v := range strings.Fields("a z m ab a_ aB a0 a_1Z val end true") {
		scansOne(t, "'"+v, tvar(v))
	}
	scans(t, "'a'b", tvar("a"), at(tvar("b"), 2))
	scans(t, "A'a 'a", con("A'a"), at(tvar("a"), 4))
	scans(t, ")'a", word(")"), at(tvar("a"), 1))
	scans(t, "'a1'b;", tvar("a1"), at(tvar("b"), 3), at(word(";"), 5))
	for _, bad := range []string{"'", "''", "' a", "'A", "'_", "'_a", "'0", "''a", "'(", "'\xc3\xa4", "'`", "'{", "'\n"} {
		scanFails(t, bad, impl.LexChar, 0)
		scanFails(t, "x "+bad, impl.LexChar, 2)
	}
	scanFails(t, "'a'", impl.LexChar, 2)
	scanFails(t, "'a'B", impl.LexChar, 2)
	scanFails(t, "'a ''b", impl.LexChar, 3)
}

func TestScanSymbols(t *testing.T) {
	all := strings.Fields(symbolList)
	for _, s := range all {
		scansOne(t, s, word(s))
	}
	for src, parts := range map[string]string{
		":::=": ":: :=", ":::": ":: :", "::=": ":: =", ":=:": ":= :", ":=>": ":= >", ":=>=": ":= >=", ":>": ": >",
		"<=>": "<= >", "<>=": "<> =", "<<=": "< <=", "<->": "< ->", "<=": "<=", "< =": "< =", ">==": ">= =", ">=>": ">= >",
		">>": "> >", "=>=": "=> =", "==>": "= =>", "=<": "= <", "=<>": "= <>", "-->": "- ->", "->>": "-> >", "->=>": "-> =>",
		"- >": "- >", "!=": "! =", "!!": "! !", "||": "| |", "~~": "~ ~", "*)": "* )", "**": "* *", ")(": ") (", "( *": "( *",
		"()": "( )", "[]": "[ ]", "~-": "~ -", "-~": "- ~", "=:": "= :", ">:": "> :", "><": "> <",
	} {
		want := []impl.Token{}
		place := 0
		for _, p := range strings.Fields(parts) {
			place += strings.Index(src[place:], p)
			want = append(want, at(word(p), place))
			place += len(p)
		}
		scans(t, src, want...)
	}
	for _, a := range all {
		for _, b := range all {
			scans(t, a+" "+b, word(a), at(word(b), len(a)+1))
			scansAsTold(t, a+b)
		}
	}
}

func TestScanPassedOver(t *testing.T) {
	for _, gap := range []string{" ", "\t", "\n", "\r", "\r\n", " \t\n\r ", "(**)", "(***)", "(****)", "(*(**)*)", "(* a *)", "(* (* (* *) (* *) *) *)", "(*)*)", "(*\"*)", "(*\\\x00\x80\xff#'*)", "(* ( * ) *)", "(*((**)*)", "(*)(**)*)", "(**) (**)", "(*1x*)"} {
		scans(t, gap)
		scans(t, gap+"x", at(name("x"), len(gap)))
		scans(t, "x"+gap+"y"+gap, name("x"), at(name("y"), 1+len(gap)))
		scans(t, "1"+gap+"x", num(1), at(name("x"), 1+len(gap)))
		scans(t, ":"+gap+"=", word(":"), at(word("="), 1+len(gap)))
		scans(t, "~"+gap+"1", word("~"), at(num(1), 1+len(gap)))
	}
	scans(t, "(**)*)", at(word("*"), 4), at(word(")"), 5))
	scans(t, "*(**)", word("*"))
	scans(t, "((**))", word("("), at(word(")"), 5))
	scans(t, "\"(*\"", str("(*"))
	scans(t, "x(*y*)'a", name("x"), at(tvar("a"), 6))
	deep := strings.Repeat("(*", 5000) + strings.Repeat("*)", 5000)
	scans(t, deep)
	scans(t, deep[2:], at(word("*"), 19996), at(word(")"), 19997))
	scanFails(t, deep[:19998], impl.LexNote, 0)
}

func TestScanNotesWithoutEnd(t *testing.T) {
	for _, open := range []string{"(*", "(*)", "(* ", "(*(*", "(*(**)", "(*(*)*)", "(* (* *)", "(**", "(* *", "(* * )", "(*(*)", "(*(*)*", "(* *(*) *)", "(*\x80", "(* \"*", "(*#", "(* 1x"} {
		scanFails(t, open, impl.LexNote, 0)
		scanFails(t, "x  "+open, impl.LexNote, 3)
		scanFails(t, "(**)"+open, impl.LexNote, 4)
		scanFails(t, "("+open, impl.LexNote, 1)
	}
	scanFails(t, "x (* y (* z *)", impl.LexNote, 2)
	scanFails(t, strings.Repeat("(*", 10000), impl.LexNote, 0)
	scanFails(t, "(*)"+strings.Repeat(" ", 19997), impl.LexNote, 0)
	scanFails(t, "# (*", impl.LexChar, 0)
}

func TestScanNumbers(t *testing.T) {
	zeros := strings.Repeat("0", 19000)
	for text, n := range map[string]int64{
		"0": 0, "7": 7, "9": 9, "10": 10, "007": 7, "00": 0, "~0": 0, "~00": 0, "~1": -1, "~09": -9,
		"9223372036854775807": math.MaxInt64, "~9223372036854775807": -math.MaxInt64, "~9223372036854775808": math.MinInt64,
		"9223372036854775806": math.MaxInt64 - 1, "999999999999999999": 999999999999999999, "1000000000000000000": 1000000000000000000,
		"0009223372036854775807": math.MaxInt64, "~0009223372036854775808": math.MinInt64,
		zeros: 0, "~" + zeros: 0, zeros + "12": 12, "~" + zeros + "12": -12, zeros + "9223372036854775807": math.MaxInt64,
	} {
		scansOne(t, text, num(n))
	}
	scans(t, "~ 5", word("~"), at(num(5), 2))
	scans(t, "~5", num(-5))
	scans(t, "~~5", word("~"), at(num(-5), 1))
	scans(t, "~~ 5", word("~"), at(word("~"), 1), at(num(5), 3))
	scans(t, "1~2~", num(1), at(num(-2), 1), at(word("~"), 3))
	scans(t, "x~1", name("x"), at(num(-1), 1))
	scans(t, "-1", word("-"), at(num(1), 1))
	scans(t, "1-1", num(1), at(word("-"), 1), at(num(1), 2))
	scans(t, "+1", word("+"), at(num(1), 1))
	scans(t, "(1)", word("("), at(num(1), 1), at(word(")"), 2))
	scans(t, "1\"\"2", num(1), at(str(""), 1), at(num(2), 3))
	scans(t, "~x", word("~"), at(name("x"), 1))
}

func TestScanNumbersFail(t *testing.T) {
	zeros := strings.Repeat("0", 19000)
	for _, bad := range []string{
		"9223372036854775808", "~9223372036854775809", "9223372036854775810", "9223372036854775809", "10000000000000000000", "18446744073709551615",
		"18446744073709551616", "18446744073709551617", "~18446744073709551616", "~18446744073709551615", "36893488147419103232", "00009223372036854775808",
		zeros + "9223372036854775808", "~" + zeros + "9223372036854775809", strings.Repeat("9", 19990), "~" + strings.Repeat("9", 19990),
		"1x", "12x", "0x1", "1e5", "1E5", "1_", "1_0", "~1_", "~1a", "1Z", "1A", "1z", "0b1", "9223372036854775808x", "1val", "00_",
	} {
		scanFails(t, bad, impl.LexInt, 0)
		scanFails(t, "y "+bad, impl.LexInt, 2)
		scanFails(t, "~ "+bad, impl.LexInt, 2)
	}
	scanFails(t, "1 9223372036854775808", impl.LexInt, 2)
	scanFails(t, "~~1x", impl.LexInt, 1)
}

func TestScanBehindDigits(t *testing.T) {
	scans(t, "12'a", num(12), at(tvar("a"), 2))
	scans(t, "~1'a'b", num(-1), at(tvar("a"), 2), at(tvar("b"), 4))
	scanFails(t, "12'", impl.LexChar, 2)
	scanFails(t, "12'A", impl.LexChar, 2)
	scanFails(t, "12''", impl.LexChar, 2)
	scanFails(t, "12'1", impl.LexChar, 2)
	scanFails(t, "12\xc3\xa4", impl.LexChar, 2)
	scanFails(t, "12.5", impl.LexChar, 2)
	for b := range 256 {
		src := "12" + string([]byte{byte(b)})
		got, code, place := impl.Scan(src)
		isName := b == '_' || 'a' <= b && b <= 'z' || 'A' <= b && b <= 'Z'
		if isName != (code == impl.LexInt && place == 0 && len(got) == 0) {
			t.Errorf("%q: %v %d %d", src, got, code, place)
		}
	}
}

func TestScanStrings(t *testing.T) {
	scansOne(t, `""`, str(""))
	scansOne(t, `"a b"`, str("a b"))
	scansOne(t, `"\n\t\\\""`, str("\n\t\\\""))
	scansOne(t, `"\\n"`, str(`\n`))
	scansOne(t, `"\065\0101\1000"`, str("A\n1d0"))
	scansOne(t, `"'(* x *) val 1x"`, str("'(* x *) val 1x"))
	scans(t, `"a""b"`, str("a"), at(str("b"), 3))
	scans(t, `"a"b"c"`, str("a"), at(name("b"), 3), at(str("c"), 4))
	for b := range 256 {
		one := string([]byte{byte(b)})
		src := `"` + one + `"`
		if 32 <= b && b <= 126 && b != '"' && b != '\\' {
			scansOne(t, src, str(one))
		} else if b == '"' {
			scanFails(t, src, impl.LexStr, 2)
		} else {
			scanFails(t, src, impl.LexStr, 0)
			scanFails(t, "x "+src, impl.LexStr, 2)
		}
		scansOne(t, fmt.Sprintf("\"a\\%03db\"", b), str("a"+one+"b"))
	}
}

func TestScanEscapes(t *testing.T) {
	meant := map[byte]string{'n': "\n", 't': "\t", '\\': "\\", '"': "\""}
	for b := range 256 {
		src := "\"\\" + string([]byte{byte(b)}) + "\""
		if text, ok := meant[byte(b)]; ok {
			scansOne(t, src, str(text))
		} else {
			scanFails(t, src, impl.LexStr, 0)
		}
	}
	for n := 256; n < 1000; n++ {
		scanFails(t, fmt.Sprintf("x\"\\%d\"", n), impl.LexStr, 1)
	}
	for _, bad := range []string{`"\0"`, `"\00"`, `"\12"`, `"\25`, `"\1`, `"\25 "`, `"\+12"`, `"\-12"`, `"\1_2"`, `"\x41"`, `"\ 12"`, `"\12a"`, `"\u0041"`, "\"\\\n\"", `"\N"`, `"\T"`, `"\r"`} {
		scanFails(t, bad, impl.LexStr, 0)
		scanFails(t, "(**)"+bad, impl.LexStr, 4)
	}
	whole := `"ab\n\065\""`
	for i := 1; i < len(whole); i++ {
		scanFails(t, whole[:i], impl.LexStr, 0)
		scanFails(t, "x ;"+whole[:i], impl.LexStr, 3)
	}
}

func TestScanStringSizes(t *testing.T) {
	for _, one := range []struct{ written, meant string }{{"s", "s"}, {`\n`, "\n"}, {`\"`, "\""}, {`\000`, "\x00"}, {`\255`, "\xff"}} {
		for _, n := range []int{999, 1000} {
			scans(t, `"`+strings.Repeat(one.written, n)+`"`, str(strings.Repeat(one.meant, n)))
		}
		for _, n := range []int{1001, 1002, 2000} {
			scanFails(t, ` "`+strings.Repeat(one.written, n)+`"`, impl.LexStr, 1)
		}
		scanFails(t, ` "`+strings.Repeat(one.written, 1000), impl.LexStr, 1)
	}
	full := `"` + strings.Repeat("s", 1000) + `"`
	scans(t, full+full, str(strings.Repeat("s", 1000)), at(str(strings.Repeat("s", 1000)), 1002))
}

func TestScanLimit(t *testing.T) {
	long := strings.Repeat("x", 20000)
	scans(t, long, name(long))
	scans(t, strings.Repeat(" ", 20000))
	scans(t, strings.Repeat(" ", 19999)+"x", at(name("x"), 19999))
	scans(t, "(*"+strings.Repeat("\xff", 19996)+"*)")
	many, code, place := impl.Scan(strings.Repeat(";", 20000))
	if len(many) != 20001 || code != impl.LexOk || place != 0 || many[20000] != (impl.Token{At: 20000}) {
		t.Error("20000 symbols", len(many), code, place)
	}
	for _, src := range []string{long + "x", strings.Repeat(" ", 20001), "#" + long, `"` + long, "(*" + long, "1" + long, strings.Repeat("a ", 100000)} {
		scanFails(t, src, impl.LexLong, 0)
	}
}

func TestScanBytes(t *testing.T) {
	kind := map[byte]int{'\'': -impl.LexChar, '"': -impl.LexStr}
	for b := range 256 {
		one := string([]byte{byte(b)})
		switch {
		case strings.Contains(" \t\n\r", one):
			scans(t, one)
		case 'a' <= b && b <= 'z':
			scansOne(t, one, name(one))
		case 'A' <= b && b <= 'Z':
			scansOne(t, one, con(one))
		case '0' <= b && b <= '9':
			scansOne(t, one, num(int64(b-'0')))
		case b == '_' || slices.Contains(strings.Fields(symbolList), one):
			scansOne(t, one, word(one))
		case kind[byte(b)] != 0:
			scanFails(t, one, -kind[byte(b)], 0)
		default:
			scanFails(t, one, impl.LexChar, 0)
			scanFails(t, "x"+one, impl.LexChar, 1)
			scanFails(t, "(* "+one+" *) 1 "+one+" x", impl.LexChar, 10)
		}
	}
	for _, bad := range []string{"#", "$", "&", "@", "?", ".", "{", "}", "`", "\\", "\x00", "\x0b", "\x0c", "\x7f", "\x80", "\xa0", "ä", "α", "\u00a0", "\ufeff", "\ufffd", "１"} {
		scanFails(t, "val x = "+bad, impl.LexChar, 8)
		scanFails(t, "val"+bad, impl.LexChar, 3)
	}
	scanFails(t, "# 1x", impl.LexChar, 0)
	scanFails(t, "1x #", impl.LexInt, 0)
	scanFails(t, "; \" #", impl.LexStr, 2)
}

func TestScanEnd(t *testing.T) {
	scans(t, "")
	for _, src := range []string{"x", "x ", " x\n", "x(**)", "x (* y *) \r\n\t"} {
		got, code, place := impl.Scan(src)
		if len(got) != 2 || code != 0 || place != 0 || got[1] != (impl.Token{Kind: impl.TokEnd, At: len(src)}) {
			t.Errorf("%q: %v %d %d", src, got, code, place)
		}
	}
}

var spelled = map[string]impl.Token{
	"=>": word("=>"), "_": word("_"), "val": word("val"), "x'": name("x'"), "_1": name("_1"), "A'": con("A'"), "'a_1": tvar("a_1"),
	"0": num(0), "1": num(1), "~1": num(-1), "9223372036854775807": num(math.MaxInt64), "~9223372036854775808": num(math.MinInt64),
	`""`: str(""), `"a b"`: str("a b"), `"\\\"\n\t\000\031 ~\127\128\255\013"`: str("\\\"\n\t\x00\x1f ~\x7f\x80\xff\r"), `"\195\164"`: str("ä"),
}

func TestSpell(t *testing.T) {
	for want, tok := range spelled {
		for _, place := range []int{0, 7, -1} {
			if got := impl.Spell(at(tok, place)); got != want {
				t.Errorf("%v is spelled %s, want %s", tok, got, want)
			}
		}
	}
	for b := range 256 {
		want := fmt.Sprintf("\\%03d", b)
		switch {
		case b == '\n':
			want = `\n`
		case b == '\t':
			want = `\t`
		case b == '"' || b == '\\':
			want = `\` + string(rune(b))
		case 32 <= b && b <= 126:
			want = string(rune(b))
		}
		if got := impl.Spell(str(string([]byte{byte(b)}))); got != `"`+want+`"` {
			t.Errorf("byte %d is spelled %s", b, got)
		}
	}
}

// What no source holds is spelled all the same.
func TestSpellAnything(t *testing.T) {
	for _, text := range []string{"", "a b", "(*", "\"", "\xff\x00", "'a", "Val", "=>>", "12", strings.Repeat("x", 30000)} {
		for _, n := range []int64{0, 5, math.MinInt64} {
			tok := impl.Token{Text: text, Num: n, At: 3}
			want := map[int]string{
				impl.TokWord: text, impl.TokName: text, impl.TokCon: text, impl.TokVar: "'" + text,
				impl.TokInt: strings.Replace(strconv.FormatInt(n, 10), "-", "~", 1),
			}
			for _, kind := range []int{math.MinInt, -6, -1, 0, 1, 2, 3, 4, 5, 7, 8, 256 + 1, 1<<32 + 2, math.MaxInt} {
				tok.Kind = kind
				if got := impl.Spell(tok); got != want[kind] {
					t.Errorf("kind %d of %.20q and %d is spelled %.40q", kind, text, n, got)
				}
			}
		}
	}
	long := strings.Repeat("\x01", 5000)
	if got := impl.Spell(impl.Token{Kind: impl.TokStr, Text: long, Num: 9}); got != `"`+strings.Repeat(`\001`, 5000)+`"` {
		t.Error("a long text is spelled with size", len(got))
	}
}

func everyToken() []impl.Token {
	out := []impl.Token{word("_")}
	for _, w := range strings.Fields(wordList + " " + symbolList) {
		out = append(out, word(w))
	}
	for _, n := range []int64{0, 1, -1, 42, math.MaxInt64, math.MinInt64, math.MinInt64 + 1} {
		out = append(out, num(n))
	}
	all := make([]byte, 256)
	for b := range all {
		all[b] = byte(b)
	}
	out = append(out, str(""), str("(*"), str("*)"), str("x y"), str(string(all)), str("\x001"), str(strings.Repeat("\xff", 1000)))
	return append(out, name("x"), name("x'"), name("_a"), name("__"), name("true"), name("vals"), con("A"), con("A'1_b"), con("Val"), tvar("a"), tvar("val"), tvar("aB_9"))
}

// Promise 2.
func TestSpelledIsScanned(t *testing.T) {
	gaps := []string{" ", "\t", "\n", "\r", " \r\n\t ", "(**)", "(* x *)", "(*(* \" *) 1x #\x80*)", " (*)*) ", "(**)(***)", "\n(* ' *)\n"}
	toks := everyToken()
	for i, a := range toks {
		for j, b := range toks {
			gap := gaps[(i*len(toks)+j)%len(gaps)]
			first := impl.Spell(a)
			scans(t, gap+first+gap+impl.Spell(b), at(a, len(gap)), at(b, 2*len(gap)+len(first)))
		}
	}
	for g, gap := range gaps {
		src, want := gap, []impl.Token{}
		for i, tok := range toks {
			want = append(want, at(tok, len(src)))
			src += impl.Spell(tok) + gaps[(i*g+i+g)%len(gaps)]
		}
		scans(t, src, want...)
	}
}

func TestScanKeepsNothing(t *testing.T) {
	src := "val x = (f 'a ~1 \"s\") (* n *) :: A"
	first, _, _ := impl.Scan(src)
	again, _, _ := impl.Scan(src)
	want := slices.Clone(first)
	for i := range first {
		first[i] = impl.Token{Kind: -1, Text: "spoiled", Num: -1, At: -1}
	}
	_ = append(first[:0:cap(first)], slices.Repeat([]impl.Token{{Kind: -2}}, cap(first))...)
	if !slices.Equal(again, want) {
		t.Error("two answers share memory")
	}
	impl.Scan("\"")
	if third, code, place := impl.Scan(src); code != 0 || place != 0 || !slices.Equal(third, want) {
		t.Error("an answer hangs on an earlier one")
	}
	if src != "val x = (f 'a ~1 \"s\") (* n *) :: A" {
		t.Error("the source was written into")
	}
}

var nextToken = regexp.MustCompile(`^(?:([A-Za-z_][A-Za-z0-9_']*)|'([a-z][A-Za-z0-9_]*)|(~?[0-9]+)|("(?:[ !#-\[\]-~]|\\[nt\\"]|\\[0-9]{3})*")|(::|:=|<>|<=|>=|->|=>|[][(),;:!=<>+\-*/%^~|]))`)
var escape = regexp.MustCompile(`\\(?:[nt\\"]|[0-9]{3})`)

// told is what the document says of a source, told another way: by patterns of tokens.
func told(src string) ([]impl.Token, int, int) {
	out := []impl.Token{}
	rest := src
	for rest != "" {
		place := len(src) - len(rest)
		if strings.HasPrefix(rest, "(*") {
			rest = behindNote(rest[2:])
			if rest == "none" {
				return nil, impl.LexNote, place
			}
			continue
		}
		if strings.Contains(" \t\n\r", rest[:1]) {
			rest = rest[1:]
			continue
		}
		parts := nextToken.FindStringSubmatch(rest)
		if parts == nil && rest[0] == '"' {
			return nil, impl.LexStr, place
		} else if parts == nil {
			return nil, impl.LexChar, place
		}
		rest = rest[len(parts[0]):]
		tok, code := toldToken(parts, rest)
		if code != 0 {
			return nil, code, place
		}
		out = append(out, at(tok, place))
	}
	return out, 0, 0
}

// behindNote is "none" where there is no end, since no rest of the sources here is that.
func behindNote(rest string) string {
	for rest != "" && rest != "none" {
		if strings.HasPrefix(rest, "*)") {
			return rest[2:]
		} else if strings.HasPrefix(rest, "(*") {
			rest = behindNote(rest[2:])
		} else {
			rest = rest[1:]
		}
	}
	return "none"
}

func toldToken(parts []string, behind string) (impl.Token, int) {
	switch {
	case parts[1] != "" && strings.Contains(" _ "+wordList+" ", " "+parts[1]+" "):
		return word(parts[1]), 0
	case parts[1] != "" && strings.ToLower(parts[1][:1]) != parts[1][:1]:
		return con(parts[1]), 0
	case parts[1] != "":
		return name(parts[1]), 0
	case parts[2] != "":
		return tvar(parts[2]), 0
	case parts[3] != "":
		n, _ := new(big.Int).SetString(strings.Replace(parts[3], "~", "-", 1), 10)
		if !n.IsInt64() || regexp.MustCompile(`^[A-Za-z_]`).MatchString(behind) {
			return impl.Token{}, impl.LexInt
		}
		return num(n.Int64()), 0
	case parts[4] != "":
		return toldString(parts[4])
	}
	return word(parts[5]), 0
}

func toldString(quoted string) (impl.Token, int) {
	code := 0
	meant := escape.ReplaceAllStringFunc(quoted[1:len(quoted)-1], func(e string) string {
		if short, ok := map[string]string{`\n`: "\n", `\t`: "\t", `\\`: `\`, `\"`: `"`}[e]; ok {
			return short
		}
		n, _ := strconv.Atoi(e[1:])
		if n > 255 {
			code = impl.LexStr
		}
		return string([]byte{byte(n)})
	})
	if code != 0 || len(meant) > 1000 {
		return impl.Token{}, impl.LexStr
	}
	return str(meant), 0
}

func scansAsTold(t *testing.T, src string) {
	t.Helper()
	if want, code, place := told(src); code != 0 {
		scanFails(t, src, code, place)
	} else {
		scans(t, src, want...)
	}
}

func TestScanAsTold(t *testing.T) {
	for _, few := range []struct {
		alphabet string
		size     int
	}{{"(*) ", 8}, {"aA_'1~ ", 5}, {"\"\\n2 ", 6}, {":=<>-~1", 5}, {"x'(*)\"\\ 1_~:=#\x80\n", 4}} {
		sources := []string{""}
		for range few.size {
			longer := []string{}
			for _, s := range sources {
				for i := range len(few.alphabet) {
					longer = append(longer, s+few.alphabet[i:i+1])
				}
			}
			sources = longer
			for _, s := range sources {
				scansAsTold(t, s)
			}
		}
	}
}

func TestScanMixed(t *testing.T) {
	pieces := strings.Split(`val|fun|x'|'a|A_|12|~3|~|"s|"|\n|\255|\999|(*|*)| |::|:=|=|>|<|->|_|'|9223372036854775807|~9223372036854775808|000|x1|"\\"|""|(|*|)`, "|")
	pieces = append(pieces, "\n", "|", "\x80", "#", " ", " ", "\t")
	state := uint64(1)
	for range 20000 {
		src := ""
		for range 12 {
			state = state*6364136223846793005 + 1442695040888963407
			src += pieces[state>>33%uint64(len(pieces))]
		}
		scansAsTold(t, src)
	}
}
