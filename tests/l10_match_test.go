package tests

import (
	"slices"
	"strconv"
	"strings"
	"testing"

	"loop.example/s02665/impl"
)

// patsOf reads patterns, with their places and with names that are not resolved.
func patsOf(t *testing.T, texts ...string) [][]impl.Node {
	t.Helper()
	out := [][]impl.Node{}
	for _, text := range texts {
		out = append(out, impl.Kids(oneDec(t, "val "+text+" = 1"))[0])
	}
	return out
}

// missingFrom wants something to be missing, or nothing if want is empty.
func missingFrom(t *testing.T, program []impl.Node, want string, pats ...[]impl.Node) {
	t.Helper()
	p, code, _ := checkMatch(t, program, pats)
	wantCode := impl.MtMissing
	if want == "" {
		wantCode = impl.MtWhole
	}
	if impl.Print(p) != want || code != wantCode || (len(p) == 0) != (want == "") {
		t.Errorf("%s\nmissing: %s %s, want %s", patsShown(pats), matchCode(code), impl.Print(p), want)
	}
}

func isMissing(t *testing.T, want string, texts ...string) {
	t.Helper()
	missingFrom(t, resolved(t, matchFront), want, patsOf(t, texts...)...)
}

func nothingMissing(t *testing.T, texts ...string) {
	t.Helper()
	isMissing(t, "", texts...)
}

func areUseless(t *testing.T, texts []string, want ...int) {
	t.Helper()
	pats := patsOf(t, texts...)
	_, _, indexes := checkMatch(t, resolved(t, matchFront), pats)
	if !slices.Equal(indexes, want) {
		t.Errorf("%s\nuseless: %v, want %v", patsShown(pats), indexes, want)
	}
}

func TestMissingExamples(t *testing.T) {
	isMissing(t, "Some false", "None", "Some true")
	isMissing(t, "(false, Some _)", "(true, _)", "(_, None)")
	isMissing(t, "_ :: nil", "nil", "_ :: _ :: _")
	isMissing(t, "3", "0", "1", "2", "~1")
	isMissing(t, `"aa"`, `""`, `"a"`, `"b"`)
	isMissing(t, "B (true, B _)", "A", "C", "B (false, _)", "B (_, A)", "B (_, C)")
	isMissing(t, "_", "Stop _")
	all := []string{"(true, _)", "(_, true)", "(false, false)", "(false, true)"}
	nothingMissing(t, all...)
	areUseless(t, all, 3)
}

func TestMissingNoPatterns(t *testing.T) {
	isMissing(t, "_")
	missingFrom(t, resolved(t, ""), "_")
	for _, pats := range [][][]impl.Node{nil, {}} {
		p, code := impl.Missing(resolved(t, "val x = 1"), pats)
		indexes, uselessCode := impl.Useless(resolved(t, "val x = 1"), pats)
		if missingShown(p, code) != `MtMissing PWild 0 "" 0 0` || uselessShown(indexes, uselessCode) != "MtWhole" {
			t.Errorf("no patterns: %s, %s", missingShown(p, code), uselessShown(indexes, uselessCode))
		}
	}
}

// Whatever fits everything is as good as a PWild.
func TestMissingWildcards(t *testing.T) {
	for _, text := range []string{"_", "x", "x as _", "x as y", "_ : int", "(x : int) : int", "x as y as _ : t", "(x as _) : 'a list"} {
		nothingMissing(t, text)
		isMissing(t, "(false, _)", "(true, "+text+")")
		isMissing(t, "Some false", "None", "Some true")
		nothingMissing(t, "None", "Some ("+text+")")
		nothingMissing(t, "("+text+", true)", "(_, false)")
		areUseless(t, []string{"1", text, "2"}, 2)
		areUseless(t, []string{"1", "(" + text + ")", text}, 2)
		areUseless(t, []string{"(true, " + text + ")", "(true, 1)", "(" + text + ", 1)", "(false, " + text + ")", "(false, 2)"}, 1, 4)
	}
}

// PAs and PType are as their pattern, at the root and deep inside, several of them too.
func TestMissingAround(t *testing.T) {
	for _, around := range []string{"x as §", "(§ : t)", "x as y as §", "((§ : t) : int)", "x as (§ : t)", "((x as §) : t)", "((x as ((y as §) : t)) : 'a)"} {
		in := func(text string) string { return strings.ReplaceAll(around, "§", text) }
		isMissing(t, "Some false", in("None"), in("Some true"))
		isMissing(t, "Some false", in("None"), "Some ("+in("true")+")")
		isMissing(t, "(0, false)", in("(_, true)"), in("("+in("1")+", "+in("false")+")"))
		isMissing(t, `"a"`, in(`""`), in(`"b"`))
		nothingMissing(t, in("true"), in("false"))
		areUseless(t, []string{in("1"), "1", in("1"), "(" + in("2") + ")", "2"}, 1, 2, 4)
	}
}

func TestMissingTuples(t *testing.T) {
	nothingMissing(t, "()")
	nothingMissing(t, "(_, _)")
	nothingMissing(t, "((), ())")
	isMissing(t, "((), 0)", "((), 1)")
	isMissing(t, "(_, 0)", "(_, 1)")
	isMissing(t, "(_, _, false)", "(_, _, true)")
	isMissing(t, "(_, ((), true), 0)", "(_, ((), true), 1)", "(_, ((), false), _)")
	isMissing(t, "((false, _), _)", "((true, _), _)")
	isMissing(t, "(_, (_, (_, false)))", "(_, (_, (_, true)))")
	isMissing(t, "((((_, false), _), _), _)", "((((_, true), _), _), _)")
	isMissing(t, "(0, _, _, _, _, _, _, _)", "(1, _, _, _, _, _, _, _)")
}

// The constructors come in the order of Declare, whatever stands first.
func TestMissingConstructors(t *testing.T) {
	isMissing(t, "false", "true")
	isMissing(t, "true", "false")
	isMissing(t, "nil", "_ :: _")
	isMissing(t, "op :: _", "nil")
	isMissing(t, "A", "B _")
	isMissing(t, "A", "C")
	isMissing(t, "B _", "C", "A")
	isMissing(t, "C", "B (_, _)", "A")
	nothingMissing(t, "C", "B _", "A")
	isMissing(t, "Two _", "No", "One _")
	isMissing(t, "Two _", "No")
	isMissing(t, "One _", "Two _", "No")
	isMissing(t, "No", "One _", "Two (_, _)")
	isMissing(t, "Two (_, 0)", "No", "One _", "Two (_, 1)")
	isMissing(t, "Single (0, _)", "Single (1, _)")
	nothingMissing(t, "Single _")
	nothingMissing(t, "Single (_, true)", "Single (_, false)")
	isMissing(t, "B (true, B (true, B _))", "A", "C", "B (false, _)", "B (_, A)", "B (_, C)", "B (true, B (false, _))", "B (true, B (true, A))", "B (true, B (true, C))")
	isMissing(t, "Some (Some (Some _))", "None", "Some None", "Some (Some None)")
	isMissing(t, "_ :: _ :: _ :: nil", "nil", "[_]", "[_, _]", "_ :: _ :: _ :: _ :: _")
}

// Exceptions come as they first stand there, and then another one.
func TestMissingExceptions(t *testing.T) {
	isMissing(t, "_", "Div")
	isMissing(t, "_", "Match", "Bind", "Div", "Subscript", "Chr", "Size", "Equal", "Stop _", "Halt")
	isMissing(t, "Stop 0", "Div", "Stop 1")
	isMissing(t, "_", "Div", "Stop 1", "Stop _")
	isMissing(t, "(Halt, false)", "(Halt, true)", "(Div, true)")
	isMissing(t, "(Div, false)", "(Div, true)", "(Halt, true)")
	isMissing(t, "(Halt, false)", "(Div, _)", "(Halt, true)", "(Div, true)")
	isMissing(t, "(_, false)", "(_, true)", "(Stop _, _)", "(Halt, _)")
	isMissing(t, "(_, false)", "(Div, false)", "(_, true)", "(Halt, _)")
	isMissing(t, "Halt :: nil", "nil", "Halt :: _ :: _", "_ :: _ :: _")
	nothingMissing(t, "Stop 1", "_", "Stop 2")
	areUseless(t, []string{"Div", "Halt", "Div", "Stop 1", "Stop 1", "Stop 2", "Stop _", "Stop 3", "_", "Halt", "Equal"}, 2, 4, 7, 9, 10)
	areUseless(t, []string{"Halt", "_", "Stop _"}, 2)
}

func TestMissingNumbers(t *testing.T) {
	isMissing(t, "0", "1")
	isMissing(t, "0", "~1")
	isMissing(t, "1", "0")
	isMissing(t, "1", "2", "0", "4")
	isMissing(t, "3", "4", "2", "0", "1", "5")
	isMissing(t, "3", "2", "1", "0", "1", "2", "0")
	isMissing(t, "0", "~9223372036854775808", "9223372036854775807", "~1")
	isMissing(t, "1", "~9223372036854775808", "0", "9223372036854775807")
	nothingMissing(t, "1", "_")
	// As they first stand there: not by their size, and none twice.
	isMissing(t, "(5, false)", "(5, true)", "(3, true)", "(4, _)")
	isMissing(t, "(3, false)", "(5, _)", "(3, true)", "(4, true)")
	isMissing(t, "(0, _)", "(5, true)", "(3, _)", "(5, false)", "(3, _)")
	isMissing(t, "(1, _)", "(0, _)", "(5, _)")
	isMissing(t, "(0, _)", "(7, _)", "(5, _)")
	// Only what is still there counts.
	isMissing(t, "(false, 0)", "(true, 0)", "(true, 1)", "(false, 2)", "(true, _)")
	isMissing(t, "(true, 2)", "(false, _)", "(_, 0)", "(true, 1)")
	areUseless(t, []string{"1", "2", "1", "~1", "~1", "3"}, 2, 4)
}

func TestMissingTexts(t *testing.T) {
	isMissing(t, `""`, `"a"`)
	isMissing(t, `"a"`, `""`)
	isMissing(t, `"aa"`, `"a"`, `""`)
	isMissing(t, `"a"`, `""`, `"aa"`, `"aaa"`)
	isMissing(t, `"aaa"`, `"aa"`, `""`, `"a"`, `"aaaa"`)
	isMissing(t, `""`, `"b"`, `"A"`, `"\000"`, `"ab"`)
	isMissing(t, `""`, `"`+strings.Repeat("a", impl.MaxString)+`"`)
	nothingMissing(t, `"a"`, "_")
	isMissing(t, `("b", false)`, `("b", true)`, `("a", true)`, `("", true)`)
	isMissing(t, `("", false)`, `("b", _)`, `("", true)`, `("a", true)`)
	isMissing(t, `("", _)`, `("b", _)`, `("a", _)`)
	isMissing(t, `(false, "")`, `(true, "")`, `(true, "a")`, `(false, "a")`, `(true, _)`)
	areUseless(t, []string{`"x"`, `""`, `"x"`, `"y"`, `""`, `"X"`}, 2, 4)
}

// Numbers and texts for which all rows are needed.
func TestMissingMostNumbers(t *testing.T) {
	program := resolved(t, "")
	for count := impl.MaxRows - 3; count <= impl.MaxRows; count++ {
		numbers, texts := [][]impl.Node{}, [][]impl.Node{}
		for i := range count {
			// From both ends, so they do not stand there in their order.
			at := i / 2
			if i%2 == 1 {
				at = count - 1 - i/2
			}
			numbers = append(numbers, made(impl.PInt, int64(at), ""))
			texts = append(texts, made(impl.PStr, 0, strings.Repeat("a", at)))
		}
		missingFrom(t, program, strconv.Itoa(count), numbers...)
		missingFrom(t, program, `"`+strings.Repeat("a", count)+`"`, texts...)
		numbers[count/2], texts[count/2] = numbers[0], texts[0]
		gap := count / 4
		if count/2%2 == 1 {
			gap = count - 1 - count/4
		}
		missingFrom(t, program, strconv.Itoa(gap), numbers...)
		missingFrom(t, program, `"`+strings.Repeat("a", gap)+`"`, texts...)
	}
}

// What stands there first comes first, in however many rows.
func TestMissingOrderOfManyRows(t *testing.T) {
	program := resolved(t, matchFront)
	places := []int{0, 1, 31, 32, 50, 63, 64, 70, 100, 127, 128, 150, 191, 192, impl.MaxRows - 1}
	texts := patsOf(t, "(_, true)", "(5, true)", "(3, true)", "(5, false)")
	for k, first := range places {
		for _, second := range places[k+1:] {
			pats := slices.Repeat(texts[:1], impl.MaxRows)
			pats[first], pats[second] = texts[1], texts[2]
			p, code := impl.Missing(program, pats)
			if code != impl.MtMissing || impl.Print(p) != "(5, false)" {
				t.Errorf("rows %d and %d: %s %s", first, second, matchCode(code), impl.Print(p))
			}
			pats[second] = texts[3]
			if p, code = impl.Missing(program, pats); code != impl.MtMissing || impl.Print(p) != "(0, false)" {
				t.Errorf("rows %d and %d: %s %s", first, second, matchCode(code), impl.Print(p))
			}
		}
	}
}

// The head need not stand in the first row.
func TestMissingHeadFurtherDown(t *testing.T) {
	isMissing(t, "(false, false)", "(_, true)", "(true, _)")
	isMissing(t, "(0, false)", "(_, true)", "(_, true)", "(1, _)")
	isMissing(t, `("", false)`, "(_, true)", `("a", _)`)
	isMissing(t, "(_, false)", "(_, true)", "(Div, _)")
	isMissing(t, "((_, false), false)", "(_, true)", "((_, true), _)")
	isMissing(t, "((), 0)", "(_, 1)", "((), 2)")
	isMissing(t, "(None, false)", "(_, true)", "(Some _, _)")
	areUseless(t, []string{"(_, true)", "(true, _)", "(false, true)", "(true, false)", "_"}, 2, 3)
}

// A column without a head is passed over, and a PWild stands for it.
func TestMissingColumnsWithoutHead(t *testing.T) {
	isMissing(t, "(_, false, _)", "(_, true, _)")
	isMissing(t, "(_, _, 0)", "(x, y, 1)", "(x, _, 2)")
	isMissing(t, "(false, _, 0)", "(true, _, 1)", "(true, _, _)", "(false, x, 1)")
	isMissing(t, "(0, _)", "(1, 2)", "(1, _)")
	isMissing(t, "(1, 0)", "(1, 2)", "(0, _)")
	isMissing(t, "Some (_, 0)", "None", "Some (_, 1)")
}

// The first way that has something missing is the answer, and what is behind it does not count.
func TestMissingFirstWay(t *testing.T) {
	isMissing(t, "(false, false)", "(false, true)", "(true, true)")
	isMissing(t, "(true, false)", "(false, _)", "(true, true)")
	isMissing(t, "None", "Some true", "Some false")
	isMissing(t, "(0, 0)", "(0, 1)", "(1, 2)")
	isMissing(t, "(nil, nil)", "(nil, _ :: _)", "(_ :: _, nil)")
	isMissing(t, "(_ :: _, op :: _)", "(nil, _)", "(_ :: _, nil)")
	isMissing(t, "(A, A)", "(A, B _)", "(A, C)", "(B _, _)")
}

// The nodes of what is missing have nothing but what belongs to them.
func TestMissingNodes(t *testing.T) {
	program := resolved(t, matchFront)
	for want, texts := range map[string][]string{
		"MtMissing PInt 3 \"\" 0 0 PCon 0 \"Stop\" 1 0":                                                                         {"Stop 0", "Stop 2", "Stop 1"},
		"MtMissing PCon 0 \"false\" 0 0 PWild 0 \"\" 0 0 PTuple 0 \"\" 2 0":                                                     {"(true, x)"},
		"MtMissing PWild 0 \"\" 0 0 PStr 0 \"aa\" 0 0 PCon 0 \"nil\" 0 0 PTuple 0 \"\" 2 0 PCon 0 \"::\" 1 0 PTuple 0 \"\" 2 0": {"(_, nil)", `(_, ["", _])`, `(_, _ :: _ :: _)`, `(_, [""])`, `(_, ["a"])`},
		"MtMissing PTuple 0 \"\" 0 0 PInt 0 \"\" 0 0 PTuple 0 \"\" 2 0 PCon 0 \"Some\" 1 0":                                     {"None", "Some ((), 1)"},
	} {
		p, code := impl.Missing(program, patsOf(t, texts...))
		if missingShown(p, code) != want {
			t.Errorf("%v: %s, want %s", texts, missingShown(p, code), want)
		}
	}
}

// Patterns of different kinds in one column: they need not have a type.
func TestMissingDifferentKinds(t *testing.T) {
	isMissing(t, "false", "true", "1")
	isMissing(t, "0", "1", "true")
	isMissing(t, "0", "1", `"a"`, "2")
	isMissing(t, `""`, `"a"`, "0", `"b"`)
	isMissing(t, "(_, 0)", "(_, 1)", "(_, _, _)")
	isMissing(t, "(_, _, 0)", "(_, _, 1)", "(_, _)")
	nothingMissing(t, "(_, _)", "(_, _, 1)", "()")
	nothingMissing(t, "()", "(1, _)")
	nothingMissing(t, "true", "1", "false")
	isMissing(t, "None", "Some 1", "A")
	isMissing(t, "B _", "A", "Some _", "C", "None")
	isMissing(t, "_", "Div", "A", "B _", "C")
	isMissing(t, "A", "C", "Div", "B _")
	isMissing(t, "(Div, 0)", "(Div, 1)", "(A, _)", "(Halt, _)")
	isMissing(t, "(_, 0)", "(Div, _)", "(A, _)", "(_, 1)")
	isMissing(t, "(1, 0)", `(1, 1)`, `("a", _)`, "(2, _)", "(_, 2)")
	isMissing(t, "Some (0, _)", "None", "Some (1, 2)", "Some (1, 2, 3)", "Some 4", `Some "a"`, "Some (1, _)")
	areUseless(t, []string{"1", `"1"`, "()", "(1, 1)", "(1, 1, 1)", "true", "Some 1", "Stop 1"})
	areUseless(t, []string{"true", "false", "1", "_"}, 3)
	areUseless(t, []string{"(_, _)", "(1, 2, 3)", "(1, 2)", "1", "(_, _, _)", "(3, 2, 1)", "_"}, 2, 5, 6)
	areUseless(t, []string{"1", "(true, 1)", "2", "(true, _)", "(true, 2)"}, 4)
}

func TestUseless(t *testing.T) {
	areUseless(t, []string{"_"})
	areUseless(t, []string{"1"})
	areUseless(t, []string{"()"})
	areUseless(t, []string{"true", "false"})
	areUseless(t, []string{"1", "1"}, 1)
	areUseless(t, []string{"x", "y"}, 1)
	areUseless(t, []string{"_", "true", "false", "_"}, 1, 2, 3)
	areUseless(t, []string{"(1, _)", "(_, 1)", "(1, 1)"}, 2)
	areUseless(t, []string{"true", "false", "_"}, 2)
	areUseless(t, []string{"true", "_", "false"}, 2)
	areUseless(t, []string{"Some _", "Some 1", "None", "None"}, 1, 3)
	areUseless(t, []string{"Some 1", "Some _", "Some 1", "None", "_"}, 2, 4)
	areUseless(t, []string{"nil", "[_]", "[_, _]", "_ :: _ :: _ :: _", "[_, 1]", "_ :: _", "[_, _, _, _]"}, 4, 5, 6)
	areUseless(t, []string{"(true, _, _)", "(_, true, _)", "(_, _, true)", "(false, false, _)", "(_, _, false)", "_"}, 4, 5)
	areUseless(t, []string{"A", "B (true, _)", "B (false, _)", "B _", "C", "_"}, 3, 5)
	// Covered by several together, by no one alone.
	areUseless(t, []string{"(true, _)", "(false, _)", "(_, 1)"}, 2)
	areUseless(t, []string{"(1, true)", "(1, false)", "(1, _)", "(2, _)"}, 2)
	areUseless(t, []string{"(Some _, A)", "(None, A)", "(_, A)", "(_, C)", "(_, B _)", "_"}, 2, 5)
	// What is behind a pattern does not make it useless.
	areUseless(t, []string{"1", "2", "3", "_"})
	areUseless(t, []string{"(1, 2)", "(1, _)", "(_, _)"})
}
