package tests

import (
	"slices"
	"strconv"
	"strings"
	"testing"

	"loop.example/s02665/impl"
)

// matchSoon wants both answers soon, and these codes, and so many useless ones.
func matchSoon(t *testing.T, name string, pats [][]impl.Node, missingCode int, uselessCode int, useless int) {
	t.Helper()
	program := resolved(t, limitsFront())
	soon(t, name, func() {
		if p, code := impl.Missing(program, pats); code != missingCode || (len(p) > 0) != (code == impl.MtMissing) {
			t.Errorf("%s: %s with %d nodes, want %s", name, matchCode(code), len(p), matchCode(missingCode))
		}
	})
	soon(t, name, func() {
		if indexes, code := impl.Useless(program, pats); code != uselessCode || len(indexes) != useless {
			t.Errorf("%s: %s with %d useless ones, want %s with %d", name, matchCode(code), len(indexes), matchCode(uselessCode), useless)
		}
	})
}

// limitsFront has a constructor with an argument for each row, and many without.
func limitsFront() string {
	cons := []string{}
	for i := range impl.MaxRows {
		cons = append(cons, "C"+strconv.Itoa(i)+" of int")
	}
	small := []string{}
	for i := range 1000 {
		small = append(small, "D"+strconv.Itoa(i))
	}
	return matchFront + "datatype c = " + strings.Join(cons, " | ") + " datatype d = " + strings.Join(small, " | ")
}

// rowsOf makes as many patterns as there may be.
func rowsOf(one func(i int) []impl.Node) [][]impl.Node {
	out := [][]impl.Node{}
	for i := range impl.MaxRows {
		out = append(out, one(i))
	}
	return out
}

func tupleOf(n int, kid func(k int) []impl.Node) []impl.Node {
	kids := [][]impl.Node{}
	for k := range n {
		kids = append(kids, kid(k))
	}
	return unplaced(impl.PTuple, 0, "", kids...)
}

func pint(n int) []impl.Node {
	return unplaced(impl.PInt, int64(n), "")
}

// Tuples that are as wide as a term can be, and as steps can go.
func TestMatchWidest(t *testing.T) {
	const most, steps, all = impl.MaxNodes - 1, impl.MaxSteps - 3, impl.MaxRows - 1
	one := func(int) []impl.Node { return pint(1) }
	wild := func(int) []impl.Node { return wildPat }
	for _, c := range []struct {
		name         string
		row          func(i int) []impl.Node
		code, second int
		useless      int
	}{
		{"the same numbers", func(int) []impl.Node { return tupleOf(steps, one) }, impl.MtMissing, impl.MtWhole, all},
		{"too many numbers", func(int) []impl.Node { return tupleOf(most, one) }, impl.MtHard, impl.MtHard, 0},
		{"other numbers", func(i int) []impl.Node { return tupleOf(steps-10, func(int) []impl.Node { return pint(i) }) }, impl.MtMissing, impl.MtWhole, 0},
		{"wildcards", func(int) []impl.Node { return tupleOf(steps, wild) }, impl.MtWhole, impl.MtWhole, all},
		{"too many wildcards", func(int) []impl.Node { return tupleOf(most, wild) }, impl.MtHard, impl.MtHard, 0},
		{"names", func(int) []impl.Node { return tupleOf(steps, func(int) []impl.Node { return pvar("abc") }) }, impl.MtWhole, impl.MtWhole, all},
		{"one number each", func(i int) []impl.Node {
			return tupleOf(steps-impl.MaxRows, func(k int) []impl.Node {
				if k == i {
					return pint(1)
				}
				return wildPat
			})
		}, impl.MtHard, impl.MtHard, 0},
		{"constructors", func(i int) []impl.Node {
			return unplaced(impl.PCon, 0, "C"+strconv.Itoa(i), tupleOf(steps-10, one))
		}, impl.MtMissing, impl.MtWhole, 0},
		{"constructors twice", func(i int) []impl.Node {
			return unplaced(impl.PCon, 0, "C"+strconv.Itoa(i/2), tupleOf(steps-10, one))
		}, impl.MtMissing, impl.MtWhole, impl.MaxRows / 2},
		{"pairs", func(int) []impl.Node {
			return tupleOf(steps/3-1, func(int) []impl.Node { return tupleOf(2, wild) })
		}, impl.MtWhole, impl.MtWhole, all},
	} {
		matchSoon(t, c.name, rowsOf(c.row), c.code, c.second, c.useless)
	}
}

// Patterns that are as deep as can be, many beside each other.
func TestMatchDeepest(t *testing.T) {
	deep := wildPat
	for range impl.MaxDeep - 2 {
		deep = unplaced(impl.PCon, 0, "Some", deep)
	}
	matchSoon(t, "one beside the other", rowsOf(func(int) []impl.Node { return tupleOf(13, func(int) []impl.Node { return deep }) }), impl.MtMissing, impl.MtWhole, impl.MaxRows-1)
	// Something is missing that is one deeper than a term may be.
	first, last, missing := unplaced(impl.PCon, 0, "A"), unplaced(impl.PCon, 0, "C"), unplaced(impl.PCon, 0, "B", wildPat)
	for range impl.MaxDeep - 1 {
		first, last, missing = gridRow(0, wildPat, first), gridRow(0, wildPat, last), gridRow(0, wildPat, missing)
	}
	missingIs(t, "deeper than a term may be", [][]impl.Node{first, last}, missing, impl.MtMissing)
	if impl.Deep(first) != impl.MaxDeep || impl.Good(missing) {
		t.Errorf("deep: %d, %v", impl.Deep(first), impl.Good(missing))
	}
}

// Ways of ways, as many as there may be steps, for each row anew.
func TestMatchMostWays(t *testing.T) {
	truth := unplaced(impl.PCon, 0, "true")
	bools := func(columns int, alike int) [][]impl.Node {
		return rowsOf(func(i int) []impl.Node {
			return tupleOf(columns, func(k int) []impl.Node {
				if i > 0 && (i <= columns && k == i-1 || i > columns && i < alike && k == columns-1) {
					return truth
				}
				return wildPat
			})
		})
	}
	matchSoon(t, "two ways each", bools(10, 0), impl.MtWhole, impl.MtWhole, impl.MaxRows-1)
	matchSoon(t, "two ways each, often", bools(10, 150), impl.MtWhole, impl.MtWhole, impl.MaxRows-1)
	matchSoon(t, "too many ways", bools(12, 0), impl.MtHard, impl.MtHard, 0)
	grown := append(grid(0, 60, 60), slices.Repeat([][]impl.Node{gridRow(0, wildPat, wildPat)}, 80)...)
	matchSoon(t, "a grid", grown, impl.MtWhole, impl.MtWhole, 79)
	matchSoon(t, "many constructors", rowsOf(func(i int) []impl.Node { return unplaced(impl.PCon, 0, "D"+strconv.Itoa(999-i)) }), impl.MtMissing, impl.MtWhole, 0)
	both := func(i int) []impl.Node {
		if i%2 == 0 {
			return gridRow(0, unplaced(impl.PCon, 0, "D"+strconv.Itoa(i)), wildPat)
		}
		return wildPat
	}
	matchSoon(t, "many constructors and wildcards", rowsOf(both), impl.MtWhole, impl.MtWhole, impl.MaxRows-2)
}

// Texts that are as long as they may be and differ at their ends.
func TestMatchLongestTexts(t *testing.T) {
	long := strings.Repeat("a", impl.MaxString-3)
	text := func(i int) []impl.Node { return unplaced(impl.PStr, 0, long+strconv.Itoa(100+i)) }
	matchSoon(t, "long texts", rowsOf(text), impl.MtMissing, impl.MtWhole, 0)
	matchSoon(t, "the same long texts", rowsOf(func(i int) []impl.Node { return text(i % 20) }), impl.MtMissing, impl.MtWhole, impl.MaxRows-20)
	matchSoon(t, "tuples of long texts", rowsOf(func(i int) []impl.Node {
		return tupleOf(100, func(k int) []impl.Node { return text(k * i % 7) })
	}), impl.MtMissing, impl.MtWhole, impl.MaxRows-7)
}

// A program is full of matches, each of which takes nearly as many steps as it may.
func TestReportFull(t *testing.T) {
	cons := []string{}
	for i := range 59 {
		cons = append(cons, "D"+strconv.Itoa(i))
	}
	front := decsOf(t, "datatype d = "+strings.Join(cons, " | "))
	for _, src := range []string{
		"val f = fn (D0, _) => 1 | (_, D0) => 1 | (_, _) => 1 | _ => 1",
		"fun f D0 _ = 1 | f _ D0 = 1 | f _ _ = 1 | f _ _ = 1",
		"val x = case (D1, D2) of (D0, _) => 1 | (_, D0) => 1 | (_, _) => 1" + strings.Repeat(" | _ => 1", 150),
	} {
		program := resolvedTerm(t, longest(front, func(int) []impl.Node { return oneDec(t, src) }))
		soon(t, src, func() {
			matches := impl.Report(program)
			useless := 0
			for _, m := range matches {
				useless += len(m.Useless)
				if m.Code != impl.MtWhole {
					t.Fatalf("%s: %s", src, matchShown(m))
				}
			}
			if len(matches) < 20 || useless < len(matches)/2 {
				t.Errorf("%s: %d matches, %d useless ones", src, len(matches), useless)
			}
		})
	}
}

// As many matches as a program can have.
func TestReportLongest(t *testing.T) {
	for src, least := range map[string]int{"val x = 1": 1900, "val x = fn _ => 1": 1900, "val 1 = 2": 1900, "fun f x = 1": 1000, "val x = 1 handle _ => 2": 1500} {
		program := resolvedTerm(t, longest(nil, func(int) []impl.Node { return oneDec(t, src) }))
		soon(t, src, func() {
			if got := impl.Report(program); len(got) < least {
				t.Errorf("%s: %d matches", src, len(got))
			}
		})
	}
	deep := strings.Repeat("fn 1 => ", 145) + "1"
	if got := impl.Report(resolved(t, "val x = "+deep)); len(got) != 146 || len(got[0].Missing) != 1 {
		t.Errorf("%d matches", len(got))
	}
}

func TestMatchMemory(t *testing.T) {
	program := resolved(t, matchFront)
	for _, texts := range [][]string{
		{}, {"_"}, {"1"}, {"(true, _)", "(_, true)"}, {"Some (x as 1)", "None"}, {`"a"`, `""`}, {"Stop 1", "Div"}, {"A", "A", "A"},
		{"nil", "[_]", "_ :: _ :: _ :: _"}, {"x : int", "y as (1, _)"}, {"Foo"},
	} {
		arguments := &kept{}
		its := arguments.roomy(program)
		pats := [][]impl.Node{}
		for _, p := range patsOf(t, texts...) {
			pats = append(pats, arguments.roomy(p))
		}
		before := slices.Clone(pats)
		sharesNothing(t, strings.Join(texts, " | "), arguments, func() [][]impl.Node {
			p, _ := impl.Missing(its, pats)
			impl.Useless(its, pats)
			for _, q := range pats {
				impl.Fits(q, pats[0])
				impl.Apart(q, pats[0])
			}
			return [][]impl.Node{p}
		})
		for i := range pats {
			if len(pats[i]) != len(before[i]) || &pats[i][0] != &before[i][0] {
				t.Errorf("%v: the list of patterns was written into", texts)
			}
		}
	}
}

// Lists of what is useless are new too.
func TestUselessMemory(t *testing.T) {
	program, pats := resolved(t, matchFront), patsOf(t, "_", "1", "2", "3")
	first, _ := impl.Useless(program, pats)
	second, _ := impl.Useless(program, pats)
	first[0], first[1] = 7, 8
	if !slices.Equal(second, []int{1, 2, 3}) {
		t.Errorf("%v", second)
	}
}

func TestReportMemory(t *testing.T) {
	for _, src := range []string{
		"val f = fn true => 1 | true => 2 | true => 3 fun g 1 2 = 3 | g 1 _ = 4 | g 1 2 = 5 val 1 = 2 handle Div => 3 | Div => 4 | Div => 5",
		"val f = fn (x, 1) => x | (x, 1) => x | (_, 1) => 2 val (1, 2) = (3, 4) val (1, 2) = (3, 4)", "val x = 1 1", "",
	} {
		arguments := &kept{}
		program := arguments.roomy(resolved(t, matchFront+src))
		sharesNothing(t, src, arguments, func() [][]impl.Node {
			out := [][]impl.Node{}
			for _, m := range impl.Report(program) {
				out = append(out, m.Missing)
			}
			return out
		})
		matches := impl.Report(program)
		want := reportShown(impl.Report(program))
		for i := range matches {
			for k := range matches[i].Useless {
				was := matches[i].Useless[k]
				matches[i].Useless[k] = -1
				all := append(matches[i].Useless, -2, -3)
				matches[i].Useless = all[:len(all)-2]
				matches[i].Useless[k] = was
				if reportShown(matches) != want {
					t.Fatalf("%s: lists of useless ones share memory", src)
				}
			}
		}
	}
}
