package tests

import (
	"slices"
	"testing"

	"loop.example/s02665/impl"
)

// grid has rows for firsts in one column and for seconds in the next, with columns in front that take
// a step each. All ways of both are gone through: 2 + columns + (firsts + 1) * (seconds + 2) steps.
func grid(columns int, firsts int, seconds int) [][]impl.Node {
	out := [][]impl.Node{}
	for i := range firsts {
		out = append(out, gridRow(columns, unplaced(impl.PInt, int64(i), ""), wildPat))
	}
	for i := range seconds {
		out = append(out, gridRow(columns, wildPat, unplaced(impl.PInt, int64(i), "")))
	}
	return out
}

func gridRow(columns int, first []impl.Node, second []impl.Node) []impl.Node {
	return unplaced(impl.PTuple, 0, "", append(wilds(columns), first, second)...)
}

func missingIs(t *testing.T, name string, pats [][]impl.Node, want []impl.Node, wantCode int) {
	t.Helper()
	got, code := impl.Missing(resolved(t, matchFront), pats)
	if code != wantCode || !slices.Equal(got, want) {
		t.Errorf("%s: %s and %d nodes, want %s and %d nodes", name, matchCode(code), len(got), matchCode(wantCode), len(want))
	}
}

func uselessIs(t *testing.T, name string, pats [][]impl.Node, want []int, wantCode int) {
	t.Helper()
	got, code := impl.Useless(resolved(t, matchFront), pats)
	if code != wantCode || !slices.Equal(got, want) {
		t.Errorf("%s: %s, want %s", name, uselessShown(got, code), uselessShown(want, wantCode))
	}
}

// A column without a head is a step, and so is the end, with no columns and no rows.
func TestStepsOfColumns(t *testing.T) {
	wide := func(n int, leaf []impl.Node) []impl.Node {
		return unplaced(impl.PTuple, 0, "", slices.Repeat([][]impl.Node{leaf}, n)...)
	}
	n := impl.MaxSteps - 2
	missingIs(t, "just enough", [][]impl.Node{wide(n, wildPat)}, nil, impl.MtWhole)
	missingIs(t, "one more", [][]impl.Node{wide(n+1, wildPat)}, nil, impl.MtHard)
	uselessIs(t, "just enough", [][]impl.Node{wide(n, wildPat)}, nil, impl.MtWhole)
	uselessIs(t, "one more", [][]impl.Node{wide(n+1, wildPat)}, nil, impl.MtHard)
	one := unplaced(impl.PInt, 1, "")
	uselessIs(t, "just enough numbers", [][]impl.Node{wide(n, one), wide(n, one)}, []int{1}, impl.MtWhole)
	uselessIs(t, "one more number", [][]impl.Node{wide(n+1, one), wide(n+1, one)}, nil, impl.MtHard)
	// Beside the columns there are the end that is whole, another in the last column, and its end.
	zero := unplaced(impl.PTuple, 0, "", append(slices.Repeat([][]impl.Node{one}, n-2), unplaced(impl.PInt, 0, ""))...)
	missingIs(t, "just enough numbers", [][]impl.Node{wide(n-1, one)}, zero, impl.MtMissing)
	missingIs(t, "one more number", [][]impl.Node{wide(n, one)}, nil, impl.MtHard)
	missingIs(t, "tuples", [][]impl.Node{wide(n, unplaced(impl.PTuple, 0, ""))}, nil, impl.MtWhole)
	missingIs(t, "one more tuple", [][]impl.Node{wide(n+1, unplaced(impl.PTuple, 0, ""))}, nil, impl.MtHard)
}

// Each constructor is a way, and so a step with all that is behind it.
func TestStepsOfConstructors(t *testing.T) {
	for _, con := range []struct {
		name  string
		kids  int
		steps int // of a column of it, if all rows fit everything but one
	}{{"None", 0, 4}, {"A", 0, 5}, {"true", 0, 3}, {"nil", 0, 4}, {"Two", 1, 6}, {"Div", 0, 3}, {"Stop", 1, 4}} {
		p := unplaced(impl.PCon, 0, con.name, wilds(con.kids)...)
		m, rows := tellerFor(resolved(t, matchFront), [][]impl.Node{p, wildPat})
		if m.counted(func() { m.missing(rows, 1) }); m.steps != con.steps {
			t.Errorf("%s takes %d steps, want %d", con.name, m.steps, con.steps)
		}
		columns := impl.MaxSteps - 1 - con.steps
		pats := padded([][]impl.Node{p, wildPat}, columns)
		missingIs(t, con.name, pats, nil, impl.MtWhole)
		uselessIs(t, con.name, append(pats, pats[1]), []int{2}, impl.MtWhole)
		pats = padded([][]impl.Node{p, wildPat}, columns+1)
		missingIs(t, con.name, pats, nil, impl.MtHard)
		uselessIs(t, con.name, append(pats, pats[1]), nil, impl.MtHard)
	}
}

const gridFirsts, gridSeconds = 61, 62

func gridColumns() int {
	return impl.MaxSteps - 2 - (gridFirsts+1)*(gridSeconds+2)
}

func TestStepsOfMissing(t *testing.T) {
	enough := gridColumns()
	last := func(columns int) []impl.Node { return gridRow(columns, wildPat, wildPat) }
	whole := append(grid(enough, gridFirsts, gridSeconds), last(enough))
	missingIs(t, "just enough, whole", whole, nil, impl.MtWhole)
	found := gridRow(enough, unplaced(impl.PInt, gridFirsts, ""), unplaced(impl.PInt, gridSeconds, ""))
	missingIs(t, "just enough, missing", grid(enough, gridFirsts, gridSeconds), found, impl.MtMissing)
	whole = append(grid(enough+1, gridFirsts, gridSeconds), last(enough+1))
	missingIs(t, "one more, whole", whole, nil, impl.MtHard)
	missingIs(t, "one more, missing", grid(enough+1, gridFirsts, gridSeconds), nil, impl.MtHard)
	// What is found ahead of that takes fewer, whatever would have come.
	early := slices.Clone(whole[:len(whole)-1])
	early[0] = gridRow(enough+1, unplaced(impl.PInt, 0, ""), unplaced(impl.PInt, 0, ""))
	early = slices.Concat(early[:1], early[1:gridFirsts])
	missingIs(t, "found early", early, gridRow(enough+1, unplaced(impl.PInt, 0, ""), unplaced(impl.PInt, 1, "")), impl.MtMissing)
}

// Useless counts for each pattern anew, and one that is too hard is enough.
func TestStepsOfUseless(t *testing.T) {
	for more, code := range []int{impl.MtWhole, impl.MtHard} {
		columns := gridColumns() + more
		rows := grid(columns, gridFirsts, gridSeconds)
		all := gridRow(columns, wildPat, wildPat)
		easy := gridRow(columns, unplaced(impl.PInt, -1, ""), unplaced(impl.PInt, -1, ""))
		want := func(indexes ...int) []int {
			if code == impl.MtHard {
				return nil
			}
			return indexes
		}
		n := len(rows)
		uselessIs(t, "the last one", append(slices.Clone(rows), all), nil, code)
		uselessIs(t, "one in the middle", append(slices.Clone(rows), all, easy, easy, rows[0]), want(n+1, n+2, n+3), code)
		uselessIs(t, "several", append(slices.Clone(rows), all, all, all, easy), want(n+1, n+2, n+3), code)
		// A further number makes further ways.
		uselessIs(t, "a wider one", append(slices.Clone(rows), easy, all), nil, impl.MtHard)
		uselessIs(t, "one behind useless ones", append(slices.Clone(rows), rows[0], rows[n-1], all), want(n, n+1), code)
		uselessIs(t, "none", append(slices.Clone(rows), easy, rows[3]), []int{n + 1}, impl.MtWhole)
	}
	wide := unplaced(impl.PTuple, 0, "", wilds(impl.MaxSteps-1)...)
	one := unplaced(impl.PInt, 1, "")
	uselessIs(t, "the first one", [][]impl.Node{wide, one, one}, nil, impl.MtHard)
	uselessIs(t, "a second one", [][]impl.Node{one, one, wide, one}, nil, impl.MtHard)
	// Behind something that fits everything it takes as many steps as it has nodes that are looked at.
	uselessIs(t, "behind a wildcard", [][]impl.Node{wildPat, one, wide}, nil, impl.MtHard)
	uselessIs(t, "a wildcard behind them", [][]impl.Node{one, wildPat, wildPat}, []int{2}, impl.MtWhole)
}

// Missing and Useless do not hang on each other.
func TestStepsOfOne(t *testing.T) {
	columns := gridColumns() + 1
	rows := grid(columns, gridFirsts, gridSeconds)
	missingIs(t, "hard", rows, nil, impl.MtHard)
	uselessIs(t, "and none is useless", rows, nil, impl.MtWhole)
	// Here what is missing is found at once, and the last one takes all ways of the second column.
	rows = grid(0, 0, 3)
	rows = append(rows, gridRow(0, unplaced(impl.PInt, 0, ""), wildPat))
	missingIs(t, "easy", rows, gridRow(0, unplaced(impl.PInt, 1, ""), unplaced(impl.PInt, 3, "")), impl.MtMissing)
}

// Ways of ways: two values for each of so many columns.
func TestStepsOfManyWays(t *testing.T) {
	program := resolved(t, matchFront)
	codes := map[int]int{}
	for columns := 2; columns <= 13; columns++ {
		pats := [][]impl.Node{}
		for i := range columns {
			kids := wilds(columns)
			kids[i] = unplaced(impl.PCon, 0, "true")
			pats = append(pats, unplaced(impl.PTuple, 0, "", kids...))
		}
		pats = append(pats, unplaced(impl.PTuple, 0, "", slices.Repeat(patsOf(t, "false"), columns)...), wildPat)
		_, code, _ := checkMatch(t, program, pats)
		codes[code]++
		slices.Reverse(pats)
		_, code, _ = checkMatch(t, program, pats)
		codes[code]++
	}
	if codes[impl.MtHard] < 3 || codes[impl.MtWhole] < 3 {
		t.Errorf("codes: %v", codes)
	}
}
