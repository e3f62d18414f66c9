package tests

import (
	"math/rand"
	"slices"
	"testing"

	"loop.example/s02665/impl"
)

// allValues are the values of a type that has finitely many.
func allValues(ty []impl.Node) [][]impl.Node {
	out := [][]impl.Node{}
	for _, n := range shapesOf(ty) {
		rows := [][][]impl.Node{{}}
		for _, part := range partsOf(ty)[n] {
			longer := [][][]impl.Node{}
			for _, row := range rows {
				for _, v := range allValues(part) {
					longer = append(longer, append(slices.Clone(row), v))
				}
			}
			rows = longer
		}
		for _, row := range rows {
			out = append(out, unplaced(n.Kind, n.Num, n.Text, row...))
		}
	}
	return out
}

func fittedBy(pats [][]impl.Node, v []impl.Node) bool {
	return slices.ContainsFunc(pats, func(p []impl.Node) bool { return impl.Fits(p, v) })
}

// Over types with few values: something is missing just if a value is fitted by no pattern, a pattern
// is useless just if what it fits is fitted by those in front of it.
func TestMatchAllValues(t *testing.T) {
	program := resolved(t, matchFront)
	opt := func(ty []impl.Node) []impl.Node { return typeCon("opt", ty) }
	codes, useless := map[int]int{}, map[int]int{}
	for k, ty := range [][]impl.Node{
		boolType, unitType, opt(boolType), typeTuple(boolType, boolType), typeTuple(boolType, unitType, opt(boolType)),
		typeTuple(typeTuple(boolType, boolType), boolType), opt(opt(boolType)), typeCon("two", boolType, unitType),
		typeTuple(opt(boolType), typeCon("two", unitType, opt(boolType))), typeTuple(boolType, boolType, boolType, boolType),
	} {
		values := allValues(ty)
		for seed := range int64(300) {
			d := patDrawer{drawer{rand.New(rand.NewSource(seed*100 + int64(k)))}}
			pats := d.several(9, func() []impl.Node { return d.typedPat(ty, 4) })
			p, code := impl.Missing(program, pats)
			indexes, _ := impl.Useless(program, pats)
			codes[code]++
			whole := true
			for _, v := range values {
				whole = whole && fittedBy(pats, v)
				if code == impl.MtMissing && impl.Fits(p, v) && fittedBy(pats, v) {
					t.Fatalf("%s\n%s is missing, but %s is fitted", patsShown(pats), impl.Print(p), impl.Print(v))
				}
			}
			isOne := slices.ContainsFunc(values, func(v []impl.Node) bool { return code == impl.MtMissing && impl.Fits(p, v) })
			if whole != (code == impl.MtWhole) || whole == isOne {
				t.Fatalf("%s\n%s, but whole: %v", patsShown(pats), missingShown(p, code), whole)
			}
			for i, q := range pats {
				isNew := slices.ContainsFunc(values, func(v []impl.Node) bool { return impl.Fits(q, v) && !fittedBy(pats[:i], v) })
				if isNew == slices.Contains(indexes, i) {
					t.Fatalf("%s\n%d says something new: %v, useless are %v", patsShown(pats), i, isNew, indexes)
				}
				if !isNew {
					useless[k]++
				}
			}
		}
		if useless[k] < 100 {
			t.Errorf("%d useless ones of %s", useless[k], plainShown(ty))
		}
	}
	if codes[impl.MtWhole] < 500 || codes[impl.MtMissing] < 500 || len(codes) != 2 {
		t.Errorf("codes: %v", codes)
	}
}

// withOthers is a pattern of a type with an exception that no pattern names for each PWild of exn:
// there are always further ones.
func withOthers(p []impl.Node, ty []impl.Node) []impl.Node {
	root, kids := rootOf(p), impl.Kids(p)
	if root.Kind == impl.PWild && rootOf(ty).Text == "exn" {
		return unplaced(impl.PCon, 0, "Other")
	}
	shape := root
	shape.At = 0
	for i, part := range partsOf(ty)[shape] {
		kids[i] = withOthers(kids[i], part)
	}
	return unplaced(root.Kind, root.Num, root.Text, kids...)
}

// isApartFromAll holds what is missing against patterns.
func isApartFromAll(t *testing.T, what []impl.Node, pats [][]impl.Node) {
	t.Helper()
	for _, q := range pats {
		if !impl.Apart(what, q) || !impl.Apart(q, what) {
			t.Fatalf("%s\n%s is missing, but not apart from %s", patsShown(pats), impl.Print(what), impl.Print(q))
		}
	}
}

// valuesWith are values of a type that a bare pattern of it fits, an exception being any one.
func (d patDrawer) valuesWith(p []impl.Node, ty []impl.Node) []impl.Node {
	if isWild(p) {
		return d.valueOf(ty, 3)
	}
	root, kids := rootOf(p), impl.Kids(p)
	for i, part := range partsOf(ty)[root] {
		kids[i] = d.valuesWith(kids[i], part)
	}
	return unplaced(root.Kind, root.Num, root.Text, kids...)
}

// What is missing is apart from all patterns, and is not missing any more behind them.
func TestMissingIsApart(t *testing.T) {
	program := resolved(t, matchFront)
	added := 0
	drawnPats(5000, func(d patDrawer, ty []impl.Node, pats [][]impl.Node) {
		if ty == nil {
			return
		}
		for range 6 {
			p, code := impl.Missing(program, pats)
			if code != impl.MtMissing {
				return
			}
			what := withOthers(p, ty)
			isApartFromAll(t, what, pats)
			for range 3 {
				if v := d.valuesWith(bare(what), ty); fittedBy(pats, v) {
					t.Fatalf("%s\n%s is missing, but %s is fitted", patsShown(pats), impl.Print(p), impl.Print(v))
				}
			}
			pats = append(pats, p)
			next, code := impl.Missing(program, pats)
			if code == impl.MtMissing && !impl.Apart(withOthers(next, ty), p) {
				t.Fatalf("%s\n%s is still missing", patsShown(pats), impl.Print(next))
			}
			indexes, code := impl.Useless(program, pats)
			if code == impl.MtWhole && slices.Contains(indexes, len(pats)-1) {
				t.Fatalf("%s\nwhat is missing is useless", patsShown(pats))
			}
			added++
		}
	})
	if added < 1500 {
		t.Errorf("%d were missing", added)
	}
}

// Without exceptions, and without types: what is missing is apart from all as it is.
func TestMissingIsApartWithoutTypes(t *testing.T) {
	program := resolved(t, matchFront)
	missing := 0
	drawnPats(6000, func(d patDrawer, ty []impl.Node, pats [][]impl.Node) {
		isExn := func(n impl.Node) bool { return isOneOf(n.Text, "Stop", "Halt", "Div", "Match") }
		if slices.ContainsFunc(pats, func(p []impl.Node) bool { return slices.ContainsFunc(p, isExn) }) {
			return
		}
		if p, code := impl.Missing(program, pats); code == impl.MtMissing {
			isApartFromAll(t, p, pats)
			missing++
		}
	})
	if missing < 800 {
		t.Errorf("%d were missing", missing)
	}
}

// With something that fits everything, wherever it stands, nothing is missing, and all behind it is
// useless.
func TestMissingWithWildcard(t *testing.T) {
	program := resolved(t, matchFront)
	drawnPats(2000, func(d patDrawer, ty []impl.Node, pats [][]impl.Node) {
		at := d.rnd.Intn(len(pats) + 1)
		wild := [][][]impl.Node{{wildPat}, {pvar("x")}, {made(impl.PAs, 0, "x", wildPat)}}[d.rnd.Intn(3)]
		more := slices.Concat(pats[:at], wild, pats[at:])
		if p, code := impl.Missing(program, more); code != impl.MtWhole {
			t.Fatalf("%s\n%s is missing, %s", patsShown(more), impl.Print(p), matchCode(code))
		}
		indexes, _ := impl.Useless(program, more)
		for i := at + 1; i < len(more); i++ {
			if !slices.Contains(indexes, i) {
				t.Fatalf("%s\nuseless are %v", patsShown(more), indexes)
			}
		}
	})
}

// Leaving out the first useless one changes neither whether something is missing, nor which values
// are, nor which others are useless.
func TestUselessChangeNothing(t *testing.T) {
	program := resolved(t, matchFront)
	left := 0
	drawnPats(6000, func(d patDrawer, ty []impl.Node, pats [][]impl.Node) {
		if ty == nil {
			return
		}
		indexes, code := impl.Useless(program, pats)
		if code != impl.MtWhole || len(indexes) == 0 {
			return
		}
		first := indexes[0]
		fewer := slices.Concat(pats[:first], pats[first+1:])
		before, code := impl.Missing(program, pats)
		after, codeOfFewer := impl.Missing(program, fewer)
		if code != codeOfFewer {
			t.Fatalf("%s\nwithout %d: %s, with it %s", patsShown(pats), first, matchCode(codeOfFewer), matchCode(code))
		}
		if code == impl.MtMissing {
			isApartFromAll(t, withOthers(before, ty), fewer)
			isApartFromAll(t, withOthers(after, ty), pats)
		}
		others := []int{}
		for _, i := range indexes[1:] {
			others = append(others, i-1)
		}
		if got, _ := impl.Useless(program, fewer); !slices.Equal(got, others) {
			t.Fatalf("%s\nuseless are %v, without the first %v", patsShown(pats), indexes, got)
		}
		for range 4 {
			if v := d.valuesWith(bare(pats[first]), ty); !fittedBy(pats[:first], v) {
				t.Fatalf("%s\n%d is useless, but alone in fitting %s", patsShown(pats), first, impl.Print(v))
			}
		}
		left++
	})
	if left < 2000 {
		t.Errorf("%d had useless ones", left)
	}
}
