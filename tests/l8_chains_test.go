package tests

import (
	"slices"
	"strconv"
	"testing"
	"time"

	"loop.example/s02665/impl"
)

// soon wants that something does not take long. What is exponential would not end at all.
func soon(t *testing.T, name string, work func()) {
	t.Helper()
	begin := time.Now()
	work()
	if took := time.Since(begin); took > 10*time.Second {
		t.Errorf("%s took %v", name, took)
	}
}

// doubling has a pair for each of n unknowns from a number on: it is a tuple of the next one twice.
func doubling(first int64, n int) []impl.Pair {
	pairs := []impl.Pair{}
	for i := range n {
		num := first + int64(i)
		pairs = append(pairs, impl.Pair{A: typeMeta(num), B: typeTuple(typeMeta(num+1), typeMeta(num+1))})
	}
	return pairs
}

// eachOrder hands out the pairs from the front, from the back, turned round, and from the middle on.
func eachOrder(pairs []impl.Pair, each func([]impl.Pair)) {
	back := slices.Clone(pairs)
	slices.Reverse(back)
	middle := len(pairs) / 2
	for _, it := range [][]impl.Pair{pairs, back, turned(pairs), turned(back), slices.Concat(pairs[middle:], pairs[:middle])} {
		each(it)
	}
}

func pairOf(t *testing.T, text string) impl.Pair {
	t.Helper()
	return pairsOf(t, text)[0]
}

// firstBindIs wants a solution, and so many nodes for the first unknown.
func firstBindIs(t *testing.T, pairs []impl.Pair, nodes int) {
	t.Helper()
	s := impl.Solve(pairs)
	if !s.Ok || s.At != 0 || len(s.Binds) == 0 || len(s.Binds[0].Type) != nodes {
		t.Errorf("%.300s: %.300s, want %d nodes", pairsShown(pairs), solutionShown(s), nodes)
	}
}

func noneAt(t *testing.T, pairs []impl.Pair, at int) {
	t.Helper()
	if s := impl.Solve(pairs); s.Ok || s.At != at || len(s.Binds) != 0 {
		t.Errorf("%.300s: %.300s, want none at %d", pairsShown(pairs), solutionShown(s), at)
	}
}

func TestSolveDoubling(t *testing.T) {
	for n := 1; n <= 7; n++ {
		eachOrder(doubling(1, n), func(pairs []impl.Pair) { firstBindIs(t, pairs, 2<<n-1) })
	}
	for _, n := range []int{8, 9, 30, 62, 63, 64, 65, 128, 1000, impl.MaxPairNodes / 4} {
		eachOrder(doubling(1, n), func(pairs []impl.Pair) {
			soon(t, strconv.Itoa(n)+" links", func() { noneAt(t, pairs, -1) })
		})
	}
}

// The unknown 100 has the 255 nodes of a chain and a tuple around them and something else.
func TestSolveDoublingJustAtTheLimit(t *testing.T) {
	for more, fits := range map[int]bool{1: true, 43: true, 44: true, 45: false, 46: false, 299: false} {
		last := impl.Pair{A: typeMeta(100), B: typeTuple(typeMeta(1), sized(more, typeNum(1)))}
		eachOrder(append(doubling(1, 7), last), func(pairs []impl.Pair) {
			s := impl.Solve(pairs)
			if !fits {
				noneAt(t, pairs, -1)
			} else if !s.Ok || len(s.Binds) != 9 || s.Binds[8].Num != 100 || len(s.Binds[8].Type) != 256+more {
				t.Errorf("%d more: %.300s", more, solutionShown(s))
			}
		})
	}
	// What doubles is not a leaf: 149 nodes twice and one more, and two more.
	for inner, want := range map[int]int{148: 297, 149: 299, 150: 0} {
		pairs := []impl.Pair{{A: typeMeta(1), B: typeTuple(typeMeta(2), typeMeta(2))}, {A: typeMeta(2), B: sized(inner, typeCon("int"))}}
		if want > 0 {
			firstBindIs(t, pairs, want)
			firstBindIs(t, append(pairs, impl.Pair{A: typeMeta(3), B: typeCon("t", typeMeta(1))}), want)
		} else {
			noneAt(t, pairs, -1)
		}
	}
	top := []impl.Pair{{A: typeMeta(1), B: typeTuple(typeMeta(2), typeMeta(2), typeNum(1))}, {A: typeMeta(2), B: sized(149, typeMeta(3))}}
	firstBindIs(t, top, impl.MaxType)
	noneAt(t, append(top, impl.Pair{A: typeMeta(4), B: typeCon("t", typeMeta(1))}), -1)
	noneAt(t, append(top, impl.Pair{A: typeMeta(3), B: typeCon("t", typeNum(1))}), -1)
	firstBindIs(t, append(top, impl.Pair{A: typeMeta(3), B: typeNum(1)}), impl.MaxType)
}

// Long types by links that do not double.
func TestSolveLongChains(t *testing.T) {
	links := func(n int) []impl.Pair {
		pairs := []impl.Pair{}
		for i := range n {
			pairs = append(pairs, impl.Pair{A: typeMeta(int64(i + 1)), B: typeCon("list", typeMeta(int64(i+2)))})
		}
		return pairs
	}
	eachOrder(links(impl.MaxType-1), func(pairs []impl.Pair) { firstBindIs(t, pairs, impl.MaxType) })
	most := impl.MaxPairNodes / 3
	for _, n := range []int{impl.MaxType, impl.MaxType + 1, most} {
		eachOrder(links(n), func(pairs []impl.Pair) {
			soon(t, "a long chain", func() { noneAt(t, pairs, -1) })
		})
	}
	eachOrder(links(most-1), func(pairs []impl.Pair) {
		for _, text := range []string{"?1 = #1", "?6666 = ?1"} {
			soon(t, "a long chain", func() { noneAt(t, append(slices.Clone(pairs), pairOf(t, text)), len(pairs)) })
		}
	})
	// As deep as can be: each link is a type of MaxType nodes.
	pairs := []impl.Pair{}
	for i := range 66 {
		pairs = append(pairs, impl.Pair{A: typeMeta(int64(i + 1)), B: sized(impl.MaxType, typeMeta(int64(i+2)))})
	}
	eachOrder(pairs, func(pairs []impl.Pair) {
		noneAt(t, pairs, -1)
		noneAt(t, append(slices.Clone(pairs), pairOf(t, "?67 = list(?1)")), len(pairs))
	})
}

// Two chains from 1 and from 10001 on that are the same at their tops, and so all the way down.
func TestSolveDoublingOnBothSides(t *testing.T) {
	for _, n := range []int{3, 7, 8, 64, 900, 1900} {
		one, other := doubling(1, n), doubling(10001, n)
		tops := impl.Pair{A: typeMeta(1), B: typeMeta(10001)}
		ends := []impl.Pair{{A: typeMeta(int64(n + 1)), B: typeCon("int")}, {A: typeMeta(int64(n + 10001)), B: typeCon("string")}}
		orders := [][]impl.Pair{append(slices.Concat(one, other), tops), append([]impl.Pair{tops}, slices.Concat(one, other)...), slices.Concat(one, []impl.Pair{tops}, other)}
		for _, pairs := range orders {
			soon(t, "two chains", func() {
				for _, it := range [][]impl.Pair{pairs, append(slices.Clone(pairs), ends[0]), append(ends[1:], pairs...)} {
					if n <= 7 {
						firstBindIs(t, it, 2<<n-1)
					} else {
						noneAt(t, it, -1)
					}
				}
				noneAt(t, append(slices.Clone(pairs), ends...), len(pairs)+1)
				noneAt(t, append(slices.Clone(ends), pairs...), len(pairs)+1)
			})
		}
	}
}

// inOnePair has on its sides the unknowns of a chain and the tuples of the next ones, for several
// chains, and behind them what is given.
func inOnePair(n int, firsts []int64, a []impl.Node, b []impl.Node) impl.Pair {
	left, right := [][]impl.Node{}, [][]impl.Node{}
	for _, first := range firsts {
		for _, p := range doubling(first, n) {
			left, right = append(left, p.A), append(right, p.B)
		}
	}
	return impl.Pair{A: typeTuple(append(left, a)...), B: typeTuple(append(right, b)...)}
}

func TestSolveDoublingInOnePair(t *testing.T) {
	int1, string1 := typeCon("int"), typeCon("string")
	soon(t, "one pair", func() {
		for _, n := range []int{2, 7, 8, 40, 99} {
			pair := inOnePair(n, []int64{1}, int1, int1)
			if len(pair.B) > impl.MaxType {
				t.Fatal("nodes", len(pair.B))
			}
			if n <= 7 {
				firstBindIs(t, []impl.Pair{pair}, 2<<n-1)
			} else {
				noneAt(t, []impl.Pair{pair}, -1)
			}
			noneAt(t, []impl.Pair{inOnePair(n, []int64{1}, int1, string1)}, 0)
			noneAt(t, []impl.Pair{inOnePair(n, []int64{1}, typeMeta(int64(n+1)), typeMeta(1))}, 0)
			noneAt(t, []impl.Pair{pair, {A: int1, B: string1}}, 1)
		}
		for _, n := range []int{2, 7, 8, 30, 48} {
			pair := inOnePair(n, []int64{1, 1001}, typeMeta(1), typeMeta(1001))
			end, otherEnd := typeMeta(int64(n+1)), typeMeta(int64(n+1001))
			if n <= 7 {
				firstBindIs(t, []impl.Pair{pair}, 2<<n-1)
			} else {
				noneAt(t, []impl.Pair{pair}, -1)
			}
			noneAt(t, []impl.Pair{pair, {A: end, B: int1}, {A: otherEnd, B: string1}}, 2)
			noneAt(t, []impl.Pair{{A: end, B: int1}, {A: otherEnd, B: string1}, pair}, 2)
			noneAt(t, []impl.Pair{pair, {A: otherEnd, B: typeTuple(end, end)}}, 1)
		}
	})
}

// What is impossible is told behind types that are too large, and in the middle of them.
func TestSolveImpossibleBehindDoubling(t *testing.T) {
	for _, n := range []int{8, 100, 3990} {
		chain := doubling(1, n)
		end := strconv.Itoa(n + 1)
		for _, text := range []string{
			"int = string", "?" + end + " = ?1", "list(?" + end + ") = list((?5, int))", "?20001 = list(?20001)", "?1 = int", "?3 = [?20001, ?20002]", "(?1, ?2) = (?2, ?1)", "?2 = ?4",
		} {
			wrong := pairOf(t, text)
			soon(t, text, func() {
				noneAt(t, append(slices.Clone(chain), wrong), n)
				noneAt(t, append(turned(chain), wrong), n)
				noneAt(t, append(slices.Clone(chain), wrong, wrong), n)
			})
		}
		wrong := pairOf(t, "int = string")
		for _, at := range []int{0, 1, n / 2, n - 1} {
			soon(t, "in the middle", func() { noneAt(t, slices.Insert(slices.Clone(chain), at, wrong), at) })
		}
		// A circle in front of a clash, both behind the chain.
		circle := pairOf(t, "?"+end+" = ?2")
		soon(t, "both", func() {
			noneAt(t, append(slices.Clone(chain), circle, wrong), n)
			noneAt(t, append(slices.Clone(chain), wrong, circle), n)
			noneAt(t, append(slices.Clone(chain), pairOf(t, "?1 = (?20001, ?20002)"), pairOf(t, "?20001 = ?20002"), circle), n+2)
		})
	}
}

// Types that are too large by themselves, while another unknown is none of their business.
func TestSolveTooLargeElsewhere(t *testing.T) {
	noneAt(t, append(doubling(1, 8), pairOf(t, "?50 = int")), -1)
	noneAt(t, append(pairsOf(t, "?50 = int; ?51 = ?52"), doubling(60, 200)...), -1)
	// An end that is told may make it too large, but never smaller.
	firstBindIs(t, append(doubling(1, 7), pairOf(t, "?8 = int")), 255)
	noneAt(t, append(doubling(1, 7), pairOf(t, "?8 = list(int)")), -1)
}

// As many pairs as can be, of two unknowns each.
func TestSolveManyUnknowns(t *testing.T) {
	most := impl.MaxPairNodes / 2
	line, star := []impl.Pair{}, []impl.Pair{}
	for i := range most {
		line = append(line, impl.Pair{A: typeMeta(int64(i + 1)), B: typeMeta(int64(i + 2))})
		star = append(star, impl.Pair{A: typeMeta(int64(most)), B: typeMeta(int64(i + 1))})
	}
	for _, all := range [][]impl.Pair{line, star} {
		eachOrder(all, func(pairs []impl.Pair) {
			soon(t, "many unknowns", func() {
				s := impl.Solve(pairs)
				if !s.Ok || len(s.Binds) < most {
					t.Fatalf("%d Binds", len(s.Binds))
				}
				for i, b := range s.Binds {
					if b.Num != int64(i+1) || len(b.Type) != 1 || b.Type[0] != typeMeta(1)[0] {
						t.Fatalf("%d: %v", i, b)
					}
				}
			})
		})
		for _, at := range []int{2, 5000, most - 1} {
			wrong := slices.Clone(all)
			wrong[at] = impl.Pair{A: typeMeta(1), B: typeNum(1)}
			wrong[0] = impl.Pair{A: typeMeta(1), B: typeNum(2)}
			soon(t, "many unknowns", func() { noneAt(t, wrong, at) })
		}
	}
}

// All of them with a type as large as can be.
func TestSolveManyLargeBinds(t *testing.T) {
	n := (impl.MaxPairNodes - impl.MaxType - 1) / 2
	large := wideOf(impl.MaxType, typeMeta(20002))
	pairs := []impl.Pair{{A: typeMeta(1), B: large}}
	for i := range n {
		pairs = append(pairs, impl.Pair{A: typeMeta(int64(i + 1)), B: typeMeta(int64(i + 2))})
	}
	soon(t, "many large types", func() {
		s := impl.Solve(pairs)
		if !s.Ok || len(s.Binds) != n+2 {
			t.Fatalf("%d Binds, %d", len(s.Binds), s.At)
		}
		for i, b := range s.Binds[:n+1] {
			if b.Num != int64(i+1) || !slices.Equal(b.Type, large) {
				t.Fatalf("%d: %v", i, b)
			}
		}
	})
	pairs[n].B = typeCon("t", typeMeta(1))
	soon(t, "many large types", func() { noneAt(t, pairs, n) })
	pairs[n].B = typeNum(4)
	soon(t, "many large types", func() { noneAt(t, pairs, n) })
	pairs[n] = impl.Pair{A: typeMeta(20002), B: typeTuple()}
	if s := impl.Solve(pairs); !s.Ok || len(s.Binds[n-1].Type) != impl.MaxType {
		t.Errorf("%d Binds, %d", len(s.Binds), s.At)
	}
}
