package tests

import (
	"math"
	"slices"
	"strconv"
	"strings"
	"testing"

	"loop.example/s02665/impl"
)

// pairsOf reads pairs like "?1 = int; ?2 = list(?1)".
func pairsOf(t *testing.T, text string) []impl.Pair {
	t.Helper()
	pairs := []impl.Pair{}
	for _, part := range strings.Split(text, "; ") {
		if a, b, found := strings.Cut(part, " = "); found {
			pairs = append(pairs, impl.Pair{A: plainOf(t, a), B: plainOf(t, b)})
		}
	}
	if pairsShown(pairs) != text {
		t.Fatalf("%s is read as %s", text, pairsShown(pairs))
	}
	return pairs
}

func pairsShown(pairs []impl.Pair) string {
	out := []string{}
	for _, p := range pairs {
		out = append(out, plainShown(p.A)+" = "+plainShown(p.B))
	}
	return strings.Join(out, "; ")
}

func solutionShown(s impl.Solution) string {
	out := bindsShown(s.Binds)
	if !s.Ok {
		out = "none at " + strconv.Itoa(s.At) + out
	} else if s.At != 0 {
		out += ", and At is " + strconv.Itoa(s.At)
	}
	return out
}

func turned(pairs []impl.Pair) []impl.Pair {
	out := []impl.Pair{}
	for _, p := range pairs {
		out = append(out, impl.Pair{A: p.B, B: p.A})
	}
	return out
}

// solvesTo wants the same answer for the pairs and for the same ones with A and B changed.
func solvesTo(t *testing.T, pairs []impl.Pair, want string) {
	t.Helper()
	for _, it := range [][]impl.Pair{pairs, turned(pairs)} {
		if got := solutionShown(impl.Solve(it)); got != want {
			t.Errorf("%.300s: %.300s, want %.300s", pairsShown(it), got, want)
		}
	}
}

func solveIs(t *testing.T, pairs string, want string) {
	t.Helper()
	solvesTo(t, pairsOf(t, pairs), want)
}

func TestSolveNothing(t *testing.T) {
	for _, pairs := range [][]impl.Pair{nil, {}} {
		if s := impl.Solve(pairs); !s.Ok || s.At != 0 || len(s.Binds) != 0 {
			t.Errorf("%v", s)
		}
	}
}

func TestSolveSame(t *testing.T) {
	for text, want := range map[string]string{
		"int": "", "#1": "", "#9223372036854775807": "", "()": "", "[int, #1]": "", "(int, (), #3)": "", "t(int, t(int))": "",
		"?1": "1 ?1", "?9223372036854775807": "9223372036854775807 ?9223372036854775807", "[?3, ?2]": "2 ?2; 3 ?3", "(?2, list(?2), ?1)": "1 ?1; 2 ?2",
	} {
		solveIs(t, text+" = "+text, want)
		solveIs(t, text+" = "+text+"; "+text+" = "+text, want)
	}
}

// placesOfTypes have a "$" where something stands, at the root and further down.
var placesOfTypes = []string{
	"$", "list($)", "[$, int]", "[int, $]", "($, ())", "((), $)", "(#1, $, #2)", "t(int, t($, int), int)", "[[[$, int], int], int]", "(#1, (#2, (#3, [#4, $])))", "[(?7, $), ?7]",
}

func TestSolveThatDiffer(t *testing.T) {
	for _, pair := range [][2]string{
		{"int", "string"}, {"int", "int(int)"}, {"int", "Int"}, {"t(int)", "u(int)"}, {"t(int)", "t(int, int)"}, {"t(int, int)", "[int, int]"}, {"t(int, int)", "(int, int)"},
		{"[int, int]", "(int, int)"}, {"int", "()"}, {"int", "#1"}, {"#1", "#2"}, {"#1", "#9223372036854775807"}, {"#1", "()"}, {"#1", "[#1, #1]"}, {"()", "(int, int)"},
		{"(int, int)", "(int, int, int)"}, {"[int, int]", "[int, string]"}, {"[int, int]", "[string, int]"}, {"(int, int, int)", "(int, string, int)"}, {"list(#1)", "list(#2)"},
		{"t(t(t(int)))", "t(t(t(string)))"}, {"t(t(t(int)))", "t(t(int))"},
		// Unknowns on the way do not help.
		{"(?1, int)", "(?1, string)"}, {"(?1, ?1)", "(int, string)"}, {"[?1, list(?1)]", "[?2, ?2]"}, {"(?1, ?2, ?1)", "(?2, int, string)"}, {"(int, ?1)", "(?1, string)"},
	} {
		for _, place := range placesOfTypes {
			a, b := strings.ReplaceAll(place, "$", pair[0]), strings.ReplaceAll(place, "$", pair[1])
			solveIs(t, a+" = "+b, "none at 0")
			solveIs(t, "?1 = ?2; "+a+" = "+b+"; int = int", "none at 1")
		}
		for _, n := range []int{200, impl.MaxType} {
			a, b := plainOf(t, pair[0]), plainOf(t, pair[1])
			if deep := n - max(len(a), len(b)); deep > 0 {
				solvesTo(t, []impl.Pair{{A: sized(len(a)+deep, a), B: sized(len(b)+deep, b)}}, "none at 0")
			}
		}
	}
	for _, text := range []string{"", "a"} {
		solvesTo(t, []impl.Pair{{A: typeCon(text), B: typeTuple()}}, "none at 0")
		solvesTo(t, []impl.Pair{{A: typeCon(text, typeMeta(1), typeMeta(1)), B: typeTuple(typeMeta(1), typeMeta(1))}}, "none at 0")
		solvesTo(t, []impl.Pair{{A: typeCon(text, typeMeta(1), typeMeta(1)), B: typeArrow(typeMeta(1), typeMeta(1))}}, "none at 0")
		solvesTo(t, []impl.Pair{{A: typeCon(text), B: typeCon(text + "\x00")}}, "none at 0")
	}
}

func TestSolveUnknowns(t *testing.T) {
	for _, text := range []string{"int", "#1", "()", "[#1, #2]", "(int, int)", "list(list(int))"} {
		solveIs(t, "?5 = "+text, "5 "+text)
		solveIs(t, "?5 = "+text+"; "+text+" = ?5", "5 "+text)
		solveIs(t, "(?5, ?5) = ("+text+", ?4)", "4 "+text+"; 5 "+text)
		for _, place := range placesOfTypes {
			want := "5 " + text
			if strings.Contains(place, "?7") {
				want += "; 7 ?7"
			}
			solveIs(t, strings.ReplaceAll(place, "$", "?5")+" = "+strings.ReplaceAll(place, "$", text), want)
		}
	}
	solveIs(t, "[?2, ?1] = [?3, list(?3)]; ?3 = int", "1 list(int); 2 int; 3 int")
	solveIs(t, "?3 = int; [?2, ?1] = [?3, list(?3)]", "1 list(int); 2 int; 3 int")
	solveIs(t, "(?1, ?1) = (list(?2), list(int))", "1 list(int); 2 int")
	solveIs(t, "?1 = list(?2); ?1 = list(?3)", "1 list(?2); 2 ?2; 3 ?2")
	solveIs(t, "?1 = list(?3); ?1 = list(?2); ?4 = ?1", "1 list(?2); 2 ?2; 3 ?2; 4 list(?2)")
	solveIs(t, "?1 = [?2, ?3]; ?1 = [?4, ?5]; ?5 = ?4", "1 [?2, ?2]; 2 ?2; 3 ?2; 4 ?2; 5 ?2")
}

func TestSolveUnknownsByWayOfOthers(t *testing.T) {
	solveIs(t, "(?9, ?8) = (?8, ?7); ?7 = (?6, ?6); ?9 = (int, ?5)", "5 int; 6 int; 7 (int, int); 8 (int, int); 9 (int, int)")
	solveIs(t, "[?1, ?2] = [?2, ?3]; [?3, ?4] = [?4, #1]", "1 #1; 2 #1; 3 #1; 4 #1")
	solveIs(t, "t(?1, ?2, ?3) = t([?2, ?2], (?3, ?3), int)", "1 [(int, int), (int, int)]; 2 (int, int); 3 int")
	solveIs(t, "?4 = list(?3); ?3 = list(?2); ?2 = list(?1)", "1 ?1; 2 list(?1); 3 list(list(?1)); 4 list(list(list(?1)))")
}

func TestSolveCircles(t *testing.T) {
	for _, place := range placesOfTypes[1:] {
		inside := strings.ReplaceAll(place, "$", "?1")
		solveIs(t, "?1 = "+inside, "none at 0")
		solveIs(t, "list(?1) = list("+inside+")", "none at 0")
		solveIs(t, "?1 = ?2; ?2 = "+inside, "none at 1")
		solveIs(t, "?2 = "+inside+"; ?3 = ?4; ?3 = ?2; ?4 = ?1; ?1 = int", "none at 3")
		solveIs(t, "?2 = "+inside+"; ?1 = int; ?2 = ?1", "none at 2")
		solveIs(t, "?2 = "+inside+"; ?2 = "+inside+"; ?1 = ?2; ?2 = ?2", "none at 2")
		solveIs(t, "(?2, ?1) = ("+inside+", ?2)", "none at 0")
	}
	for _, text := range []string{
		"(?1, ?2) = (list(?2), list(?1))", "(?1, ?1) = (?2, list(?2))", "[?1, [?1, ?2]] = [?2, [list(?3), ?3]]", "[[?1, ?1], ?1] = [?2, ?2]",
		"list(?1) = ?1", "(list(?1), ?1) = (?2, ?2)", "((?1, ?2), ?2) = (?3, ?3)",
	} {
		solveIs(t, text, "none at 0")
	}
	// A type is tied here to one that stands in it, both being no unknowns.
	solveIs(t, "?1 = list(?2); ?2 = list(?3); ?1 = ?2", "none at 2")
	solveIs(t, "?2 = list(?3); ?1 = list(?2); ?1 = list(list(?2))", "none at 2")
	solveIs(t, "?1 = (?2, ?3); ?2 = (?4, ?5); (?1, int) = (?2, int)", "none at 2")
	// These are none.
	solveIs(t, "?1 = ?1; (?1, ?2) = (?2, ?1); ?2 = ?1", "1 ?1; 2 ?1")
	solveIs(t, "?1 = list(?2); ?3 = list(?1); ?3 = list(list(?2))", "1 list(?2); 2 ?2; 3 list(list(?2))")
	solveIs(t, "(?1, list(?1)) = (?2, list(?2))", "1 ?1; 2 ?1")
}

// Whichever pair comes last closes the circle.
func TestSolveLongCircles(t *testing.T) {
	for _, n := range []int{2, 3, 7, 100} {
		pairs := []impl.Pair{}
		for i := range n {
			pairs = append(pairs, impl.Pair{A: typeMeta(int64(i + 1)), B: typeCon("list", typeMeta(int64((i+1)%n+1)))})
		}
		for first := range n {
			circle := slices.Concat(pairs[first:], pairs[:first])
			solvesTo(t, circle, "none at "+strconv.Itoa(n-1))
			slices.Reverse(circle)
			solvesTo(t, circle, "none at "+strconv.Itoa(n-1))
			if s := impl.Solve(circle[1:]); !s.Ok || len(s.Binds) != n {
				t.Errorf("%d links, one left out: %s", n, solutionShown(s))
			}
		}
	}
}

// orders hands out all orders of a list.
func orders[T any](list []T, each func([]T)) {
	if len(list) == 0 {
		each(nil)
		return
	}
	for i := range list {
		rest := slices.Delete(slices.Clone(list), i, i+1)
		orders(rest, func(behind []T) { each(append([]T{list[i]}, behind...)) })
	}
}

func TestSolveLowestStandsForAll(t *testing.T) {
	for _, text := range []string{"?5 = ?9; ?9 = ?7; ?7 = ?3", "?3 = ?9; ?5 = ?9; ?7 = ?9", "?9 = ?5; ?7 = ?3; (?9, ?3) = (?7, ?5)", "?3 = ?5; ?7 = ?9; ?9 = ?5; ?9 = ?3"} {
		orders(pairsOf(t, text), func(pairs []impl.Pair) {
			for set := range 1 << len(pairs) {
				it := slices.Clone(pairs)
				for i := range it {
					if set>>i&1 == 1 {
						it[i].A, it[i].B = it[i].B, it[i].A
					}
				}
				solvesTo(t, it, "3 ?3; 5 ?3; 7 ?3; 9 ?3")
			}
		})
	}
	orders(pairsOf(t, "?4 = list(?9); ?6 = list(?2); ?6 = ?4; ?8 = ?9"), func(pairs []impl.Pair) {
		solvesTo(t, pairs, "2 ?2; 4 list(?2); 6 list(?2); 8 ?2; 9 ?2")
	})
	solveIs(t, "?9223372036854775807 = ?9223372036854775806; ?4294967297 = ?9223372036854775807", "4294967297 ?4294967297; 9223372036854775806 ?4294967297; 9223372036854775807 ?4294967297")
	solveIs(t, "?1 = ?4294967297", "1 ?1; 4294967297 ?1")
}

func TestSolveBindsRise(t *testing.T) {
	solveIs(t, "(?10, ?9, ?2, ?1) = (?10, ?9, ?2, ?1)", "1 ?1; 2 ?2; 9 ?9; 10 ?10")
	solveIs(t, "?9223372036854775807 = list(?1); ?20 = ?3; ?100 = (?50, ?7)", "1 ?1; 3 ?3; 7 ?7; 20 ?3; 50 ?50; 100 (?50, ?7); 9223372036854775807 list(?1)")
	// An unknown that stands in an unknown's type alone, and TNums of the same number.
	solveIs(t, "?3 = [?8, ?6]", "3 [?8, ?6]; 6 ?6; 8 ?8")
	solveIs(t, "(?1, ?2) = (#2, #1)", "1 #2; 2 #1")
	nums := []int64{math.MaxInt64, 1, 1 << 40, 77, 1<<62 + 1, 2}
	kids := [][]impl.Node{}
	for _, num := range nums {
		kids = append(kids, typeMeta(num))
	}
	s := impl.Solve([]impl.Pair{{A: typeTuple(kids...), B: typeTuple(slices.Repeat([][]impl.Node{typeNum(9)}, len(nums))...)}})
	slices.Sort(nums)
	if len(s.Binds) != len(nums) {
		t.Fatalf("%v", s)
	}
	for i, b := range s.Binds {
		if b.Num != nums[i] || plainShown(b.Type) != "#9" {
			t.Errorf("%d: %v", i, b)
		}
	}
}

func TestSolveAt(t *testing.T) {
	for text, at := range map[string]int{
		"int = string": 0, "int = string; ?1 = int": 0, "int = string; #1 = #2; ?1 = list(?1)": 0, "?1 = int; ?1 = string; ?1 = #1": 1, "?1 = int; ?2 = ?1; ?2 = string": 2,
		"?1 = ?2; ?2 = ?3; ?3 = list(?1); int = string": 2, "?1 = ?2; ?2 = ?3; int = string; ?3 = list(?1)": 2, "?1 = list(?2); ?2 = list(?1); ?1 = int": 1,
		"?1 = list(?1); ?1 = list(?1)": 0, "?1 = int; ?2 = string; ?3 = #1; ?4 = #2; ?1 = ?5; ?5 = ?4": 5, "?1 = int; ?2 = string; ?3 = #1; ?4 = #2; ?3 = ?4; ?1 = ?2": 4,
		"?1 = list(?2); ?3 = list(?4); ?2 = ?3; ?4 = ?1; int = string; #1 = #2": 3, "(?1, ?2) = (?2, list(?1)); int = int": 0,
	} {
		solveIs(t, text, "none at "+strconv.Itoa(at))
		// What stands in front moves it, what stands behind does not.
		solveIs(t, "?50 = ?51; "+text, "none at "+strconv.Itoa(at+1))
		solveIs(t, text+"; ?50 = list(?50)", "none at "+strconv.Itoa(at))
	}
}

func TestSolveAtEachPlace(t *testing.T) {
	right := pairsOf(t, strings.TrimSuffix(strings.Repeat("?1 = ?2; [?3, int] = [list(?1), ?4]; (#1, #2) = (#1, #2); ", 20), "; "))
	for _, text := range []string{"int = string", "?5 = list(?5)", "?4 = ()", "?3 = ?1", "[?3, ?2] = [?2, ?3]", "(?6, ?6, ?5) = (list(?5), ?7, ?7)"} {
		wrong := pairsOf(t, text)
		for at := range right {
			if at < 3 {
				continue
			}
			solvesTo(t, slices.Insert(slices.Clone(right), at, wrong...), "none at "+strconv.Itoa(at))
			solvesTo(t, slices.Concat(right[:at], wrong, wrong, right[at:]), "none at "+strconv.Itoa(at))
		}
		solvesTo(t, append(slices.Clone(right), wrong...), "none at "+strconv.Itoa(len(right)))
	}
}

// What is no type counts more than what is impossible, wherever both stand.
func TestSolveNoTypeAnywhere(t *testing.T) {
	pairs := pairsOf(t, "int = int; int = string; ?1 = ?2; ?1 = list(?1); ?3 = int")
	solvesTo(t, pairs, "none at 1")
	for at := range len(pairs) + 1 {
		for _, bad := range [][]impl.Node{nil, typeMeta(0), typeTuple(typeNum(1)), typeOf(t, "'a"), sized(impl.MaxType+1, typeCon("int"))} {
			solvesTo(t, slices.Insert(slices.Clone(pairs), at, impl.Pair{A: typeMeta(1), B: bad}), "none at -1")
		}
	}
}

func TestSolveLargestPairs(t *testing.T) {
	full := wideOf(impl.MaxType, typeMeta(1))
	pairs := slices.Repeat([]impl.Pair{{A: full, B: full}}, 33)
	// 19800 nodes, and 200 to come.
	rest := func(n int) []impl.Pair {
		return append(slices.Clone(pairs), impl.Pair{A: wideOf(n-1, typeMeta(1)), B: typeMeta(2)})
	}
	count := 0
	for _, p := range rest(200) {
		count += len(p.A) + len(p.B)
	}
	if count != impl.MaxPairNodes {
		t.Fatal("nodes", count)
	}
	solvesTo(t, rest(200), "1 ?1; 2 "+plainShown(wideOf(199, typeMeta(1))))
	solvesTo(t, rest(201), "none at -1")
	for _, n := range []int{199, 200} {
		wrong := append([]impl.Pair{{A: typeNum(1), B: typeNum(2)}}, rest(n-2)...)
		solvesTo(t, wrong, "none at 0")
	}
	solvesTo(t, append([]impl.Pair{{A: typeNum(1), B: typeNum(2)}}, rest(199)...), "none at -1")
	solvesTo(t, append(rest(199), impl.Pair{A: typeNum(1), B: typeNum(2)}), "none at -1")
	small := impl.Pair{A: typeMeta(1), B: typeMeta(2)}
	solvesTo(t, slices.Repeat([]impl.Pair{small}, impl.MaxPairNodes/2), "1 ?1; 2 ?1")
	solvesTo(t, slices.Repeat([]impl.Pair{small}, impl.MaxPairNodes/2+1), "none at -1")
	solvesTo(t, slices.Repeat([]impl.Pair{small}, 10*impl.MaxPairNodes), "none at -1")
}

// Whatever the pairs, a side alone may become as large as it likes.
func TestSolveSidesMayGrow(t *testing.T) {
	large := wideOf(impl.MaxType, typeMeta(1))
	kid := wideOf(impl.MaxType, typeMeta(2))
	solvesTo(t, []impl.Pair{{A: large, B: large}, {A: typeMeta(1), B: kid}}, "1 "+plainShown(kid)+"; 2 ?2")
	solvesTo(t, []impl.Pair{{A: typeMeta(1), B: kid}, {A: large, B: large}, {A: typeMeta(3), B: large}}, "none at -1")
}
