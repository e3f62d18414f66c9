package tests

import (
	"slices"
	"testing"

	"loop.example/s02665/impl"
)

// instanceIs wants Binds, or none for "no".
func instanceIs(t *testing.T, general []impl.Node, special []impl.Node, want string) {
	t.Helper()
	binds, ok := impl.Instance(general, special)
	got := bindsShown(binds)
	if !ok {
		got += "no"
	}
	if got != want {
		t.Errorf("%.300s of %.300s: %.300s, want %.300s", plainShown(special), plainShown(general), got, want)
	}
}

func isInstance(t *testing.T, general string, special string, want string) {
	t.Helper()
	a, b := plainOf(t, general), plainOf(t, special)
	instanceIs(t, a, b, want)
	// The unknowns of special are none of general's, whatever their numbers.
	for _, more := range []int64{1, 2, 1 << 40} {
		raised := want
		if want != "no" {
			binds := bindsOf(t, want)
			for i := range binds {
				binds[i].Type = raisedMetas(binds[i].Type, more)
			}
			raised = bindsShown(binds)
		}
		instanceIs(t, a, raisedMetas(b, more), raised)
	}
}

func raisedMetas(ty []impl.Node, more int64) []impl.Node {
	out := slices.Clone(ty)
	for i, n := range ty {
		if n.Kind == impl.TMeta {
			out[i].Num += more
		}
	}
	return out
}

func TestInstance(t *testing.T) {
	for _, text := range []string{"int", "()", "#1", "[#1, #2]", "list(int)", "?1", "(?1, ?2)", "[?1, ?1]"} {
		isInstance(t, "?1", text, "1 "+text)
		isInstance(t, "(?2, ?2)", "("+text+", "+text+")", "2 "+text)
		isInstance(t, "(?2, ?1)", "("+text+", int)", "1 int; 2 "+text)
		isInstance(t, "[?9, list(?9)]", "["+text+", list("+text+")]", "9 "+text)
	}
	for _, text := range []string{"int", "()", "#1", "#9223372036854775807", "[#1, #2]", "list(int)", "t(int, (#1, ()))"} {
		isInstance(t, text, text, "")
		isInstance(t, text, "?1", "no")
		isInstance(t, "("+text+", ?1)", "("+text+", ?1)", "1 ?1")
	}
	isInstance(t, "[?4, [?2, ?4]]", "[?9, [int, ?9]]", "2 int; 4 ?9")
	isInstance(t, "(?3, ?2, ?1)", "(?1, ?2, ?3)", "1 ?3; 2 ?2; 3 ?1")
	isInstance(t, "(?9223372036854775807, ?1)", "(?5, ?6)", "1 ?6; 9223372036854775807 ?5")
	isInstance(t, "(?1, ?1, ?1)", "(?5, ?5, ?5)", "1 ?5")
	isInstance(t, "(?1, ?2)", "(?2, list(?1))", "1 ?2; 2 list(?1)")
	isInstance(t, "?1", "list(?1)", "1 list(?1)")
	isInstance(t, "(?1, ?2)", "(list(?1), (?2, ?1))", "1 list(?1); 2 (?2, ?1)")
	isInstance(t, "[?1, ?2]", "[?2, ?1]", "1 ?2; 2 ?1")
}

func TestInstanceNone(t *testing.T) {
	for _, pair := range [][2]string{
		{"int", "string"}, {"#1", "#2"}, {"#1", "int"}, {"#1", "?1"}, {"()", "(int, int)"}, {"(?1, ?2)", "(int, int, int)"}, {"(?1, ?2)", "[int, int]"}, {"t(?1)", "u(int)"},
		{"t(?1)", "t(int, int)"}, {"t(?1)", "t"}, {"t", "t(?1)"}, {"[?1, ?1]", "[int, string]"}, {"[?1, ?1]", "[?1, int]"}, {"[?1, ?1]", "[int, ?1]"}, {"[?1, ?1]", "[?1, ?2]"},
		{"(?1, ?1)", "(list(int), list(string))"}, {"(?1, ?1)", "(list(?1), list(?2))"}, {"(?1, ?1)", "(list(?1), ?1)"}, {"(?1, ?1)", "(list(?1), list(list(?1)))"},
		{"(?1, ?2, ?1)", "(int, int, string)"}, {"list(?1)", "?1"}, {"list(?1)", "?2"}, {"list(list(?1))", "list(?1)"}, {"(?1, list(?1))", "(?1, ?1)"}, {"(?1, list(?1))", "(list(?1), ?1)"},
		{"[?1, list(?1)]", "[list(?2), list(?2)]"}, {"(?1, ?2, (?1, ?2))", "(?1, ?2, (?2, ?1))"}, {"(int, ?1)", "(?1, ?1)"}, {"(?1, int)", "(int, ?1)"},
		// general is larger than special
		{"((?1, ?2), ?3)", "(?1, ?2)"}, {"t(t(t(t(?1))))", "t(t(t(int)))"}, {"[[int, int], int]", "[int, int]"}, {"(int, int)", "?7"},
	} {
		isInstance(t, pair[0], pair[1], "no")
	}
}

func TestInstanceLimits(t *testing.T) {
	deep, wide := sized(impl.MaxType, typeMeta(7)), wideOf(impl.MaxType, typeMeta(7))
	for _, ty := range [][]impl.Node{deep, wide} {
		instanceIs(t, typeMeta(3), ty, "3 "+plainShown(ty))
		instanceIs(t, ty, ty, "7 ?7")
		instanceIs(t, ty, typeMeta(7), "no")
	}
	instanceIs(t, sized(impl.MaxType-5, typeMeta(2)), deep, "2 "+plainShown(sized(6, typeMeta(7))))
	instanceIs(t, sized(150, typeMeta(7)), deep, "7 "+plainShown(sized(151, typeMeta(7))))
	changed := slices.Clone(wide)
	changed[298].Num = 8
	instanceIs(t, wide, changed, "no")
	instanceIs(t, changed, wide, "7 ?7; 8 ?7")
	// As many unknowns as can be, from the last to the first.
	kids := [][]impl.Node{}
	for i := range impl.MaxType - 1 {
		kids = append(kids, typeMeta(int64(1000-i)))
	}
	binds, ok := impl.Instance(typeTuple(kids...), typeTuple(slices.Repeat([][]impl.Node{typeMeta(1000)}, len(kids))...))
	if !ok || len(binds) != len(kids) {
		t.Fatalf("%d Binds", len(binds))
	}
	for i, b := range binds {
		if b.Num != int64(1000-298+i) || plainShown(b.Type) != "?1000" {
			t.Errorf("%d: %v", i, b)
		}
	}
}

// meetsTo wants the same both ways round, and whatever the numbers of either side are.
func meetsTo(t *testing.T, a []impl.Node, b []impl.Node, want string) {
	t.Helper()
	for _, more := range []int64{0, 1, 1 << 62} {
		for _, two := range [][2][]impl.Node{{a, raisedMetas(b, more)}, {raisedMetas(b, more), a}, {b, raisedMetas(a, more)}, {raisedMetas(a, more), b}} {
			met, ok := impl.Meet(two[0], two[1])
			if ok != (len(met) > 0) || plainShown(met) != want {
				t.Errorf("%.300s and %.300s: %.300s %v, want %.300s", plainShown(two[0]), plainShown(two[1]), plainShown(met), ok, want)
			}
		}
	}
}

func meetIs(t *testing.T, a string, b string, want string) {
	t.Helper()
	meetsTo(t, plainOf(t, a), plainOf(t, b), want)
}

func TestMeet(t *testing.T) {
	for _, text := range []string{"int", "()", "#1", "[#1, #2]", "list(int)", "?1", "(?1, ?2)", "[?1, ?1]", "(?1, [?2, list(?1)], ?3)"} {
		meetIs(t, text, text, text)
		meetIs(t, text, "?1", text)
		meetIs(t, text, "?5", text)
		meetIs(t, "list("+text+")", "list(?1)", "list("+text+")")
	}
	meetIs(t, "[?7, [?3, ?7]]", "[?7, [?3, ?7]]", "[?1, [?2, ?1]]")
	meetIs(t, "[?1, list(?2)]", "[?2, ?1]", "[?1, list(?2)]")
	meetIs(t, "[?1, ?1]", "[list(?1), ?4]", "[list(?1), list(?1)]")
	meetIs(t, "(?1, ?2)", "(?1, ?1)", "(?1, ?1)")
	meetIs(t, "(?1, ?2)", "(?2, ?1)", "(?1, ?2)")
	meetIs(t, "(?1, ?1, ?2)", "(?1, ?2, ?2)", "(?1, ?1, ?1)")
	meetIs(t, "(?1, int)", "(string, ?1)", "(string, int)")
	meetIs(t, "(?1, ?1, ?2, ?2)", "(?3, (?4, int), ?4, ?5)", "((?1, int), (?1, int), ?1, ?1)")
	meetIs(t, "t(?5, ?5)", "t([?1, ?2], [?2, ?3])", "t([?1, ?1], [?1, ?1])")
	meetIs(t, "(?2, #1)", "(#2, ?2)", "(#2, #1)")
	// The same numbers on both sides have nothing to do with each other.
	meetIs(t, "?1", "list(?1)", "list(?1)")
	meetIs(t, "(?1, ?2)", "(list(?2), list(?1))", "(list(?1), list(?2))")
	meetIs(t, "(?1, int)", "(?2, ?1)", "(?1, int)")
	meetIs(t, "[?1, ?2]", "[[?2, ?1], ?1]", "[[?1, ?2], ?2]")
	meetIs(t, "((?1, ?1), ?2)", "(?1, [?1, ?1])", "((?1, ?1), [(?1, ?1), (?1, ?1)])")
	// One is an instance of the other.
	meetIs(t, "[?1, ?2]", "[?4, [?4, int]]", "[?1, [?1, int]]")
	meetIs(t, "(?3, list(?3), ?2)", "(int, list(int), #1)", "(int, list(int), #1)")
}

func TestMeetNone(t *testing.T) {
	for _, pair := range [][2]string{
		{"int", "string"}, {"#1", "#2"}, {"#1", "int"}, {"()", "(?1, ?2)"}, {"(?1, ?2)", "(?1, ?2, ?3)"}, {"(?1, ?2)", "[?1, ?2]"}, {"t(?1)", "u(?1)"}, {"t(?1)", "t(?1, ?2)"},
		{"[?1, ?1]", "[int, string]"}, {"[?1, ?1]", "[?1, list(?1)]"}, {"(?1, ?1, ?2, ?2)", "(?1, ?2, list(?1), ?2)"}, {"(?1, list(?1))", "(?2, ?2)"},
		{"t(?1, [?1, int])", "t(list(?1), [?2, ?2])"},
	} {
		meetIs(t, pair[0], pair[1], "nothing")
	}
}

func TestMeetLimits(t *testing.T) {
	for _, n := range []int{impl.MaxType - 1, impl.MaxType} {
		for _, ty := range [][]impl.Node{sized(n, typeMeta(1)), wideOf(n, typeMeta(1))} {
			meetsTo(t, ty, ty, plainShown(ty))
			meetsTo(t, ty, typeMeta(9), plainShown(ty))
		}
	}
	// Neither is too large, but what they meet in may be.
	for n, fits := range map[int]bool{149: true, 150: false, 298: false} {
		b := typeTuple(typeMeta(1), sized(n, typeNum(1)))
		want := plainShown(typeTuple(sized(n, typeNum(1)), sized(n, typeNum(1))))
		if !fits {
			want = "nothing"
		}
		meetsTo(t, typeTuple(typeMeta(1), typeMeta(1)), b, want)
	}
	for n, nodes := range map[int]int{3: 37, 4: 83, 5: 177, 6: 0, 7: 0, 70: 0} {
		double, single := doubledSides(n)
		for _, two := range [][2][]impl.Node{{double, single}, {single, double}} {
			if met, ok := impl.Meet(two[0], two[1]); ok != (nodes > 0) || len(met) != nodes {
				t.Errorf("%d links: %d nodes, %v", n, len(met), ok)
			}
		}
	}
}

// doubledSides are (x1, (x1, x1), x2, (x2, x2), ..) and (y0, y1, y1, y2, y2, ..): each is a tuple of
// the one before it twice.
func doubledSides(n int) ([]impl.Node, []impl.Node) {
	double, single := [][]impl.Node{}, [][]impl.Node{}
	for i := range int64(n) {
		x := typeMeta(i + 1)
		double = append(double, x, typeTuple(x, x))
		single = append(single, typeMeta(i+1), typeMeta(i+2))
	}
	return typeTuple(double...), typeTuple(single...)
}

func TestMeetDoubling(t *testing.T) {
	for n, want := range map[int]string{
		1: "(?1, (?1, ?1))", 2: "(?1, (?1, ?1), (?1, ?1), ((?1, ?1), (?1, ?1)))",
	} {
		double, single := doubledSides(n)
		meetsTo(t, double, single, want)
	}
	for _, n := range []int{8, 30, 70} {
		double, single := doubledSides(n)
		soon(t, "doubling", func() { meetsTo(t, double, single, "nothing") })
		kids := impl.Kids(single)
		kids[0] = typeTuple(kids[len(kids)-1], typeNum(1))
		soon(t, "a circle", func() { meetsTo(t, double, typeTuple(kids...), "nothing") })
	}
}
