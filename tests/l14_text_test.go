package tests

import (
	"math"
	"math/rand"
	"slices"
	"strconv"
	"strings"
	"testing"

	"loop.example/s02665/impl"
)

// textIs wants the text of a type, and that it is told again so.
func textIs(t *testing.T, ty []impl.Node, want string) {
	t.Helper()
	if got := impl.TypeText(ty); got != want || typeTextAgain(ty) != want {
		t.Errorf("%.300s: %.300q, told again %.300q, want %.300q", plainShown(ty), got, typeTextAgain(ty), want)
	}
}

func TestTypeTextKinds(t *testing.T) {
	for text, want := range map[string]string{
		"int": "int", "list(int)": "int list", "()": "unit", "?1": "'a", "#1": "'t1", "[int, int]": "int -> int", "(int, int)": "int * int", "t(int, int)": "(int, int) t", "t(int, ?1, #2)": "(int, 'a, 't2) t",
		// Arrows.
		"[?1, [?2, ?3]]": "'a -> 'b -> 'c", "[[?1, ?2], ?3]": "('a -> 'b) -> 'c", "([?1, ?2], ?3)": "('a -> 'b) * 'c", "(?1, [?2, ?3])": "'a * ('b -> 'c)", "list([?1, ?2])": "('a -> 'b) list", "t([?1, ?2], [?2, ?1])": "('a -> 'b, 'b -> 'a) t", "[[[?1, ?2], ?3], ?4]": "(('a -> 'b) -> 'c) -> 'd",
		// Tuples.
		"[(?1, ?2), ?3]": "'a * 'b -> 'c", "[?1, (?2, ?3)]": "'a -> 'b * 'c", "((?1, ?2), ?3)": "('a * 'b) * 'c", "(?1, (?2, ?3))": "'a * ('b * 'c)", "(?1, ?2, ?3)": "'a * 'b * 'c", "list((?1, ?2))": "('a * 'b) list", "t((?1, ?2), ?3)": "('a * 'b, 'c) t",
		// Types with arguments, and unit.
		"list(list(?1))": "'a list list", "[list(?1), list(?1)]": "'a list -> 'a list", "(list(?1), t(?1, ?2))": "'a list * ('a, 'b) t", "list(t(?1, ?2))": "('a, 'b) t list", "t(list(?1), ref(?2))": "('a list, 'b ref) t", "((), ())": "unit * unit", "[(), ()]": "unit -> unit", "list(())": "unit list", "t((), ())": "(unit, unit) t",
		"ref([(list(?1), ()), t(?1)])": "('a list * unit -> 'a t) ref",
	} {
		textIs(t, plainOf(t, text), want)
	}
}

func TestTypeTextVariables(t *testing.T) {
	for num, want := range map[int64]string{
		1: "'a", 2: "'b", 25: "'y", 26: "'z", 27: "'a1", 28: "'b1", 52: "'z1", 53: "'a2", 78: "'z2", 79: "'a3", 26*10 + 1: "'a10", 26 * 11: "'z10", 26*99 + 20: "'t99", 26*100 + 1: "'a100", 1000000: "'n38461",
		math.MaxInt64: "'g354745078340568300", math.MaxInt64 - 26: "'g354745078340568299",
	} {
		textIs(t, typeMeta(num), want)
		textIs(t, typeArrow(typeMeta(num), typeMeta(num)), want+" -> "+want)
		textIs(t, typeNum(num), "'t"+strconv.FormatInt(num, 10))
		textIs(t, typeCon("list", typeNum(num)), "'t"+strconv.FormatInt(num, 10)+" list")
	}
	// Each number has another name.
	names := map[string]int64{}
	for num := int64(1); num < 3000; num++ {
		name := impl.TypeText(typeMeta(num))
		if names[name] != 0 || name != toldVar(num) {
			t.Fatalf("%d and %d: %s", names[name], num, name)
		}
		names[name] = num
	}
	for _, num := range []int64{0, -1, -26, math.MinInt64} {
		textIs(t, typeMeta(num), "")
		textIs(t, typeNum(num), "")
		textIs(t, typeTuple(typeCon("int"), typeMeta(num)), "")
	}
	// Names count from what stands there: nobody numbers them anew.
	textIs(t, typeTuple(typeMeta(3), typeMeta(1), typeMeta(3)), "'c * 'a * 'c")
}

func TestTypeTextNames(t *testing.T) {
	for _, name := range append(oddTexts(), strings.Repeat("s", impl.MaxSource)) {
		want := ""
		if textFits(impl.TCon, name) {
			want = name
		}
		textIs(t, typeCon(name), want)
		if want != "" {
			want = "int -> int " + name
		}
		textIs(t, typeArrow(typeCon("int"), typeCon(name, typeCon("int"))), want)
	}
	// What is too long for a source is no Name.
	if got := impl.TypeText(typeCon(strings.Repeat("s", impl.MaxSource+1))); got != "" {
		t.Errorf("%d bytes", len(got))
	}
	for _, name := range []string{"unit", "A", "", "true", "false", "nil", "'a", "1", "fn", "t ", "x y", "::"} {
		textIs(t, typeCon(name), "")
		textIs(t, typeTuple(typeCon(name), typeCon("int")), "")
		textIs(t, typeCon("list", typeCon(name)), "")
		textIs(t, typeCon(name, typeCon("int")), "")
	}
}

// What is no type of chapter 8.
func TestTypeTextArguments(t *testing.T) {
	for _, list := range badLists() {
		textIs(t, list, "")
	}
	one := typeCon("int")
	for name, list := range map[string][]impl.Node{
		"nothing": nil, "a scheme": {node(impl.TNum, 1, "", 0), node(impl.TAll, 1, "", 1)}, "a TVar": made(impl.TVar, 0, "a"), "a TVar inside": typeCon("list", made(impl.TVar, 0, "a")), "an exp": unplaced(impl.EInt, 1, ""), "code": unplaced(impl.CInt, 1, ""),
		"a place": {{Kind: impl.TCon, Text: "int", At: 3}}, "a number": {node(impl.TCon, 1, "int", 0)}, "a tuple of one": {one[0], node(impl.TTuple, 0, "", 1)}, "an arrow of one": {one[0], node(impl.TArrow, 0, "", 1)}, "an arrow of three": {one[0], one[0], one[0], node(impl.TArrow, 0, "", 3)},
		"an arrow of nothing": {node(impl.TArrow, 0, "", 0)}, "a tuple with a text": {node(impl.TTuple, 0, "x", 0)}, "an unknown with a text": {node(impl.TMeta, 1, "x", 0)}, "an unknown with a kid": {one[0], node(impl.TMeta, 1, "", 1)}, "a variable with a kid": {one[0], node(impl.TNum, 1, "", 1)},
		"two types": {one[0], one[0]}, "a kid is missing": {one[0], node(impl.TArrow, 0, "", 2)}, "no kind": {{}}, "a kind that there is not": {node(63, 0, "", 0)},
	} {
		if got := impl.TypeText(list); got != "" {
			t.Errorf("%s: %q", name, got)
		}
	}
}

// Both limits: nodes, and how deep (which no type of so few nodes passes).
func TestTypeTextLimits(t *testing.T) {
	int1 := typeCon("int")
	textIs(t, sized(impl.MaxType, int1), "int"+strings.Repeat(" t", impl.MaxType-1))
	textIs(t, sized(impl.MaxType+1, int1), "")
	textIs(t, sized(impl.MaxDeep+1, int1), "")
	textIs(t, wideOf(impl.MaxType, typeMeta(2)), "("+strings.Repeat("'b, ", impl.MaxType-2)+"'b) w")
	textIs(t, wideOf(impl.MaxType+1, typeMeta(2)), "")
	arrows := func(n int) []impl.Node {
		return slices.Concat(slices.Repeat(typeMeta(1), n+1), slices.Repeat([]impl.Node{node(impl.TArrow, 0, "", 2)}, n))
	}
	textIs(t, arrows(149), strings.Repeat("'a -> ", 149)+"'a")
	textIs(t, arrows(150), "")
	left := typeMeta(1)
	for range 149 {
		left = typeArrow(left, typeMeta(1))
	}
	textIs(t, left, strings.Repeat("(", 148)+"'a -> 'a"+strings.Repeat(") -> 'a", 148))
	if impl.MaxType > impl.MaxDeep {
		t.Error("a type may be too deep, and nothing asks for it")
	}
}

// Types that are made up; those without TNums are read back where they stand in a program.
func TestTypeTextMadeUp(t *testing.T) {
	e, written := equater{rand.New(rand.NewSource(14))}, 0
	for i := range 3000 {
		ty := e.typ(1+i%6, e.anyNumbers(1+i%7))
		if i%11 == 0 {
			ty[0].Text = e.odd()
		}
		text := typeTextAgain(ty)
		textIs(t, ty, text)
		isNum := func(n impl.Node) bool { return n.Kind == impl.TNum }
		if text == "" || slices.ContainsFunc(ty, isNum) {
			continue
		}
		back := typeOf(t, text)
		for at := range back {
			if back[at].Kind == impl.TVar {
				back[at] = impl.Node{Kind: impl.TMeta, Num: ty[at].Num}
			}
			back[at].At = 0
		}
		if written++; !slices.Equal(back, ty) {
			t.Fatalf("%s is read back as %s", text, plainShown(back))
		}
	}
	if written < 1000 {
		t.Errorf("%d were read back", written)
	}
}

// odd is a text for a TCon, a Name most of the time.
func (e equater) odd() string {
	return []string{"t", "u'", "int", "unit", "A", "_x", "nil"}[e.rnd.Intn(7)]
}

func placeIs(t *testing.T, src string, at int, line int, col int) {
	t.Helper()
	gotLine, gotCol := impl.Place(src, at)
	wantLine, wantCol := placeAgain(src, at)
	if gotLine != line || gotCol != col || wantLine != line || wantCol != col {
		t.Errorf("%q at %d: %d:%d, told again %d:%d, want %d:%d", src, at, gotLine, gotCol, wantLine, wantCol, line, col)
	}
}

func TestPlace(t *testing.T) {
	for _, c := range []struct {
		src           string
		at, line, col int
	}{
		{"", 0, 1, 1}, {"", 1, 0, 0}, {"", -1, 0, 0}, {"abc", 0, 1, 1}, {"abc", 2, 1, 3}, {"abc", 3, 1, 4}, {"abc", 4, 0, 0}, {"abc", -1, 0, 0}, {"abc", math.MaxInt, 0, 0}, {"abc", math.MinInt, 0, 0},
		// Newlines belong to the lines that they end.
		{"ab\ncd\n", 2, 1, 3}, {"ab\ncd\n", 3, 2, 1}, {"ab\ncd\n", 4, 2, 2}, {"ab\ncd\n", 5, 2, 3}, {"ab\ncd\n", 6, 3, 1}, {"ab\ncd\n", 7, 0, 0}, {"\n", 0, 1, 1}, {"\n", 1, 2, 1}, {"\n\n\n", 2, 3, 1}, {"\n\n\n", 3, 4, 1}, {"\n\na", 2, 3, 1}, {"\n\na", 3, 3, 2},
		// Nothing else ends a line; columns are bytes.
		{"a\r\nb", 1, 1, 2}, {"a\r\nb", 2, 1, 3}, {"a\r\nb", 3, 2, 1}, {"a\rb", 2, 1, 3}, {"a\tb", 2, 1, 3}, {"\x00\xff\x0b\x0c\u2028x", 4, 1, 5}, {"\u2028x", 3, 1, 4}, {"é\né", 2, 1, 3}, {"é\né", 1, 1, 2}, {"é\né", 5, 2, 3}, {"\x85\n", 1, 1, 2},
	} {
		placeIs(t, c.src, c.at, c.line, c.col)
	}
	rnd := rand.New(rand.NewSource(2))
	for range 500 {
		src := make([]byte, rnd.Intn(30))
		for i := range src {
			src[i] = []byte("\n\n\nab \r\t\x00\xff")[rnd.Intn(10)]
		}
		for at := -2; at <= len(src)+2; at++ {
			line, col := placeAgain(string(src), at)
			placeIs(t, string(src), at, line, col)
		}
	}
}
