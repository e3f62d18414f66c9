package tests

import (
	"strconv"
	"strings"
	"testing"

	"loop.example/s02665/impl"
)

func appliedCon(name string, arg string) string {
	return `CApp(CCon "` + name + `", ` + arg + `)`
}

// listOf is the code of a list that ends with something.
func listOf(end string, parts ...string) string {
	out := end
	for i := range parts {
		out = appliedCon("::", "CTuple("+parts[len(parts)-1-i]+", "+out+")")
	}
	return out
}

const nilCode = `CCon "nil"`

func TestShowNumbersAndTexts(t *testing.T) {
	for code, want := range map[string]string{
		"CInt 0": "0", "CInt -1": "~1", "CInt 9223372036854775807": "9223372036854775807", "CInt -9223372036854775808": "~9223372036854775808",
		`CStr ""`: `""`, `CStr "a b ~"`: `"a b ~"`, `CStr "\n\t\\\""`: `"\n\t\\\""`, `CStr "\x00\x1f\x7f\x80\xff\r"`: `"\000\031\127\128\255\013"`, `CStr "é"`: `"\195\169"`, `CStr "'(*"`: `"'(*"`,
		"CLam 1(CVar 1)": "fn", "CGiven -1": "fn", "CApp(CGiven -8, CInt 1)": "ref", "CApp(CGiven -8, CApp(CGiven -8, CLam 1(CVar 1)))": "ref", "CTuple": "()",
		"CTuple(CInt -1, CStr \"\", CTuple(CInt 2, CTuple))": `(~1, "", (2, ()))`,
	} {
		valueOf(t, code, want)
	}
	all := make([]byte, 256)
	for b := range all {
		all[b] = byte(b)
	}
	c := unplaced(impl.CStr, 0, string(all))
	if got := checkRun(t, c, 5); got.Text != impl.Spell(impl.Token{Kind: impl.TokStr, Text: string(all)}) {
		t.Errorf("every byte: %s", got.Text)
	}
}

func TestShowConstructors(t *testing.T) {
	for code, want := range map[string]string{
		`CCon "A"`: "A", appliedCon("A", "CInt 1"): "A 1", appliedCon("A", "CInt -1"): "A (~1)", appliedCon("A", "CInt 0"): "A 0", appliedCon("A", `CStr "-"`): `A "-"`, appliedCon("A", "CTuple"): "A ()", appliedCon("A", "CTuple(CInt -1, CInt 2)"): "A (~1, 2)",
		appliedCon("A", `CCon "B"`): "A B", appliedCon("A", appliedCon("B", "CInt 1")): "A (B 1)", appliedCon("A", appliedCon("B", appliedCon("C", "CInt -1"))): "A (B (C (~1)))", appliedCon("A", "CLam 1(CVar 1)"): "A fn", appliedCon("A", "CApp(CGiven -8, CInt -1)"): "A ref",
		appliedCon("A", nilCode): "A []", appliedCon("A", listOf(nilCode, "CInt -1")): "A [~1]", appliedCon("A", listOf("CInt 5", "CInt 1")): "A (op :: (1, 5))", appliedCon("A", `CCon "::"`): "A op ::",
		appliedCon("true", "CInt 1"): "true 1", "CTuple(" + appliedCon("A", "CInt 1") + ", CInt -1)": "(A 1, ~1)",
	} {
		valueOf(t, code, want)
		valueOf(t, "CTuple("+code+", CInt 1)", "("+want+", 1)")
		valueOf(t, listOf(nilCode, code, code), "["+want+", "+want+"]")
	}
	// Names as they are, whatever they are.
	for _, name := range []string{"", "a b", "op", "(", "\xff"} {
		c := unplaced(impl.CApp, 0, "", unplaced(impl.CCon, 0, name), unplaced(impl.CInt, -1, ""))
		if got := checkRun(t, c, 9); got.Text != name+" (~1)" {
			t.Errorf("%q: %s", name, got.Text)
		}
	}
	// What is raised is shown in the same way.
	raisesText(t, "CRaise("+appliedCon("A", appliedCon("B", "CInt -1"))+")", "A (B (~1))", 6)
	raisesText(t, "CRaise("+listOf("CInt 5", "CInt 1")+")", "op :: (1, 5)", 6)
	raisesText(t, "CRaise("+nilCode+")", "[]", 2)
}

func TestShowLists(t *testing.T) {
	for code, want := range map[string]string{
		nilCode: "[]", listOf(nilCode, "CInt 1"): "[1]", listOf(nilCode, "CInt 1", "CInt -2", "CInt 3"): "[1, ~2, 3]", listOf(nilCode, nilCode): "[[]]", listOf(nilCode, listOf(nilCode, "CInt 1"), nilCode, listOf(nilCode, nilCode)): "[[1], [], [[]]]",
		listOf(nilCode, "CTuple(CInt 1, "+nilCode+")"): "[(1, [])]", listOf(nilCode, appliedCon("A", "CInt -1")): "[A (~1)]", "CTuple(" + nilCode + ", " + nilCode + ")": "([], [])",
		// Without nil at the end there is no list, from the front to the back.
		listOf("CInt 9", "CInt 1", "CInt 2"): "op :: (1, op :: (2, 9))", listOf(`CCon "A"`, "CInt 1"): "op :: (1, A)", listOf("CTuple", "CInt 1"): "op :: (1, ())", listOf(appliedCon("nil", "CInt 3"), "CInt 1"): "op :: (1, nil 3)", listOf(`CCon "::"`, "CInt 1"): "op :: (1, op ::)",
		listOf(appliedCon("::", "CInt 3"), "CInt 1", "CInt 2"): "op :: (1, op :: (2, op :: 3))", listOf("CLam 1(CVar 1)", "CInt 1"): "op :: (1, fn)", listOf("CApp(CGiven -8, "+nilCode+")", "CInt 1"): "op :: (1, ref)", listOf(appliedCon("A", nilCode), "CInt 1"): "op :: (1, A [])",
		listOf("CInt 9", listOf(nilCode, "CInt 1"), listOf("CInt 8", "CInt 2")): "op :: ([1], op :: (op :: (2, 8), 9))",
		// A :: by itself, and with what is no tuple of two.
		`CCon "::"`: "op ::", appliedCon("::", "CInt 1"): "op :: 1", appliedCon("::", "CInt -1"): "op :: (~1)", appliedCon("::", "CTuple"): "op :: ()", appliedCon("::", "CTuple(CInt 1, "+nilCode+", "+nilCode+")"): "op :: (1, [], [])", appliedCon("::", nilCode): "op :: []",
		appliedCon("::", appliedCon("::", "CTuple(CInt 1, "+nilCode+")")): "op :: [1]", appliedCon("::", listOf("CInt 2", "CInt 1")): "op :: (op :: (1, 2))",
		appliedCon("nil", "CInt 1"): "nil 1", appliedCon("nil", nilCode): "nil []", appliedCon("nil", appliedCon("nil", "CTuple")): "nil (nil ())",
	} {
		valueOf(t, code, want)
	}
}

// ahead is a tuple of so many numbers, and then something.
func behindNumbers(n int, code string) string {
	return "CTuple(" + strings.Repeat("CInt 1, ", n) + code + ")"
}

// At each place where "..." can stand: the tuple counts 1 and so do the numbers, so what is behind
// them begins at MaxShow, or one or two before.
func TestShowMost(t *testing.T) {
	list := func(parts ...string) string { return listOf(nilCode, parts...) }
	for _, c := range []struct{ code, last, first, second string }{
		{"CInt 7", "...", "7", "7"}, {"CInt -7", "...", "~7", "~7"}, {`CStr "s"`, "...", `"s"`, `"s"`}, {"CTuple", "...", "()", "()"}, {`CCon "A"`, "...", "A", "A"}, {"CGiven -1", "...", "fn", "fn"}, {"CApp(CGiven -8, CInt 1)", "...", "ref", "ref"}, {nilCode, "...", "[]", "[]"}, {`CCon "::"`, "...", "op ::", "op ::"},
		{"CTuple(CInt 7, CInt 8)", "...", "(..., ...)", "(7, ...)"}, {"CTuple(CTuple, CInt 8, CInt 9)", "...", "(..., ..., ...)", "((), ..., ...)"}, {"CTuple(CTuple(CInt 1, CInt 2), CInt 8)", "...", "(..., ...)", "((..., ...), ...)"},
		{list("CInt 7", "CInt 8"), "...", "[..., ...]", "[7, ...]"}, {list(list("CInt 7"), nilCode), "...", "[..., ...]", "[[...], ...]"}, {list("CTuple(CInt 1, CInt 2)"), "...", "[...]", "[(..., ...)]"},
		{appliedCon("A", "CInt 7"), "...", "A ...", "A 7"}, {appliedCon("A", "CInt -7"), "...", "A (...)", "A (~7)"}, {appliedCon("A", `CCon "B"`), "...", "A ...", "A B"}, {appliedCon("A", appliedCon("B", "CInt 7")), "...", "A (...)", "A (B ...)"}, {appliedCon("A", appliedCon("B", "CInt -7")), "...", "A (...)", "A (B (...))"},
		{appliedCon("A", "CTuple(CInt 7, CInt 8)"), "...", "A ...", "A (..., ...)"}, {appliedCon("A", list("CInt 7")), "...", "A ...", "A [...]"}, {appliedCon("A", nilCode), "...", "A ...", "A []"}, {appliedCon("A", listOf("CInt 2", "CInt 1")), "...", "A (...)", "A (op :: ...)"},
		{appliedCon("::", "CInt 7"), "...", "op :: ...", "op :: 7"}, {listOf("CInt 9", "CInt 1"), "...", "op :: ...", "op :: (..., ...)"}, {appliedCon("A", `CCon "::"`), "...", "A ...", "A op ::"}, {appliedCon("A", "CLam 1(CVar 1)"), "...", "A ...", "A fn"},
	} {
		for n, want := range map[int]string{impl.MaxShow - 1: c.last, impl.MaxShow - 2: c.first, impl.MaxShow - 3: c.second} {
			valueOf(t, behindNumbers(n, c.code), "("+strings.Repeat("1, ", n)+want+")")
			// Behind that nothing more, unless it still fits.
			behind := "..."
			if n == impl.MaxShow-3 && !strings.Contains(want, " ") && !strings.Contains(want, ".") {
				behind = "5"
			}
			if n == impl.MaxShow-3 && isOneOf(c.code, nilCode, `CCon "::"`) {
				behind = "5"
			}
			valueOf(t, behindNumbers(n, c.code+", CInt 5, CInt 6"), "("+strings.Repeat("1, ", n)+want+", "+behind+", ...)")
		}
	}
}

func TestShowMostParts(t *testing.T) {
	max := impl.MaxShow
	for _, n := range []int{max - 2, max - 1, max, max + 1, 2 * max} {
		shown := []string{}
		for i := range n {
			if i < max-1 {
				shown = append(shown, strconv.Itoa(i))
			} else {
				shown = append(shown, "...")
			}
		}
		codes := []string{}
		for i := range n {
			codes = append(codes, "CInt "+strconv.Itoa(i))
		}
		inside := strings.Join(shown, ", ")
		valueOf(t, "CTuple("+strings.Join(codes, ", ")+")", "("+inside+")")
		valueOf(t, listOf(nilCode, codes...), "["+inside+"]")
		// Constructors inside one another: each counts, and Z too.
		deep := min(n, max)
		code := strings.Repeat(`CApp(CCon "S", `, n) + `CCon "Z"` + strings.Repeat(")", n)
		want := strings.Repeat("S (", deep-1) + "S Z" + strings.Repeat(")", deep-1)
		if n == max {
			want = strings.Replace(want, "Z", "...", 1)
		} else if n > max {
			want = strings.Replace(want, "Z", "(...)", 1)
		}
		valueOf(t, code, want)
		// Tuples inside one another: the tuple and the number in front of it.
		code = strings.Repeat("CTuple(CInt 1, ", n) + "CTuple" + strings.Repeat(")", n)
		want = strings.Repeat("(1, ", max/2) + "..." + strings.Repeat(")", max/2)
		valueOf(t, code, want)
		// Lists inside one another.
		code = strings.Repeat(`CApp(CCon "::", CTuple(`, n) + nilCode + strings.Repeat(", "+nilCode+"))", n)
		want = strings.Repeat("[", deep) + "[]" + strings.Repeat("]", deep)
		if n >= max {
			want = strings.Repeat("[", max) + "..." + strings.Repeat("]", max)
		}
		valueOf(t, code, want)
		// What is no list: each :: counts, each tuple, and each number.
		code = listOf("CInt 9", codes...)
		want, left := "op :: (0, ", max-3
		for i := 1; left >= 3; i++ {
			want += "op :: (" + strconv.Itoa(i) + ", "
			left -= 3
		}
		want += "..." + strings.Repeat(")", max/3)
		if max%3 != 0 {
			t.Fatal("MaxShow is told by three")
		}
		valueOf(t, code, want)
	}
}

// Lists of lists: the parts count, and of the lists inside each itself.
func TestShowListsOfLists(t *testing.T) {
	ten := listOf(nilCode, strings.Split(strings.Repeat("CInt 1,", 9)+"CInt 1", ",")...)
	lists := []string{}
	for range 40 {
		lists = append(lists, ten)
	}
	// 1, then 11 each: 27 of them whole, and of the next one itself and one part.
	parts := []string{}
	for i := range 40 {
		switch {
		case i < 27:
			parts = append(parts, "["+strings.Repeat("1, ", 9)+"1]")
		case i == 27:
			parts = append(parts, "[1"+strings.Repeat(", ...", 9)+"]")
		default:
			parts = append(parts, "...")
		}
	}
	valueOf(t, listOf(nilCode, lists...), "["+strings.Join(parts, ", ")+"]")
}
