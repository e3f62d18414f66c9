package tests

import (
	"math"
	"math/big"
	"strconv"
	"strings"
	"testing"

	"loop.example/s02665/impl"
)

// oneOfEach has a value of each kind, with what evaluating it uses.
func oneOfEach() map[string]int {
	return map[string]int{
		"CInt 1": 1, `CStr "a"`: 1, "CTuple": 1, "CTuple(CInt 1, CInt 2)": 3, "CTuple(CStr \"a\", CInt 0)": 3, "CTuple(CStr \"a\", CInt 0, CInt 1)": 4, `CCon "A"`: 1, `CCon "true"`: 1, `CApp(CCon "A", CInt 1)`: 3, `CApp(CCon "true", CTuple)`: 3,
		"CLam 1(CVar 1)": 1, "CGiven -1": 1, "CApp(CGiven -8, CInt 1)": 3,
	}
}

// What each given function takes: all else is stuck.
func TestRunGivenKinds(t *testing.T) {
	takes := map[int][]string{
		-1: {`CStr "a"`}, -2: {`CStr "a"`}, -3: {`CTuple(CStr "a", CInt 0)`}, -4: {`CTuple(CStr "a", CInt 0, CInt 1)`}, -5: {"CInt 1"}, -6: {"CInt 1"}, -7: {`CCon "true"`},
	}
	for num := -8; num <= -1; num++ {
		for c, used := range oneOfEach() {
			code := "CApp(CGiven " + strconv.Itoa(num) + ", " + c + ")"
			if num == -8 || isOneOf(c, takes[num]...) {
				it, _ := codeOf(t, code)
				if o := checkEnd(t, it); o.Kind != impl.RunValue || o.Used != 2+used {
					t.Errorf("%s: %+v", code, o)
				}
				continue
			}
			isStuck(t, code, 2+used)
		}
	}
	// Tuples of other sizes, and with other kinds in them.
	for _, c := range []string{
		`CTuple(CInt 0, CStr "a")`, `CTuple(CStr "a", CStr "b")`, `CTuple(CStr "a", CTuple(CInt 0, CInt 0))`, `CTuple(CStr "a", CInt 0, CStr "b")`, `CTuple(CInt 0, CInt 0, CInt 0)`, `CTuple(CStr "a", CStr "b", CInt 0)`, `CTuple(CStr "a", CInt 0, CInt 0, CInt 0)`,
		`CTuple(CStr "a", CCon "A")`, `CTuple(CLam 1(CVar 1), CInt 0)`, `CApp(CCon "A", CTuple(CStr "a", CInt 0))`,
	} {
		stuckIs(t, "CApp(CGiven -3, "+c+")")
		stuckIs(t, "CApp(CGiven -4, "+c+")")
	}
	for _, c := range []string{`CCon "True"`, `CCon "nil"`, `CApp(CCon "true", CCon "true")`, `CApp(CCon "false", CInt 1)`, `CStr "true"`, "CInt 0"} {
		stuckIs(t, "CApp(CGiven -7, "+c+")")
	}
}

func TestRunGiven(t *testing.T) {
	app := func(num int, arg string) string { return "CApp(CGiven " + strconv.Itoa(num) + ", " + arg + ")" }
	long := strings.Repeat("x", 3000)
	givesText(t, app(-2, `CStr ""`), "0", 3)
	givesText(t, app(-2, `CStr "\x00\xff\u00e9"`), "4", 3)
	givesText(t, app(-2, `CStr "`+long+`"`), "3000", 3)
	// sub at both ends, and beyond.
	for i, want := range map[int64]string{-1: "", 0: "0", 1: "97", 2: "255", 3: "", math.MaxInt64: "", math.MinInt64: "", 1 << 32: ""} {
		code := app(-3, `CTuple(CStr "\x00a\xff", CInt `+strconv.FormatInt(i, 10)+`)`)
		if want == "" {
			raisesText(t, code, "Subscript", 5)
		} else {
			givesText(t, code, want, 5)
		}
	}
	raisesText(t, app(-3, `CTuple(CStr "", CInt 0)`), "Subscript", 5)
	// cut: all pairs about the ends, and sums that wrap.
	text := "hello"
	numbers := []int64{math.MinInt64, -5, -1, 0, 1, 2, 4, 5, 6, math.MaxInt64 - 1, math.MaxInt64}
	for _, i := range numbers {
		for _, n := range numbers {
			code := app(-4, `CTuple(CStr "hello", CInt `+strconv.FormatInt(i, 10)+`, CInt `+strconv.FormatInt(n, 10)+`)`)
			end := new(big.Int).Add(big.NewInt(i), big.NewInt(n))
			if i < 0 || n < 0 || end.Cmp(big.NewInt(5)) > 0 {
				raisesText(t, code, "Subscript", 6)
			} else {
				givesText(t, code, `"`+text[i:i+n]+`"`, 6)
			}
		}
	}
	// chr at both ends.
	for num := int64(-2); num < 260; num++ {
		code := app(-5, "CInt "+strconv.FormatInt(num, 10))
		if num < 0 || num > 255 {
			raisesText(t, code, "Chr", 3)
		} else {
			givesText(t, code, toldQuoted(string([]byte{byte(num)})), 3)
			givesText(t, app(-3, "CTuple("+code+", CInt 0)"), strconv.FormatInt(num, 10), 7)
		}
	}
	raisesText(t, app(-5, "CInt 9223372036854775807"), "Chr", 3)
	raisesText(t, app(-5, "CInt -9223372036854775808"), "Chr", 3)
	// show.
	for num, want := range map[int64]string{0: "0", 7: "7", -7: "~7", -1: "~1", 100: "100", math.MaxInt64: "9223372036854775807", math.MinInt64: "~9223372036854775808"} {
		givesText(t, app(-6, "CInt "+strconv.FormatInt(num, 10)), `"`+want+`"`, 3)
	}
	givesText(t, app(-7, `CCon "true"`), "false", 3)
	givesText(t, app(-7, `CCon "false"`), "true", 3)
	givesText(t, app(-7, app(-7, `CCon "false"`)), "false", 5)
	// ref of anything: a new one each time.
	valueOf(t, `CLet 1(CLam 2(CApp(CGiven -8, CVar 2)), CBin "="(CApp(CVar 1, CInt 1), CApp(CVar 1, CInt 1)))`, "false")
	// Given functions are values.
	valueOf(t, `CLet 1(CGiven -2, CApp(CVar 1, CStr "abc"))`, "3")
	valueOf(t, `CCase "Match"(CTuple(CGiven -5, CGiven -6), CRule(PTuple(QVar 1, QVar 2), CBin "^"(CApp(CVar 1, CInt 65), CApp(CVar 2, CInt 65))))`, `"A65"`)
}

func TestRunPrint(t *testing.T) {
	app := func(text string) string { return `CApp(CGiven -1, CStr ` + strconv.Quote(text) + `)` }
	ends := func(code string, want impl.Outcome) {
		t.Helper()
		c, _ := codeOf(t, code)
		if got := checkEnd(t, c); got.Kind != want.Kind || got.Text != want.Text || got.Out != want.Out {
			t.Errorf("%.200s\n%s\nwant %s", code, outcomeShown(got), outcomeShown(want))
		}
	}
	ends(app("a"), impl.Outcome{Text: "()", Out: "a"})
	ends(app(""), impl.Outcome{Text: "()"})
	ends(app("\x00\xff\n\"é"), impl.Outcome{Text: "()", Out: "\x00\xff\n\"é"})
	ends("CTuple("+app("a")+", "+app("bc")+", "+app("")+", "+app("d")+")", impl.Outcome{Text: "((), (), (), ())", Out: "abcd"})
	// At MaxOut bytes, and at one more: nothing of that is put out, and what still fits is.
	for _, n := range []int{impl.MaxOut - 1, impl.MaxOut, impl.MaxOut + 1, 3 * impl.MaxOut} {
		full := strings.Repeat("x", n)
		if n <= impl.MaxOut {
			ends(app(full), impl.Outcome{Text: "()", Out: full})
		} else {
			ends(app(full), impl.Outcome{Kind: impl.RunRaise, Text: "Size"})
			ends("CTry("+app(full)+", CRule(PCon \"Size\", "+app("small")+"))", impl.Outcome{Text: "()", Out: "small"})
		}
	}
	half := strings.Repeat("y", impl.MaxOut/2)
	for rest, want := range map[string]impl.Outcome{"": {Text: "((), (), ())", Out: half + half}, "z": {Kind: impl.RunRaise, Text: "Size", Out: half + half}} {
		ends("CTuple("+app(half)+", "+app(half)+", "+app(rest)+")", want)
	}
	ends("CTuple("+app(half)+", CTry("+app(half+"z")+", CRule(PWild, "+app("w")+")), "+app(half[1:])+")", impl.Outcome{Text: "((), (), ())", Out: half + "w" + half[1:]})
	ends("CTuple("+app(half)+", CTry("+app(half+"z")+", CRule(PWild, "+app("w")+")), "+app(half)+")", impl.Outcome{Kind: impl.RunRaise, Text: "Size", Out: half + "w"})
	// What was put out before is there, however it ends.
	for trouble, want := range map[string]impl.Outcome{`CRaise(CCon "E")`: {Kind: impl.RunRaise, Text: "E"}, "CVar 99": {Kind: impl.RunStuck}, forEver: {Kind: impl.RunFuel}, "CInt 1": {Text: "1"}} {
		want.Out = "before"
		ends(`CCase "Match"(`+app("before")+`, CRule(PWild, `+trouble+`))`, want)
	}
	// Many small ones.
	c, _ := codeOf(t, `CWhile(CCon "true", `+app("ab")+`)`)
	if got := checkRun(t, c, impl.MaxFuel); got.Kind != impl.RunRaise || got.Text != "Size" || got.Out != strings.Repeat("ab", impl.MaxOut/2) || got.Used != 1+4*(impl.MaxOut/2+1) {
		t.Errorf("%s", outcomeShown(got))
	}
	for _, fuel := range []int{0, 1, 4, 5, 9, 401} {
		if got := checkRun(t, c, fuel); got.Out != strings.Repeat("ab", max(0, fuel-1)/4) {
			t.Errorf("with %d: %+v", fuel, got)
		}
	}
}

// The operators on numbers, about both ends.
func TestRunNumbers(t *testing.T) {
	numbers := []int64{math.MinInt64, math.MinInt64 + 1, -1 << 32, -8, -7, -2, -1, 0, 1, 2, 7, 8, 1 << 32, math.MaxInt64 - 1, math.MaxInt64}
	bin := func(op string, a string, b string) string { return `CBin "` + op + `"(` + a + `, ` + b + `)` }
	num := func(n int64) string { return "CInt " + strconv.FormatInt(n, 10) }
	for _, a := range numbers {
		for _, b := range numbers {
			x, y := big.NewInt(a), big.NewInt(b)
			for op, whole := range map[string]*big.Int{"+": new(big.Int).Add(x, y), "-": new(big.Int).Sub(x, y), "*": new(big.Int).Mul(x, y)} {
				givesText(t, bin(op, num(a), num(b)), toldNumber(wrapping(whole)), 3)
			}
			for op, is := range map[string]bool{"<": a < b, "<=": a <= b, ">": a > b, ">=": a >= b} {
				givesText(t, bin(op, num(a), num(b)), strconv.FormatBool(is), 3)
			}
			if b == 0 {
				raisesText(t, bin("/", num(a), num(b)), "Div", 3)
				raisesText(t, bin("%", num(a), num(b)), "Div", 3)
				continue
			}
			givesText(t, bin("/", num(a), num(b)), toldNumber(wrapping(new(big.Int).Quo(x, y))), 3)
			givesText(t, bin("%", num(a), num(b)), toldNumber(wrapping(new(big.Int).Rem(x, y))), 3)
		}
		givesText(t, `CUn "~"(`+num(a)+`)`, toldNumber(wrapping(new(big.Int).Neg(big.NewInt(a)))), 2)
	}
	// By hand.
	for _, c := range []struct {
		op   string
		a, b int64
		want string
	}{
		{"+", math.MaxInt64, 1, "~9223372036854775808"}, {"-", math.MinInt64, 1, "9223372036854775807"}, {"*", math.MinInt64, -1, "~9223372036854775808"}, {"*", 1 << 32, 1 << 32, "0"}, {"*", math.MaxInt64, 2, "~2"}, {"/", math.MinInt64, -1, "~9223372036854775808"}, {"%", math.MinInt64, -1, "0"},
		{"/", 7, 2, "3"}, {"/", -7, 2, "~3"}, {"/", 7, -2, "~3"}, {"/", -7, -2, "3"}, {"%", 7, 2, "1"}, {"%", -7, 2, "~1"}, {"%", 7, -2, "1"}, {"%", -7, -2, "~1"},
	} {
		givesText(t, bin(c.op, num(c.a), num(c.b)), c.want, 3)
	}
	givesText(t, `CUn "~"(CInt -9223372036854775808)`, "~9223372036854775808", 2)
}

// Values of other kinds, on each side of each operator.
func TestRunOperatorKinds(t *testing.T) {
	wants := map[string][2]string{":=": {"ref", ""}, "^": {"string", "string"}}
	for _, op := range strings.Fields("< <= > >= + - * / %") {
		wants[op] = [2]string{"int", "int"}
	}
	sorts := map[string]string{"CInt 1": "int", `CStr "a"`: "string", "CApp(CGiven -8, CInt 1)": "ref"}
	for op, want := range wants {
		for a, usedA := range oneOfEach() {
			for b, usedB := range oneOfEach() {
				if sorts[a] == want[0] && (want[1] == "" || sorts[b] == want[1]) {
					continue
				}
				isStuck(t, `CBin "`+op+`"(`+a+`, `+b+`)`, 1+usedA+usedB)
			}
		}
	}
	for c, used := range oneOfEach() {
		if c != "CInt 1" {
			isStuck(t, `CUn "~"(`+c+`)`, 1+used)
		}
		if sorts[c] != "ref" {
			isStuck(t, `CUn "!"(`+c+`)`, 1+used)
		}
		// A division by 0 of what is no number is stuck as well.
		if c != "CInt 1" {
			isStuck(t, `CBin "/"(`+c+`, CInt 0)`, 2+used)
			isStuck(t, `CBin "%"(`+c+`, CInt 0)`, 2+used)
		}
	}
}

func TestRunTexts(t *testing.T) {
	bin := func(a string, b string) string {
		return `CBin "^"(CStr ` + strconv.Quote(a) + `, CStr ` + strconv.Quote(b) + `)`
	}
	givesText(t, bin("", ""), `""`, 3)
	givesText(t, bin("ab", "cd"), `"abcd"`, 3)
	givesText(t, bin("\xff", "\x00"), `"\255\000"`, 3)
	max := impl.MaxString
	for _, n := range []int{0, 1, max / 2, max - 1, max} {
		a, b := strings.Repeat("a", n), strings.Repeat("b", max-n)
		givesText(t, bin(a, b), `"`+a+b+`"`, 3)
		raisesText(t, bin(a+"c", b), "Size", 3)
		raisesText(t, bin(a, b+"c"), "Size", 3)
	}
	// A text in code may be longer: then nothing is put to it, not even nothing.
	long := strings.Repeat("a", max+1)
	raisesText(t, bin(long, ""), "Size", 3)
	raisesText(t, bin("", long), "Size", 3)
	givesText(t, "CStr "+strconv.Quote(long), `"`+long+`"`, 1)
}

// References: who shares one sees what is put into it.
func TestRunReferences(t *testing.T) {
	valueOf(t, `CLet 1(CApp(CGiven -8, CInt 1), CLet 2(CVar 1, CCase "Match"(CBin ":="(CVar 1, CInt 2), CRule(QVar 3, CTuple(CVar 3, CUn "!"(CVar 1), CUn "!"(CVar 2))))))`, "((), 2, 2)")
	valueOf(t, `CLet 1(CApp(CGiven -8, CInt 1), CLet 2(CApp(CGiven -8, CInt 1), CCase "Match"(CBin ":="(CVar 1, CInt 2), CRule(PWild, CTuple(CUn "!"(CVar 1), CUn "!"(CVar 2))))))`, "(2, 1)")
	// In a tuple, a constructor, another reference, a closure.
	for _, c := range []string{
		`CLet 2(CTuple(CVar 1, CInt 0), CCase "Match"(CBin ":="(CVar 1, CInt 5), CRule(PWild, CCase "Match"(CVar 2, CRule(PTuple(QVar 3, PWild), CUn "!"(CVar 3))))))`,
		`CLet 2(CApp(CCon "A", CVar 1), CCase "Match"(CBin ":="(CVar 1, CInt 5), CRule(PWild, CCase "Match"(CVar 2, CRule(PCon "A"(QVar 3), CUn "!"(CVar 3))))))`,
		`CLet 2(CApp(CGiven -8, CVar 1), CCase "Match"(CBin ":="(CVar 1, CInt 5), CRule(PWild, CUn "!"(CUn "!"(CVar 2)))))`,
		`CLet 2(CLam 3(CUn "!"(CVar 1)), CCase "Match"(CBin ":="(CVar 1, CInt 5), CRule(PWild, CApp(CVar 2, CTuple))))`,
		`CLet 2(CTuple(CVar 1, CVar 1), CCase "Match"(CVar 2, CRule(PTuple(QVar 3, QVar 4), CCase "Match"(CBin ":="(CVar 3, CInt 5), CRule(PWild, CUn "!"(CVar 4))))))`,
	} {
		valueOf(t, `CLet 1(CApp(CGiven -8, CInt 1), `+c+`)`, "5")
	}
	// It keeps what it had: a number that was read does not change, and anything can be put.
	valueOf(t, `CLet 1(CApp(CGiven -8, CInt 1), CLet 2(CUn "!"(CVar 1), CCase "Match"(CBin ":="(CVar 1, CStr "s"), CRule(PWild, CTuple(CVar 2, CUn "!"(CVar 1))))))`, `(1, "s")`)
	// The left is evaluated ahead of the right.
	valueOf(t, `CLet 1(CApp(CGiven -8, CInt 1), CTuple(CBin ":="(CVar 1, CBin "+"(CUn "!"(CVar 1), CInt 1)), CBin ":="(CVar 1, CBin "+"(CUn "!"(CVar 1), CInt 1)), CUn "!"(CVar 1)))`, "((), (), 3)")
	// A circle.
	valueOf(t, `CLet 1(CApp(CGiven -8, CInt 1), CCase "Match"(CBin ":="(CVar 1, CVar 1), CRule(PWild, CTuple(CVar 1, CUn "!"(CVar 1), CBin "="(CUn "!"(CUn "!"(CVar 1)), CVar 1)))))`, "(ref, ref, true)")
}
