package tests

import (
	"math/rand"
	"runtime"
	"slices"
	"sort"
	"strconv"
	"strings"
	"testing"

	"loop.example/s02665/impl"
)

// lessSoon wants an answer of Known, Less and Simplify soon, and promise 18 with all the fuel.
func lessSoon(t *testing.T, name string, c []impl.Node) []impl.Node {
	t.Helper()
	if !impl.PlainForm(c) {
		t.Fatalf("%s is not in plain form", name)
	}
	simple := []impl.Node{}
	soon(t, name, func() {
		impl.Known(c)
		impl.Less(c)
		simple = impl.Simplify(c)
	})
	keepsPromise18(t, c, impl.MaxFuel)
	return simple
}

// Code as long and as deep as it may be.
func TestLessLongCode(t *testing.T) {
	for name, c := range deepCodes() {
		plain, _ := impl.Erase(c.c)
		lessSoon(t, name, plain)
	}
	max := impl.MaxCode
	one, wild := node(impl.CInt, 1, "", 0), wildPat[0]
	rule, match, tuple, app := node(impl.CRule, 0, "", 2), node(impl.CCase, 0, "Match", 2), node(impl.CTuple, 0, "", 2), node(impl.CApp, 0, "", 2)
	lets := []impl.Node{}
	for i := range max / 3 {
		lets = append(lets, node(impl.CLet, int64(max/3-i), "", 2))
	}
	chain := []impl.Node{one}
	for i := range max/3 - 1 {
		chain = append(chain, node(impl.CVar, int64(i+1), "", 0))
	}
	list := slices.Concat(slices.Repeat([]impl.Node{node(impl.CCon, 0, "::", 0), one}, 14000), []impl.Node{node(impl.CCon, 0, "nil", 0)}, slices.Repeat([]impl.Node{tuple, app}, 14000))
	for name, c := range map[string]struct {
		c    []impl.Node
		want int // how many nodes are left
	}{
		"a sum to the right":        {nested(max/2-1, []impl.Node{one}, []impl.Node{one}, node(impl.CBin, 0, "+", 2)), 1},
		"a sum to the left":         {wrapped(max/2-1, []impl.Node{one}, one, node(impl.CBin, 0, "+", 2)), 1},
		"signs":                     {wrapped(max-1, []impl.Node{one}, node(impl.CUn, 0, "~", 1)), 1},
		"known cases in rules":      {slices.Concat(slices.Repeat([]impl.Node{one, wild}, max/4-1), []impl.Node{one}, slices.Repeat([]impl.Node{rule, match}, max/4-1)), 1},
		"known cases in cases":      {wrapped(max/4-1, []impl.Node{one}, wild, one, rule, match), 1},
		"a list that is known":      {slices.Concat(list, []impl.Node{wild, one, rule, match}), 1},
		"a list that is kept":       {slices.Concat(list, []impl.Node{wild, node(impl.QAs, 1, "", 1), one, rule, match}), len(list) + 5},
		"a list that is not used":   {slices.Concat(list, []impl.Node{one, node(impl.CLet, 1, "", 2)}), 1},
		"many atoms":                {slices.Concat(slices.Repeat([]impl.Node{one}, max/3), []impl.Node{node(impl.CVar, 7, "", 0)}, lets), 1},
		"an atom behind the other":  {slices.Concat(chain, []impl.Node{node(impl.CVar, int64(max/3), "", 0)}, lets), 1},
		"one number for all":        {slices.Concat(slices.Repeat([]impl.Node{one}, max/2-1), []impl.Node{node(impl.CVar, 7, "", 0)}, slices.Repeat([]impl.Node{node(impl.CLet, 7, "", 2)}, max/2-1)), max - 1},
		"unused lets":               {slices.Concat(slices.Repeat([]impl.Node{node(impl.CTuple, 0, "", 0)}, max/2-1), []impl.Node{one}, slices.Repeat([]impl.Node{node(impl.CLet, 7, "", 2)}, max/2-1)), 1},
		"calls in calls":            {slices.Concat(slices.Repeat([]impl.Node{one, node(impl.CLam, 7, "", 1)}, max/3-1), []impl.Node{one}, slices.Repeat([]impl.Node{app}, max/3-1)), 1},
		"calls in functions":        {wrapped(max/3-1, []impl.Node{one}, node(impl.CLam, 7, "", 1), one, app), 1},
		"many arguments":            {longCalled(15000), -1},
		"names around names":        {slices.Concat([]impl.Node{one}, wrapped(20000, []impl.Node{node(impl.QVar, 1, "", 0)}, node(impl.QAs, 1, "", 1)), []impl.Node{one, rule, match}), -1},
		"many rules that don't fit": {slices.Concat([]impl.Node{one}, slices.Repeat([]impl.Node{node(impl.PInt, 2, "", 0), one, rule}, 15000), crule(wildPat, []impl.Node{one}), []impl.Node{node(impl.CCase, 0, "Match", 15002)}), 1},
	} {
		if simple := lessSoon(t, name, c.c); c.want >= 0 && len(simple) != c.want {
			t.Errorf("%s: %d nodes are left, want %d", name, len(simple), c.want)
		}
	}
}

// longCalled is called for any number of arguments.
func longCalled(n int) []impl.Node {
	c := []impl.Node{node(impl.CVar, 1, "", 0)}
	for i := range n {
		c = append(c, node(impl.CLam, int64(n-i), "", 1))
	}
	for i := range n {
		c = append(c, node(impl.CInt, int64(i), "", 0), node(impl.CApp, 0, "", 2))
	}
	return c
}

// Patterns that are tried again and again, with values that are large.
func TestLessLongPatterns(t *testing.T) {
	one, wild, rule := node(impl.CInt, 1, "", 0), wildPat[0], node(impl.CRule, 0, "", 2)
	tuple := slices.Concat(slices.Repeat([]impl.Node{one}, 10000), []impl.Node{node(impl.CTuple, 0, "", 10000)})
	deep := slices.Concat(slices.Repeat([]impl.Node{wild}, 8000), wildPat, slices.Repeat([]impl.Node{node(impl.PTuple, 0, "", 2), node(impl.PCon, 0, "::", 1)}, 8000))
	wide := slices.Concat(slices.Repeat([]impl.Node{wild}, 9999), []impl.Node{node(impl.PInt, 2, "", 0), node(impl.PTuple, 0, "", 10000)})
	for name, c := range map[string][]impl.Node{
		"a wide tuple": slices.Concat(tuple, wide, []impl.Node{one, rule}, wide, []impl.Node{one, rule}, wide, []impl.Node{one, rule}, crule(wildPat, []impl.Node{one}), []impl.Node{node(impl.CCase, 0, "Match", 5)}),
		"few fit":      slices.Concat(tuple, slices.Repeat([]impl.Node{node(impl.PTuple, 0, "", 0), one, rule}, 15000), crule(wildPat, []impl.Node{one}), []impl.Node{node(impl.CCase, 0, "Match", 15002)}),
		"a deep one":   slices.Concat([]impl.Node{one}, deep, []impl.Node{one, rule}, crule(wildPat, []impl.Node{one}), []impl.Node{node(impl.CCase, 0, "Match", 3)}),
	} {
		if simple := lessSoon(t, name, c); len(simple) != 1 {
			t.Errorf("%s: %d nodes", name, len(simple))
		}
	}
}

// buildSoon wants an answer of Build and of Tell soon, with all the fuel.
func buildSoon(t *testing.T, name string, src string) impl.Built {
	t.Helper()
	if len(src) > impl.MaxSource {
		t.Fatalf("%s has %d bytes", name, len(src))
	}
	built := impl.Built{}
	soon(t, name+", built", func() { built = impl.Build(src) })
	told := ""
	soon(t, name+", told", func() { told = impl.Tell(src, impl.MaxFuel) })
	if want := buildAgain(src); !isBuilt(built, want) {
		t.Errorf("%s is built otherwise: stage %d, code %d at %d:%d", name, built.Stage, built.Code, built.Line, built.Col)
	}
	if want := tellAgain(built, impl.MaxFuel); told != want {
		t.Errorf("%s tells %.500s\nwant %.500s", name, told, want)
	}
	return built
}

// filledSource repeats a piece, numbered, up to the last that a source has room for.
func filledSource(front string, piece func(i int) string, end string) string {
	with := func(pieces int) string {
		src := strings.Builder{}
		src.WriteString(front)
		for i := range pieces {
			src.WriteString(piece(i))
		}
		return src.String() + end
	}
	tooMany := sort.Search(impl.MaxSource, func(pieces int) bool {
		src := with(pieces)
		if len(src) > impl.MaxSource {
			return true
		}
		_, code, _ := impl.Parse(src)
		return code == impl.ParseLarge
	})
	return with(tooMany - 1)
}

// Programs at the limits of the chapters.
func TestBuildLongSources(t *testing.T) {
	n := strconv.Itoa
	deep := func(front string, inside string, behind string, end string) string {
		best := ""
		for k := 1; k < impl.MaxDeep; k++ {
			src := front + strings.Repeat(inside, k) + "1" + strings.Repeat(behind, k) + end
			if _, code, _ := impl.Parse(src); code != impl.ParseOk {
				break
			}
			best = src
		}
		return best
	}
	for name, src := range map[string]string{
		"nothing but spaces":       strings.Repeat(" ", impl.MaxSource),
		"nothing but newlines":     strings.Repeat("\n", impl.MaxSource),
		"a note":                   "(*" + strings.Repeat("\n", impl.MaxSource-4) + "*)",
		"many vals":                filledSource("", func(i int) string { return "val x" + n(i) + " = 1\n" }, ""),
		"vals of vals":             filledSource("val x0 = 1\n", func(i int) string { return "val x" + n(i+1) + " = x" + n(i) + "\n" }, ""),
		"sums of vals":             filledSource("val x = 1\n", func(i int) string { return "val x = x + x\n" }, ""),
		"functions":                filledSource("", func(i int) string { return "fun f" + n(i) + " x = x\n" }, ""),
		"functions of functions":   filledSource("fun f0 x = x\n", func(i int) string { return "fun f" + n(i+1) + " x = f" + n(i) + " x\n" }, "val x = f0 1"),
		"functions with and":       filledSource("fun f x = x", func(i int) string { return " and f" + n(i) + " x = f x" }, ""),
		"matches that fail":        filledSource("", func(i int) string { return "val " + n(i) + " = " + n(i) + "\n" }, ""),
		"many rules":               filledSource("val f = fn 0 => 0", func(i int) string { return " | " + n(i) + " => 1" }, ""),
		"a long list":              filledSource("val x = [1", func(i int) string { return ",1" }, "]"),
		"a long string":            filledSource("", func(i int) string { return "val _ = print \"" + strings.Repeat("a", 900) + "\"\n" }, ""),
		"applications":             filledSource("fun id x = x val y = id", func(i int) string { return " id" }, " 1"),
		"datatypes":                filledSource("", func(i int) string { return "datatype t" + n(i) + " = A" + n(i) + " of int | B" + n(i) + "\n" }, ""),
		"exceptions":               filledSource("", func(i int) string { return "exception E" + n(i) + " of int\n" }, "val x = (raise E0 1) handle E1 x => x"),
		"loops":                    "fun f x = f (x + 1) val y = if true then f 0 else 1",
		"a loop that grows":        "fun f l = f (1 :: l) val y = if true then f nil else nil",
		"a loop that waits":        "fun f x = 1 + f x val y = f 0",
		"a loop that prints":       "val _ = while true do (print \"abc\" handle Size => ())",
		"a loop that raises":       "val _ = while true do (raise Div) handle Div => ()",
		"parentheses":              deep("val x = ", "(", ")", ""),
		"functions in functions":   deep("val x = ", "fn x => ", "", ""),
		"ifs in ifs":               deep("val x = ", "if true then 1 else ", "", ""),
		"lets in lets":             deep("val x = ", "let val y = 1 in ", " end", ""),
		"known lets in lets":       deep("val x = ", "let fun f y = 1 in f (", ") end", ""),
		"cases in cases":           deep("val x = ", "case 1 of 1 => ", " | _ => 2", ""),
		"sums in sums":             deep("val x = ", "1 + (", ")", ""),
		"handles":                  deep("val x = ", "(", " handle Div => 1)", ""),
		"types that double":        filledSource("val x0 = fn y => y\n", func(i int) string { return "val x" + n(i+1) + " = fn y => (x" + n(i) + ", x" + n(i) + ")\n" }, ""),
		"one more byte than a lot": strings.Repeat("v", impl.MaxSource),
	} {
		if src == "" {
			t.Fatalf("%s: nothing", name)
		}
		buildSoon(t, name, src)
	}
}

// Programs of chapter 13 that use all the fuel, and come to something, on the whole way.
func TestTellLongRuns(t *testing.T) {
	for src, want := range map[string]string{
		"fun f n = if n = 0 then 0 else 1 + f (n - 1) val x = f 6000":                                                        "value ((), fn, 6000)",
		"fun f n = if n = 0 then raise Div else 1 + f (n - 1) val x = f 5000 handle Div => 7":                                "value ((), fn, 7)",
		"val r = ref 0 val _ = while !r < 5000 do r := !r + 1 val x = !r":                                                    "value ((), ref, 5000)",
		"fun up n = if n = 0 then nil else n :: up (n - 1) fun len nil = 0 | len (_ :: l) = 1 + len l val n = len (up 3000)": "value ((), fn, fn, 3000)",
		"fun f x = f x val y = if true then f 1 else 2":                                                                      "no fuel",
	} {
		buildSoon(t, src, src)
		lines := strings.Split(impl.Tell(src, impl.MaxFuel), "\n")
		if got := lines[len(lines)-3]; got != want {
			t.Errorf("%s tells %s, want %s", src, got, want)
		}
	}
}

// Any bytes at all.
func TestBuildAnyBytes(t *testing.T) {
	rnd, stages := rand.New(rand.NewSource(99)), map[int]int{}
	words := append(strings.Fields(wordList), strings.Fields(symbolList)...)
	words = append(words, "x", "f", "A", "nil", "true", "1", "~2", "\"s\"", "'a", "int", "list", "\n", "(*", "*)", "$", "\x00", "\xff")
	for range 3000 {
		src := ""
		for range rnd.Intn(14) {
			src += words[rnd.Intn(len(words))]
			if rnd.Intn(5) > 0 {
				src += " "
			}
		}
		stages[checkBuild(t, src, -1, impl.MaxFuel).Stage]++
	}
	if stages[impl.StOk] < 20 || stages[impl.StSyntax] < 1000 {
		t.Errorf("%v", stages)
	}
}

// Nothing that is handed in is changed, no two calls share anything, and no two lists of an answer.
func TestLessMemory(t *testing.T) {
	for _, code := range []string{
		"CInt 1", "CTuple(CInt 1, CVar 2)", "CLet 1(CInt 5, CTuple(CVar 1, CVar 1))", `CBin "+"(CInt 1, CInt 2)`, `CCase "Match"(CInt 1, CRule(QVar 2, CVar 2))`, "CApp(CLam 1(CVar 1), CInt 2)", "CLam 1(CLet 2(CVar 1, CVar 2))", "CTuple(CInt 1)", "CLet 1(CTuple, CInt 3)", `CBin "="(CInt 1, CInt 1)`,
	} {
		c, _ := codeOf(t, code)
		for name, call := range map[string]func([]impl.Node) []impl.Node{"Less": impl.Less, "Simplify": impl.Simplify} {
			arguments := &kept{}
			it := arguments.roomy(c)
			sharesNothing(t, name+" of "+code, arguments, func() [][]impl.Node { return [][]impl.Node{call(it)} })
		}
		arguments := &kept{}
		it := arguments.roomy(c)
		impl.Known(it)
		if !arguments.stay() {
			t.Errorf("Known writes into %s", code)
		}
	}
	for _, text := range []string{"[?1, list(?27)]", "#3", "(int, ())", "unit", "A"} {
		arguments := &kept{}
		it := arguments.roomy(plainOf(t, text))
		first := impl.TypeText(it)
		if !arguments.stay() || impl.TypeText(it) != first {
			t.Errorf("TypeText writes into %s", text)
		}
		arguments.spoil()
		if first != typeTextAgain(plainOf(t, text)) {
			t.Errorf("the text changes with the argument: %s", text)
		}
	}
}

func TestBuildMemory(t *testing.T) {
	for _, src := range []string{"", "fun f 1 = 2 | f 1 = 3 val x = f val (y, z) = (x, 1 / 0)", "val x = 1 1", "val x ="} {
		want := buildAgain(src)
		for range 3 {
			got := impl.Build(src)
			spoil(got.Plain)
			for i := range got.Notes {
				got.Notes[i] = impl.Note{Kind: 77}
			}
			for i := range got.Shown {
				got.Shown[i] = impl.Shown{Name: "spoiled"}
			}
			if again := impl.Build(src); !isBuilt(again, want) {
				t.Errorf("%s: two calls share something: %v", src, again)
			}
		}
	}
}

// Several calls at the same time do not know of each other, and no goroutine is left.
func TestTellAtTheSameTime(t *testing.T) {
	before := runtime.NumGoroutine()
	sources := []string{"val _ = while true do print \"ab\"", "fun f x = f x val y = f 1", "val x = 1 1", "exception E val x = (print \"one\"; raise E)", "val x = [1, 2]"}
	answers := make(chan bool)
	for _, src := range sources {
		want := tellAgain(buildAgain(src), 2000)
		for range 6 {
			go func() {
				same := true
				for range 5 {
					same = same && impl.Tell(src, 2000) == want
				}
				answers <- same
			}()
		}
	}
	for range 6 * len(sources) {
		if !<-answers {
			t.Error("calls at the same time answer otherwise")
		}
	}
	noneLeft(t, before)
}
