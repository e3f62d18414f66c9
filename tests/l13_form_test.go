package tests

import (
	"math"
	"math/rand"
	"slices"
	"strings"
	"testing"

	"loop.example/s02665/impl"
)

// plainList is what plain code may have: the list of chapter 11 without types.
func plainList() []codeListed {
	return []codeListed{
		{impl.PWild, "p", "0", "none", "", ""},
		{impl.PInt, "p", "any", "none", "", ""},
		{impl.PStr, "p", "0", "any", "", ""},
		{impl.PCon, "p", "0", "any", "p?", "p"},
		{impl.PTuple, "p", "0", "none", "(pp+)?", "pp"},
		{impl.CVar, "c", "+", "none", "", ""},
		{impl.CGiven, "c", "given", "none", "", ""},
		{impl.CInt, "c", "any", "none", "", ""},
		{impl.CStr, "c", "0", "any", "", ""},
		{impl.CCon, "c", "0", "any", "", ""},
		{impl.CTuple, "c", "0", "none", "(cc+)?", "ccc"},
		{impl.CLam, "c", "+", "none", "c", "c"},
		{impl.CApp, "c", "0", "none", "cc", "cc"},
		{impl.CLet, "c", "+", "none", "cc", "cc"},
		{impl.CFix, "c", "0", "none", "b+c", "bc"},
		{impl.CBnd, "b", "+", "none", "c", "c"},
		{impl.CCase, "c", "0", "Match Bind", "cr+", "cr"},
		{impl.CRule, "r", "0", "none", "pc", "pc"},
		{impl.CRaise, "c", "0", "none", "c", "c"},
		{impl.CTry, "c", "0", "none", "cr+", "crr"},
		{impl.CWhile, "c", "0", "none", "cc", "cc"},
		{impl.CBin, "c", "0", binaryTexts, "cc", "cc"},
		{impl.CUn, "c", "0", "~ !", "c", "c"},
		{impl.QVar, "p", "+", "none", "", ""},
		{impl.QAs, "p", "+", "none", "p", "p"},
	}
}

func plainFormAgain(c []impl.Node) bool {
	return formOf(plainList(), c)
}

// plainParts has something for each letter of plain code, and types, schemes, and what stands nowhere.
func plainParts() map[rune][]impl.Node {
	parts := codeParts()
	parts['b'] = unplaced(impl.CBnd, 1, "", parts['c'])
	parts['a'] = unplaced(impl.CAll, 1, "", parts['c'])
	parts['i'] = insts(parts['c'], parts['t'])
	return parts
}

func plainLettered(kind int, num int64, text string, letters string) []impl.Node {
	parts, kids := plainParts(), [][]impl.Node{}
	for _, letter := range letters {
		kids = append(kids, parts[letter])
	}
	return unplaced(kind, num, text, kids...)
}

// plainHouses are plain codes with a part in every place where such a part may stand.
func plainHouses(letter string, part []impl.Node) [][]impl.Node {
	parts := plainParts()
	c, p, r := parts['c'], parts['p'], parts['r']
	bound := func(b []impl.Node) []impl.Node { return unplaced(impl.CFix, 0, "", parts['b'], b, c) }
	match := func(p []impl.Node) []impl.Node { return ccase("Bind", c, r, crule(p, c)) }
	switch letter {
	case "r":
		return [][]impl.Node{ccase("Match", c, part), ccase("Match", c, r, part, r), unplaced(impl.CTry, 0, "", c, part), unplaced(impl.CTry, 0, "", c, r, part)}
	case "b":
		return [][]impl.Node{unplaced(impl.CFix, 0, "", part, c), bound(part)}
	case "p":
		return [][]impl.Node{match(part), match(unplaced(impl.PCon, 0, "C", part)), match(unplaced(impl.PTuple, 0, "", p, part)), match(unplaced(impl.QAs, 3, "", part)), unplaced(impl.CTry, 0, "", c, crule(part, c))}
	}
	return [][]impl.Node{part, unplaced(impl.CTuple, 0, "", c, part, c), unplaced(impl.CLam, 1, "", part), unplaced(impl.CApp, 0, "", part, c), unplaced(impl.CApp, 0, "", c, part), unplaced(impl.CLet, 1, "", part, c), unplaced(impl.CLet, 1, "", c, part),
		unplaced(impl.CFix, 0, "", parts['b'], part), bound(unplaced(impl.CBnd, 1, "", part)), ccase("Match", part, r), ccase("Match", c, crule(p, part)), unplaced(impl.CRaise, 0, "", part), unplaced(impl.CTry, 0, "", part, r),
		unplaced(impl.CWhile, 0, "", part, c), unplaced(impl.CWhile, 0, "", c, part), unplaced(impl.CBin, 0, "+", part, c), unplaced(impl.CBin, 0, ":=", c, part), unplaced(impl.CUn, 0, "!", part)}
}

// plainFormIs wants of a part, wherever it may stand, that the code is in plain form or not. Code that
// is not is no code for Run either.
func plainFormIs(t *testing.T, letter string, part []impl.Node, want bool) {
	t.Helper()
	for _, c := range plainHouses(letter, part) {
		if impl.PlainForm(c) != want || plainFormAgain(c) != want || (impl.Run(c, 3).Kind == impl.RunArgs) == want {
			t.Fatalf("%s: %v, want %v", codeShown(c), impl.PlainForm(c), want)
		}
	}
}

// Each kind with the kids that it has, with one fewer, one more, and kids of another sort.
func TestPlainFormKids(t *testing.T) {
	all, longest := []string{""}, []string{""}
	for range 4 {
		longer := []string{}
		for _, front := range longest {
			for _, letter := range "ctsprb" {
				longer = append(longer, front+string(letter))
			}
		}
		all, longest = append(all, longer...), longer
	}
	for _, l := range plainList() {
		for _, letters := range all {
			house := plainHouses(l.letter, plainLettered(l.kind, l.someNum(), l.someText(), letters))[0]
			if want := l.kidsFit(l.someNum(), letters); impl.PlainForm(house) != want {
				t.Fatalf("%s of %q: %v, want %v", codeKindName(l.kind), letters, !want, want)
			}
		}
		if !l.kidsFit(l.someNum(), l.some) {
			t.Fatalf("%s does not fit %s", codeKindName(l.kind), l.some)
		}
		plainFormIs(t, l.letter, plainLettered(l.kind, l.someNum(), l.someText(), l.some), true)
		// What stands nowhere in plain code, in each place.
		for _, other := range "ovmtsai" {
			for i := range l.some {
				plainFormIs(t, l.letter, plainLettered(l.kind, l.someNum(), l.someText(), l.some[:i]+string(other)+l.some[i+1:]), false)
			}
			plainFormIs(t, l.letter, plainLettered(l.kind, l.someNum(), l.someText(), l.some+string(other)), false)
			plainFormIs(t, l.letter, plainLettered(l.kind, l.someNum(), l.someText(), string(other)+l.some), false)
		}
	}
}

// Parts that are not code have no form by themselves: a pattern, a CRule, a CBnd, a type.
func TestPlainFormAlone(t *testing.T) {
	for _, l := range plainList() {
		it := plainLettered(l.kind, l.someNum(), l.someText(), l.some)
		if got := impl.PlainForm(it); got != (l.letter == "c") {
			t.Errorf("%s by itself: %v", codeShown(it), got)
		}
	}
	for letter, part := range plainParts() {
		if got := impl.PlainForm(part); got != (letter == 'c') {
			t.Errorf("%s by itself: %v", codeShown(part), got)
		}
	}
}

// What belongs to a node itself.
func TestPlainFormOwn(t *testing.T) {
	texts := append(strings.Fields(binaryTexts+" Match Bind Matc Matched match BIND Div x Con nil true :: ~ ! - !! andalso 0 'a unit int"),
		"", " ", " +", "+ ", "Match ", "\x00", "\xff", strings.Repeat("s", impl.MaxString+1))
	for _, l := range plainList() {
		for _, num := range []int64{math.MinInt64, -71, -10, -9, -8, -7, -6, -5, -4, -3, -2, -1, 0, 1, 2, 1000, 1 << 32, math.MaxInt64} {
			plainFormIs(t, l.letter, plainLettered(l.kind, num, l.someText(), l.some), l.numFits(num))
		}
		for _, text := range texts {
			plainFormIs(t, l.letter, plainLettered(l.kind, l.someNum(), text, l.some), l.textFits(text))
		}
		it := plainLettered(l.kind, l.someNum(), l.someText(), l.some)
		for _, house := range plainHouses(l.letter, it) {
			for i := range house {
				for _, at := range []int{1, -1, math.MaxInt, math.MinInt} {
					placed := slices.Clone(house)
					placed[i].At = at
					if impl.PlainForm(placed) {
						t.Fatalf("%s: node %d with At %d", codeShown(placed), i, at)
					}
				}
			}
		}
	}
}

func TestPlainFormKinds(t *testing.T) {
	listed := map[int]bool{}
	for _, l := range plainList() {
		listed[l.kind] = true
	}
	for kind := -5; kind < 120; kind++ {
		for _, some := range []string{"", "c", "cc", "t", "tc", "ct", "p", "pc"} {
			for _, num := range []int64{0, 1} {
				it := plainLettered(kind, num, "", some)
				for _, letter := range []string{"c", "p"} {
					for _, house := range plainHouses(letter, it) {
						if impl.PlainForm(house) != plainFormAgain(house) || !listed[kind] && impl.PlainForm(house) {
							t.Fatalf("%s: %v", codeShown(house), impl.PlainForm(house))
						}
					}
				}
			}
		}
	}
	for _, kind := range []int{math.MinInt, math.MaxInt, -1, 1 << 40} {
		if impl.PlainForm([]impl.Node{{Kind: kind}}) {
			t.Errorf("kind %d", kind)
		}
	}
}

// Code with types is not plain, plain code has no types: both are in form only where there are none.
func TestPlainFormOfCodeWithTypes(t *testing.T) {
	for _, text := range []string{
		"CGiven -8(int)", "CCon \"nil\"(int)", "CLam 1(int, CVar 1)", "CAll 1(CInt 1)", "CInst(CVar 1, int)", "CLet 1(int, CInt 1, CInt 1)", "CFix(CBnd 1([int, int], CInt 1), CInt 1)", "CRaise(int, CVar 1)",
		"CTry(CInt 1, CRule(QVar 1(int), CInt 1))", "CTry(CInt 1, CRule(QAs 1(int, PWild), CInt 1))", "int", "TAll 1(#1)", "#1", "(int, int)", "[int, int]",
	} {
		c, _ := codeOf(t, text)
		if impl.PlainForm(c) {
			t.Errorf("%s is plain", text)
		}
	}
	for _, text := range []string{
		"CGiven -8", "CLam 1(CVar 1)", "CLet 1(CInt 1, CInt 1)", "CFix(CBnd 1(CInt 1), CInt 1)", "CRaise(CVar 1)", "CTry(CInt 1, CRule(QVar 1, CInt 1))", "CTry(CInt 1, CRule(QAs 1(PWild), CInt 1))",
	} {
		c, _ := codeOf(t, text)
		if !impl.PlainForm(c) || impl.Form(c) {
			t.Errorf("%s: plain %v, in form %v", text, impl.PlainForm(c), impl.Form(c))
		}
	}
	for _, text := range []string{"CVar 1", "CGiven -1", "CInt 0", "CStr \"\"", "CCon \"x\"", "CTuple", "CTuple(CInt 1, CVar 2)", "CCase \"Bind\"(CInt 1, CRule(PTuple(PInt 1, PStr \"\", PCon \"A\"(PWild)), CUn \"!\"(CInt 1)))"} {
		c, _ := codeOf(t, text)
		if !impl.PlainForm(c) || !impl.Form(c) {
			t.Errorf("%s: plain %v, in form %v", text, impl.PlainForm(c), impl.Form(c))
		}
	}
}

func TestPlainFormNoTerms(t *testing.T) {
	one := impl.Node{Kind: impl.CInt, Num: 1}
	with := func(kids int) impl.Node { return impl.Node{Kind: impl.CTuple, Kids: kids} }
	for name, list := range map[string][]impl.Node{
		"nil": nil, "empty": {}, "two": {one, one}, "three with a pair": {one, one, one, with(2)}, "too many kids": {one, with(2)}, "kids below 0": {one, with(-1)}, "most kids": {one, one, with(math.MaxInt)}, "least kids": {one, one, with(math.MinInt)},
		"root with kids alone": {with(2)}, "two with kids": {one, one, with(2), with(0)},
	} {
		if impl.PlainForm(list) || plainFormAgain(list) || impl.Run(list, 5) != (impl.Outcome{Kind: impl.RunArgs}) {
			t.Errorf("%s is in plain form", name)
		}
	}
	for name, list := range badLists() {
		if impl.PlainForm(list) {
			t.Errorf("%s is in plain form", name)
		}
	}
	for name, list := range goodTerms() {
		if impl.PlainForm(list) != plainFormAgain(list) {
			t.Errorf("%s: %v", name, impl.PlainForm(list))
		}
	}
}

func TestPlainFormLimits(t *testing.T) {
	one, max := impl.Node{Kind: impl.CInt, Num: 1}, impl.MaxCode
	un, lam, let := impl.Node{Kind: impl.CUn, Text: "~", Kids: 1}, impl.Node{Kind: impl.CLam, Num: 1, Kids: 1}, impl.Node{Kind: impl.CLet, Num: 1, Kids: 2}
	some := impl.Node{Kind: impl.PCon, Text: "Some", Kids: 1}
	for name, c := range map[string]func(n int) []impl.Node{
		"a tuple": func(n int) []impl.Node {
			return append(slices.Repeat([]impl.Node{one}, n-1), impl.Node{Kind: impl.CTuple, Kids: n - 1})
		},
		"operators": func(n int) []impl.Node { return wrapped(n-1, []impl.Node{one}, un) },
		"functions": func(n int) []impl.Node { return wrapped(n-1, []impl.Node{one}, lam) },
		"lets": func(n int) []impl.Node {
			return wrapped((n-1)/2, wrapped((n-1)%2, []impl.Node{one}, un), one, let)
		},
		"a pattern": func(n int) []impl.Node {
			return slices.Concat([]impl.Node{one}, wildPat, slices.Repeat([]impl.Node{some}, n-5), []impl.Node{one, {Kind: impl.CRule, Kids: 2}, {Kind: impl.CTry, Kids: 2}})
		},
	} {
		for n, want := range map[int]bool{max - 1: true, max: true, max + 1: false, 2 * max: false} {
			it := c(n)
			if len(it) != n {
				t.Fatalf("%s: %d nodes", name, len(it))
			}
			soon(t, name, func() {
				if impl.PlainForm(it) != want || (impl.Run(it, 9).Kind == impl.RunArgs) == want {
					t.Errorf("%s of %d nodes: %v", name, n, !want)
				}
			})
		}
		// The last node is looked at, and the first, and one in between.
		it := c(max)
		for _, i := range []int{0, 1, max / 2, max - 1} {
			wrong := slices.Clone(it)
			wrong[i].At = 1
			if impl.PlainForm(wrong) {
				t.Errorf("%s: node %d", name, i)
			}
		}
	}
}

// Code of programs, with something changed in it.
func TestPlainFormChanged(t *testing.T) {
	rnd, good, bad := rand.New(rand.NewSource(13)), 0, 0
	codedPrograms(t, 60, func(c *coder, src string, program []impl.Node) {
		it, code := impl.Desugar(program)
		if code != impl.CoOk || !impl.PlainForm(it) {
			t.Fatalf("%s\ncode %d", src, code)
		}
		for range 40 {
			changed := changedCode(rnd, it)
			want := plainFormAgain(changed)
			if impl.PlainForm(changed) != want {
				t.Fatalf("%s: %v, want %v", codeShown(changed), !want, want)
			}
			if want {
				good++
			} else {
				bad++
			}
		}
	})
	if good < 500 || bad < 500 {
		t.Errorf("%d in plain form, %d not", good, bad)
	}
}
