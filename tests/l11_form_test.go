package tests

import (
	"math"
	"math/rand"
	"regexp"
	"slices"
	"strings"
	"testing"

	"loop.example/s02665/impl"
)

// codeListed is the document's list again. A letter says what a node is: c code, t a type, s a scheme
// with a TAll, p a pattern, r a CRule, b a CBnd.
type codeListed struct {
	kind   int
	letter string
	nums   string // 0, + for above 0, any, or given
	texts  string // none, any, or those that may be, with spaces between
	kids   string // a pattern of letters
	some   string // letters that fit
}

const binaryTexts = ":= = <> < <= > >= ^ + - * / %"

func codeList() []codeListed {
	return []codeListed{
		{impl.TCon, "t", "0", "any", "t*", "t"},
		{impl.TArrow, "t", "0", "none", "tt", "tt"},
		{impl.TTuple, "t", "0", "none", "(tt+)?", "tt"},
		{impl.TNum, "t", "+", "none", "", ""},
		{impl.TAll, "s", "+", "none", "[ts]", "t"},
		{impl.PWild, "p", "0", "none", "", ""},
		{impl.PInt, "p", "any", "none", "", ""},
		{impl.PStr, "p", "0", "any", "", ""},
		{impl.PCon, "p", "0", "any", "p?", "p"},
		{impl.PTuple, "p", "0", "none", "(pp+)?", "pp"},
		{impl.CVar, "c", "+", "none", "", ""},
		{impl.CGiven, "c", "given", "none", "a type for ref", ""},
		{impl.CInt, "c", "any", "none", "", ""},
		{impl.CStr, "c", "0", "any", "", ""},
		{impl.CCon, "c", "0", "any", "t*", "tt"},
		{impl.CTuple, "c", "0", "none", "(cc+)?", "ccc"},
		{impl.CLam, "c", "+", "none", "tc", "tc"},
		{impl.CApp, "c", "0", "none", "cc", "cc"},
		{impl.CAll, "c", "+", "none", "c", "c"},
		{impl.CInst, "c", "0", "none", "ct", "ct"},
		{impl.CLet, "c", "+", "none", "[ts]cc", "scc"},
		{impl.CFix, "c", "0", "none", "b+c", "bc"},
		{impl.CBnd, "b", "+", "none", "[ts]c", "tc"},
		{impl.CCase, "c", "0", "Match Bind", "cr+", "cr"},
		{impl.CRule, "r", "0", "none", "pc", "pc"},
		{impl.CRaise, "c", "0", "none", "tc", "tc"},
		{impl.CTry, "c", "0", "none", "cr+", "crr"},
		{impl.CWhile, "c", "0", "none", "cc", "cc"},
		{impl.CBin, "c", "0", binaryTexts, "cc", "cc"},
		{impl.CUn, "c", "0", "~ !", "c", "c"},
		{impl.QVar, "p", "+", "none", "t", "t"},
		{impl.QAs, "p", "+", "none", "tp", "tp"},
	}
}

func (l codeListed) numFits(num int64) bool {
	switch l.nums {
	case "0":
		return num == 0
	case "+":
		return num > 0
	case "given":
		return -8 <= num && num <= -1
	}
	return true
}

func (l codeListed) textFits(text string) bool {
	switch l.texts {
	case "none":
		return text == ""
	case "any":
		return true
	}
	return slices.Contains(strings.Fields(l.texts), text)
}

func (l codeListed) kidsFit(num int64, letters string) bool {
	kids := l.kids
	if kids == "a type for ref" {
		kids = map[bool]string{true: "t", false: ""}[num == -8]
	}
	if kidPatterns[kids] == nil {
		kidPatterns[kids] = regexp.MustCompile("^(" + kids + ")$")
	}
	return kidPatterns[kids].MatchString(letters)
}

var kidPatterns = map[string]*regexp.Regexp{}

func (l codeListed) someNum() int64 {
	return map[string]int64{"0": 0, "+": 5, "any": -6, "given": -1}[l.nums]
}

func (l codeListed) someText() string {
	switch l.texts {
	case "none":
		return ""
	case "any":
		return "any \xff"
	}
	return strings.Fields(l.texts)[0]
}

// codeParts has something for each letter, and things that stand nowhere in code: o an exp, v a name
// of a pattern, m an unknown.
func codeParts() map[rune][]impl.Node {
	c, t, p := unplaced(impl.CInt, 4, ""), unplaced(impl.TCon, 0, "int"), wildPat
	return map[rune][]impl.Node{
		'c': c,
		't': t,
		's': unplaced(impl.TAll, 1, "", t),
		'p': p,
		'r': unplaced(impl.CRule, 0, "", p, c),
		'b': unplaced(impl.CBnd, 1, "", t, c),
		'o': unplaced(impl.EInt, 1, ""),
		'v': unplaced(impl.PVar, 1, "x"),
		'm': typeMeta(1),
	}
}

func codeLettered(kind int, num int64, text string, letters string) []impl.Node {
	parts, kids := codeParts(), [][]impl.Node{}
	for _, letter := range letters {
		kids = append(kids, parts[letter])
	}
	return unplaced(kind, num, text, kids...)
}

// codeHouses are codes with a part in every place where such a part may stand.
func codeHouses(letter string, part []impl.Node) [][]impl.Node {
	parts := codeParts()
	c, t, p, r := parts['c'], parts['t'], parts['p'], parts['r']
	bound := func(b []impl.Node) []impl.Node { return unplaced(impl.CFix, 0, "", parts['b'], b, c) }
	match := func(p []impl.Node) []impl.Node { return ccase("Bind", c, r, crule(p, c)) }
	switch letter {
	case "r":
		return [][]impl.Node{ccase("Match", c, part), ccase("Match", c, r, part, r), unplaced(impl.CTry, 0, "", c, part), unplaced(impl.CTry, 0, "", c, r, part)}
	case "b":
		return [][]impl.Node{unplaced(impl.CFix, 0, "", part, c), bound(part)}
	case "p":
		return [][]impl.Node{match(part), match(unplaced(impl.PCon, 0, "C", part)), match(unplaced(impl.PTuple, 0, "", p, part)), match(unplaced(impl.QAs, 3, "", t, part)), unplaced(impl.CTry, 0, "", c, crule(part, c))}
	case "s":
		return [][]impl.Node{unplaced(impl.CLet, 1, "", part, c, c), bound(unplaced(impl.CBnd, 1, "", part, c)), unplaced(impl.CLet, 1, "", unplaced(impl.TAll, 2, "", part), c, c)}
	case "t":
		out := codeHouses("s", part)
		for _, ty := range [][]impl.Node{part, unplaced(impl.TCon, 0, "list", t, part), unplaced(impl.TArrow, 0, "", t, part), unplaced(impl.TTuple, 0, "", part, t)} {
			out = append(out, unplaced(impl.CGiven, -8, "", ty), unplaced(impl.CCon, 0, "nil", t, ty), unplaced(impl.CLam, 1, "", ty, c), insts(c, ty), unplaced(impl.CRaise, 0, "", ty, c),
				match(unplaced(impl.QVar, 2, "", ty)), match(unplaced(impl.QAs, 2, "", ty, p)), unplaced(impl.CLet, 1, "", ty, c, c))
		}
		return out
	}
	return [][]impl.Node{part, unplaced(impl.CTuple, 0, "", c, part, c), unplaced(impl.CLam, 1, "", t, part), unplaced(impl.CApp, 0, "", part, c), unplaced(impl.CApp, 0, "", c, part),
		unplaced(impl.CAll, 1, "", part), insts(part, t), unplaced(impl.CLet, 1, "", t, part, c), unplaced(impl.CLet, 1, "", t, c, part), unplaced(impl.CFix, 0, "", parts['b'], part), bound(unplaced(impl.CBnd, 1, "", t, part)),
		ccase("Match", part, r), ccase("Match", c, crule(p, part)), unplaced(impl.CRaise, 0, "", t, part), unplaced(impl.CTry, 0, "", part, r), unplaced(impl.CWhile, 0, "", part, c), unplaced(impl.CWhile, 0, "", c, part),
		unplaced(impl.CBin, 0, "+", part, c), unplaced(impl.CBin, 0, ":=", c, part), unplaced(impl.CUn, 0, "!", part)}
}

// formIs wants of a part, wherever it may stand, that the code is in form or not.
func formIs(t *testing.T, letter string, part []impl.Node, want bool) {
	t.Helper()
	for _, c := range codeHouses(letter, part) {
		if impl.Form(c) != want || formAgain(c) != want {
			t.Fatalf("%s: %v, want %v", codeShown(c), impl.Form(c), want)
		}
	}
}

// formAgain tells the form again, by letters.
func formAgain(c []impl.Node) bool {
	return formOf(codeList(), c)
}

// formOf is whether a list of nodes is code by such a list of kinds.
func formOf(list []codeListed, c []impl.Node) bool {
	if len(c) > impl.MaxCode {
		return false
	}
	type part struct {
		letter string
		alls   int
	}
	free := []part{}
	for _, n := range c {
		at := slices.IndexFunc(list, func(l codeListed) bool { return l.kind == n.Kind })
		if at < 0 || n.Kids < 0 || n.Kids > len(free) || n.At != 0 {
			return false
		}
		l, first, letters, alls := list[at], len(free)-n.Kids, "", 0
		for _, kid := range free[first:] {
			letters += kid.letter
			alls = kid.alls
		}
		if l.letter == "s" {
			alls++
		} else {
			alls = 0
		}
		if !l.numFits(n.Num) || !l.textFits(n.Text) || !l.kidsFit(n.Num, letters) || alls > 1000 {
			return false
		}
		free = append(free[:first], part{l.letter, alls})
	}
	return len(free) == 1 && free[0].letter == "c"
}

func TestFormKids(t *testing.T) {
	all, longest := []string{""}, []string{""}
	for range 4 {
		longer := []string{}
		for _, front := range longest {
			for _, letter := range "ctsprb" {
				longer = append(longer, front+string(letter))
			}
		}
		all, longest = append(all, longer...), longer
	}
	for _, l := range codeList() {
		for _, letters := range all {
			it := codeLettered(l.kind, l.someNum(), l.someText(), letters)
			house := codeHouses(l.letter, it)[0]
			if want := l.kidsFit(l.someNum(), letters); impl.Form(house) != want {
				t.Fatalf("%s of %q: %v, want %v", codeKindName(l.kind), letters, !want, want)
			}
		}
		if !l.kidsFit(l.someNum(), l.some) {
			t.Fatalf("%s does not fit %s", codeKindName(l.kind), l.some)
		}
		formIs(t, l.letter, codeLettered(l.kind, l.someNum(), l.someText(), l.some), true)
		// What stands nowhere in code, in each place.
		for _, other := range "ovm" {
			for i := range l.some {
				formIs(t, l.letter, codeLettered(l.kind, l.someNum(), l.someText(), l.some[:i]+string(other)+l.some[i+1:]), false)
			}
			formIs(t, l.letter, codeLettered(l.kind, l.someNum(), l.someText(), l.some+string(other)), false)
			formIs(t, l.letter, codeLettered(l.kind, l.someNum(), l.someText(), string(other)+l.some), false)
		}
	}
}

// Parts that are not code have no form by themselves.
func TestFormAlone(t *testing.T) {
	for _, l := range codeList() {
		it := codeLettered(l.kind, l.someNum(), l.someText(), l.some)
		if got := impl.Form(it); got != (l.letter == "c") {
			t.Errorf("%s by itself: %v", codeShown(it), got)
		}
	}
	for letter, part := range codeParts() {
		if got := impl.Form(part); got != (letter == 'c') {
			t.Errorf("%s by itself: %v", codeShown(part), got)
		}
	}
}

func TestFormNums(t *testing.T) {
	for _, l := range codeList() {
		for _, num := range []int64{math.MinInt64, -71, -10, -9, -8, -7, -6, -5, -4, -3, -2, -1, 0, 1, 2, 1000, 1 << 32, math.MaxInt64} {
			some := l.some
			if l.kind == impl.CGiven && num == -8 {
				some = "t"
			}
			formIs(t, l.letter, codeLettered(l.kind, num, l.someText(), some), l.numFits(num))
		}
	}
}

func TestFormTexts(t *testing.T) {
	texts := append(strings.Fields(binaryTexts+" Match Bind Matc Matched match BIND Div x Con nil true :: ~ ! - !! andalso orelse 0 'a unit int list"),
		"", " ", " +", "+ ", "Match ", "\x00", "\xff", strings.Repeat("s", impl.MaxString), strings.Repeat("s", impl.MaxString+1))
	for _, l := range codeList() {
		for _, text := range texts {
			formIs(t, l.letter, codeLettered(l.kind, l.someNum(), text, l.some), l.textFits(text))
		}
	}
}

// Every node is asked for At 0, wherever it stands.
func TestFormPlaces(t *testing.T) {
	for _, l := range codeList() {
		it := codeLettered(l.kind, l.someNum(), l.someText(), l.some)
		for _, house := range codeHouses(l.letter, it) {
			for i := range house {
				for _, at := range []int{1, -1, math.MaxInt, math.MinInt} {
					placed := slices.Clone(house)
					placed[i].At = at
					if impl.Form(placed) {
						t.Fatalf("%s: node %d with At %d", codeShown(placed), i, at)
					}
				}
			}
		}
	}
}

// The given values: a type for ref alone.
func TestFormGiven(t *testing.T) {
	for num := int64(-10); num <= 1; num++ {
		for _, letters := range []string{"", "t", "tt", "s", "c", "p"} {
			want := -8 <= num && num <= -1 && (num == -8) == (letters == "t") && isOneOf(letters, "", "t")
			formIs(t, "c", codeLettered(impl.CGiven, num, "", letters), want)
		}
	}
}

func TestFormKinds(t *testing.T) {
	listed := map[int]bool{}
	for _, l := range codeList() {
		listed[l.kind] = true
	}
	for kind := -5; kind < 120; kind++ {
		for _, some := range []string{"", "c", "cc", "t", "tc", "p", "pc"} {
			for _, num := range []int64{0, 1} {
				it := codeLettered(kind, num, "", some)
				for _, letter := range []string{"c", "t", "p"} {
					for _, house := range codeHouses(letter, it) {
						if impl.Form(house) != formAgain(house) || !listed[kind] && impl.Form(house) && slices.ContainsFunc(house, func(n impl.Node) bool { return n.Kind == kind }) {
							t.Fatalf("%s: %v", codeShown(house), impl.Form(house))
						}
					}
				}
			}
		}
	}
	for _, kind := range []int{math.MinInt, math.MaxInt, -1, 1 << 40} {
		if impl.Form([]impl.Node{{Kind: kind}}) {
			t.Errorf("kind %d", kind)
		}
	}
}

// Types: TNums with a number above 0, no unknowns, and as many kids as plain types have.
func TestFormTypes(t *testing.T) {
	for _, text := range []string{"#1", "#9223372036854775807", "int", "nowhere(int, #2, (), list(#3))", "()", "(#1, #2)", "[#1, [#2, ()]]"} {
		formIs(t, "t", plainOf(t, text), true)
	}
	for _, text := range []string{"?1", "list(?1)", "[#1, ?1]", "(int, ?2)"} {
		formIs(t, "t", plainOf(t, text), false)
	}
	one := unplaced(impl.TCon, 0, "int")
	for _, ty := range [][]impl.Node{
		unplaced(impl.TTuple, 0, "", one), unplaced(impl.TArrow, 0, "", one), unplaced(impl.TArrow, 0, ""), unplaced(impl.TArrow, 0, "", one, one, one),
		unplaced(impl.TNum, 0, ""), unplaced(impl.TNum, -1, ""), unplaced(impl.TNum, 1, "", one), unplaced(impl.TVar, 0, "a"), unplaced(impl.TMeta, 0, ""), unplaced(impl.TNum, 1, "a"), unplaced(impl.TCon, 1, "int"),
	} {
		formIs(t, "t", ty, false)
	}
	// Sizes that chapter 7 and 8 do not take.
	formIs(t, "t", unplaced(impl.TTuple, 0, "", slices.Repeat([][]impl.Node{one}, impl.MaxNodes)...), true)
	formIs(t, "t", listsOf(2*impl.MaxDeep, one), true)
}

func listsOf(n int, ty []impl.Node) []impl.Node {
	return slices.Concat(ty, slices.Repeat([]impl.Node{{Kind: impl.TCon, Text: "list", Kids: 1}}, n))
}

// allsOver puts so many TAlls in front of a type.
func allsOver(n int, ty []impl.Node) []impl.Node {
	out := slices.Clone(ty)
	for i := range n {
		out = append(out, impl.Node{Kind: impl.TAll, Num: int64(n - i), Kids: 1})
	}
	return out
}

func TestFormSchemes(t *testing.T) {
	one, arrow := unplaced(impl.TCon, 0, "int"), plainOf(t, "[#1, #1]")
	for n, want := range map[int]bool{0: true, 1: true, 2: true, 999: true, 1000: true, 1001: false, 2000: false} {
		for _, ty := range [][]impl.Node{one, arrow, unplaced(impl.TTuple, 0, "")} {
			scheme := allsOver(n, ty)
			for _, house := range codeHouses("s", scheme)[:2] {
				if impl.Form(house) != want {
					t.Errorf("%d TAlls: %v", n, !want)
				}
			}
			// Where a type is asked for, there are none.
			if n > 0 {
				for _, house := range codeHouses("t", scheme)[3:7] {
					if impl.Form(house) {
						t.Errorf("%d TAlls in %s", n, codeShown(house[len(house)-1:]))
					}
				}
			}
		}
	}
	// Several schemes each have their own TAlls, however near they stand.
	c := unplaced(impl.CInt, 1, "")
	many := unplaced(impl.CLet, 1, "", allsOver(1000, one), unplaced(impl.CFix, 0, "", unplaced(impl.CBnd, 1, "", allsOver(1000, one), c), unplaced(impl.CBnd, 2, "", allsOver(1000, arrow), c), c), unplaced(impl.CLet, 1, "", allsOver(1000, one), c, c))
	if !impl.Form(many) || !formAgain(many) {
		t.Error("many schemes")
	}
	inside := allsOver(1, one)
	for _, ty := range [][]impl.Node{unplaced(impl.TArrow, 0, "", one, inside), unplaced(impl.TArrow, 0, "", inside, one), unplaced(impl.TTuple, 0, "", inside, one), unplaced(impl.TCon, 0, "list", inside)} {
		formIs(t, "s", ty, false)
		formIs(t, "s", allsOver(3, ty), false)
	}
	// The same number twice is in form: what it means is not looked at here.
	formIs(t, "s", unplaced(impl.TAll, 1, "", unplaced(impl.TAll, 1, "", one)), true)
	formIs(t, "s", unplaced(impl.TAll, 0, "", one), false)
	formIs(t, "s", unplaced(impl.TAll, -1, "", one), false)
	formIs(t, "s", unplaced(impl.TAll, 1, "a", one), false)
	formIs(t, "s", unplaced(impl.TAll, 1, ""), false)
	formIs(t, "s", unplaced(impl.TAll, 1, "", one, one), false)
	formIs(t, "s", unplaced(impl.TAll, 1, "", c), false)
	formIs(t, "s", unplaced(impl.TAll, 1, "", typeMeta(1)), false)
}

func TestFormNoTerms(t *testing.T) {
	one := impl.Node{Kind: impl.CInt, Num: 1}
	with := func(kids int) impl.Node { return impl.Node{Kind: impl.CTuple, Kids: kids} }
	for name, list := range map[string][]impl.Node{
		"nil": nil, "empty": {}, "two": {one, one}, "three with a pair": {one, one, one, with(2)}, "too many kids": {one, with(2)}, "kids below 0": {one, with(-1)}, "most kids": {one, one, with(math.MaxInt)}, "least kids": {one, one, with(math.MinInt)},
		"root with kids alone": {with(2)}, "two with kids": {one, one, with(2), with(0)},
	} {
		if impl.Form(list) || formAgain(list) {
			t.Errorf("%s is in form", name)
		}
	}
	for name, list := range badLists() {
		if impl.Form(list) {
			t.Errorf("%s is in form", name)
		}
	}
	for name, list := range goodTerms() {
		if impl.Form(list) != formAgain(list) {
			t.Errorf("%s: %v", name, impl.Form(list))
		}
	}
}

func TestFormLimits(t *testing.T) {
	one, max := impl.Node{Kind: impl.CInt, Num: 1}, impl.MaxCode
	un, all, lam := impl.Node{Kind: impl.CUn, Text: "~", Kids: 1}, impl.Node{Kind: impl.CAll, Num: 1, Kids: 1}, impl.Node{Kind: impl.CLam, Num: 1, Kids: 2}
	some := impl.Node{Kind: impl.PCon, Text: "Some", Kids: 1}
	wide := func(n int) []impl.Node {
		return append(slices.Repeat([]impl.Node{one}, n-1), impl.Node{Kind: impl.CTuple, Kids: n - 1})
	}
	for name, c := range map[string]func(n int) []impl.Node{
		"a tuple":   wide,
		"operators": func(n int) []impl.Node { return append([]impl.Node{one}, slices.Repeat([]impl.Node{un}, n-1)...) },
		"variables": func(n int) []impl.Node { return append([]impl.Node{one}, slices.Repeat([]impl.Node{all}, n-1)...) },
		"a type":    func(n int) []impl.Node { return append(append(listsOf(n-3, unitType), one), lam) },
		"a pattern": func(n int) []impl.Node {
			return slices.Concat([]impl.Node{one}, wildPat, slices.Repeat([]impl.Node{some}, n-5), []impl.Node{one, {Kind: impl.CRule, Kids: 2}, {Kind: impl.CTry, Kids: 2}})
		},
		"a wide con": func(n int) []impl.Node {
			return append(slices.Repeat(unitType, n-1), impl.Node{Kind: impl.CCon, Kids: n - 1})
		},
	} {
		for n, want := range map[int]bool{max - 1: true, max: true, max + 1: false, 2 * max: false} {
			it := c(n)
			if len(it) != n {
				t.Fatalf("%s: %d nodes", name, len(it))
			}
			soon(t, name, func() {
				if impl.Form(it) != want {
					t.Errorf("%s of %d nodes: %v", name, n, !want)
				}
			})
		}
		// The last node is looked at, and the first, and one in between.
		it := c(max)
		for _, i := range []int{0, 1, max / 2, max - 1} {
			wrong := slices.Clone(it)
			wrong[i].At = 1
			if impl.Form(wrong) {
				t.Errorf("%s: node %d", name, i)
			}
		}
	}
}

// Code of programs, with something changed in it.
func TestFormChanged(t *testing.T) {
	rnd, good, bad := rand.New(rand.NewSource(11)), 0, 0
	codedPrograms(t, 60, func(c *coder, src string, program []impl.Node) {
		it, code := impl.Elaborate(program)
		if code != impl.CoOk {
			return
		}
		for range 40 {
			changed := changedCode(rnd, it)
			want := formAgain(changed)
			if impl.Form(changed) != want {
				t.Fatalf("%s: %v, want %v", codeShown(changed), !want, want)
			}
			if want {
				good++
			} else {
				bad++
			}
		}
	})
	if good < 500 || bad < 500 {
		t.Errorf("%d in form, %d not", good, bad)
	}
}

func changedCode(rnd *rand.Rand, c []impl.Node) []impl.Node {
	out := slices.Clone(c)
	i, k := rnd.Intn(len(out)), rnd.Intn(len(out))
	switch n := &out[i]; rnd.Intn(8) {
	case 0:
		n.Kind = []int{impl.TCon, impl.TNum, impl.TMeta, impl.TAll, impl.PWild, impl.PVar, impl.EInt}[rnd.Intn(7)]
	case 1:
		n.Kind = impl.CVar + rnd.Intn(22)
	case 2:
		n.Num = int64(rnd.Intn(12) - 9)
	case 3:
		n.Text = []string{"", "Match", "Bind", "+", "~", "!", "int"}[rnd.Intn(7)]
	case 4:
		n.Kids += rnd.Intn(3) - 1
	case 5:
		n.At = rnd.Intn(2)
	case 6:
		out[i], out[k] = out[k], out[i]
	case 7:
		out = slices.Delete(out, i, i+1)
	}
	return out
}

func TestFormMemory(t *testing.T) {
	c, _ := impl.Elaborate(resolved(t, "fun f x = (x, x) val a = f 1"))
	arguments := &kept{}
	it := arguments.roomy(c)
	if !impl.Form(it) || impl.Form(it[:len(it)-1]) || !arguments.stay() {
		t.Error("Form writes into its argument")
	}
}
