package tests

import (
	"math"
	"slices"
	"testing"

	"loop.example/s02665/impl"
)

// term makes a term whose nodes all differ in At as well, so that a node that is lost or moved is seen.
func term(root impl.Node, kids ...[]impl.Node) []impl.Node {
	out := slices.Concat(kids...)
	root.Kids = len(kids)
	root.At = 100 + len(out)
	return append(out, root)
}

func leaf(text string) []impl.Node {
	return term(impl.Node{Kind: 3, Num: 7, Text: text})
}

// chain is n nodes and n deep.
func chain(n int) []impl.Node {
	t := make([]impl.Node, n)
	for i := 1; i < n; i++ {
		t[i].Kids = 1
	}
	return t
}

// fan is n nodes, all but the root its kids.
func fan(n int) []impl.Node {
	t := make([]impl.Node, n)
	t[n-1].Kids = n - 1
	return t
}

func goodTerms() map[string][]impl.Node {
	a, b := leaf("a"), leaf("b\x00\xff")
	two := term(impl.Node{Kind: -4, Num: math.MinInt64}, a, b)
	one := term(impl.Node{Kind: 5, Text: "one"}, two)
	return map[string][]impl.Node{
		"one node":       a,
		"zero node":      {{}},
		"one kid":        one,
		"two kids":       two,
		"several sizes":  term(impl.Node{Kind: 6, Num: -1}, one, a, two, one, b),
		"large kid last": term(impl.Node{Kind: 6}, a, term(impl.Node{Kind: 9}, b, a, one)),
		"deepest":        chain(impl.MaxDeep),
		"widest":         fan(impl.MaxNodes),
		"wide and deep":  term(impl.Node{Kind: 2}, chain(impl.MaxDeep-1), fan(impl.MaxNodes-impl.MaxDeep)),
	}
}

func badLists() map[string][]impl.Node {
	two := term(impl.Node{}, leaf("a"), leaf("b"))
	return map[string][]impl.Node{
		"nil":                     nil,
		"empty":                   {},
		"two leaves":              {{}, {}},
		"two terms":               slices.Concat(two, two),
		"two terms, one a leaf":   slices.Concat(leaf("a"), two),
		"leaf behind a term":      slices.Concat(two, leaf("a")),
		"kids of nothing":         {{Kids: 1}},
		"one kid too many":        {{}, {}, {Kids: 3}},
		"one kid too few":         {{}, {}, {Kids: 1}},
		"too many further down":   {{}, {Kids: 2}, {Kids: 1}},
		"too many at the front":   {{Kids: 1}, {}, {Kids: 2}},
		"kids stand behind":       {{Kids: 1}, {}},
		"below 0":                 {{Kids: -1}},
		"below 0 behind a leaf":   {{}, {Kids: -1}},
		"below 0 further down":    {{}, {Kids: -1}, {Kids: 2}},
		"least number of kids":    {{}, {Kids: math.MinInt}},
		"below 0 by the size":     {{}, {}, {Kids: -2}},
		"greatest number":         {{}, {Kids: math.MaxInt}},
		"wraps at 32 bits":        {{}, {Kids: 1<<32 + 1}},
		"greatest further down":   {{}, {Kids: math.MaxInt}, {Kids: 1}},
		"one node too many":       fan(impl.MaxNodes + 1),
		"far too many nodes":      fan(50 * impl.MaxNodes),
		"one too deep":            chain(impl.MaxDeep + 1),
		"a kid as deep as can be": term(impl.Node{}, leaf("a"), chain(impl.MaxDeep)),
		"the first kid too deep":  term(impl.Node{}, chain(impl.MaxDeep), leaf("a")),
	}
}

func TestTermLimits(t *testing.T) {
	if impl.MaxNodes != 6000 || impl.MaxDeep != 300 {
		t.Fatal("limits", impl.MaxNodes, impl.MaxDeep)
	}
	if !impl.Good(fan(6000)) || impl.Good(fan(6001)) {
		t.Error("6000 nodes are good, 6001 are not")
	}
	if !impl.Good(chain(300)) || impl.Good(chain(301)) {
		t.Error("300 deep is good, 301 is not")
	}
	if impl.Deep(fan(6000)) != 2 || impl.Deep(fan(6001)) != 0 || impl.Deep(chain(300)) != 300 || impl.Deep(chain(301)) != 0 {
		t.Error("Deep at the limits")
	}
	if len(impl.Kids(fan(6000))) != 5999 || len(impl.Kids(chain(300))) != 1 || len(impl.Kids(chain(300))[0]) != 299 {
		t.Error("Kids at the limits")
	}
	if len(impl.Part(chain(300), 298)) != 299 || len(impl.Part(fan(6000), 5998)) != 1 {
		t.Error("Part at the limits")
	}
}

func TestTermBad(t *testing.T) {
	for name, b := range badLists() {
		if impl.Good(b) {
			t.Error(name, "is good")
		}
		if kids := impl.Kids(b); len(kids) != 0 {
			t.Error(name, "has kids", kids)
		}
		if d := impl.Deep(b); d != 0 {
			t.Error(name, "is deep", d)
		}
		for _, i := range []int{math.MinInt, -1, 0, len(b) - 2, len(b) - 1, len(b), math.MaxInt} {
			if p := impl.Part(b, i); len(p) != 0 {
				t.Error(name, "has a part", i, p)
			}
		}
	}
}

// Promise 1, its first half.
func TestTermKidsJoined(t *testing.T) {
	for name, g := range goodTerms() {
		kids := impl.Kids(g)
		root := g[len(g)-1]
		if len(kids) != root.Kids {
			t.Error(name, len(kids), "kids, want", root.Kids)
		}
		for _, other := range []int{root.Kids, 0, -1, 77, math.MaxInt, math.MinInt} {
			root.Kids = other
			if !slices.Equal(impl.Join(root, kids), g) {
				t.Error(name, "is not its kids with the root, whose Kids was", other)
			}
		}
		for k, kid := range kids {
			if !impl.Good(kid) {
				t.Error(name, "kid", k, "is not good")
			}
		}
	}
}

// Promise 1, its second half.
func TestTermPartsOfKids(t *testing.T) {
	for name, g := range goodTerms() {
		if !slices.Equal(impl.Part(g, len(g)-1), g) {
			t.Error(name, "the part at the root is not the term")
		}
		from, root := 0, g[len(g)-1]
		for k, kid := range impl.Kids(g) {
			if k < 10 || k > root.Kids-10 { // of very many kids those at both ends
				partsOfKid(t, name, g, from, kid)
			}
			from += len(kid)
		}
		for _, i := range []int{math.MinInt, -len(g), -1, len(g), len(g) + 1, math.MaxInt} {
			if p := impl.Part(g, i); len(p) != 0 {
				t.Error(name, "has a part", i, p)
			}
		}
	}
}

func partsOfKid(t *testing.T, name string, g []impl.Node, from int, kid []impl.Node) {
	t.Helper()
	for i := range kid {
		if i > 300 && i < len(kid)-10 {
			continue
		}
		if !slices.Equal(impl.Part(g, from+i), impl.Part(kid, i)) {
			t.Error(name, "the part", i, "of the kid from", from, "on")
		}
	}
}

func TestTermDeep(t *testing.T) {
	for name, g := range goodTerms() {
		deepest := 0
		for _, kid := range impl.Kids(g) {
			deepest = max(deepest, impl.Deep(kid))
		}
		if impl.Deep(g) != deepest+1 {
			t.Error(name, "is deep", impl.Deep(g), "and its deepest kid", deepest)
		}
	}
	a := leaf("a")
	two := term(impl.Node{}, a, a)
	for want, g := range [][]impl.Node{nil, a, two, term(impl.Node{}, a, two, a), term(impl.Node{}, term(impl.Node{}, two), a)} {
		if impl.Deep(g) != want {
			t.Error(impl.Deep(g), "deep, want", want)
		}
	}
}

func TestTermKidsTold(t *testing.T) {
	a, b := leaf("a"), leaf("b")
	two := term(impl.Node{Kind: 4}, a, b)
	want := [][]impl.Node{b, two, a, two}
	got := impl.Kids(term(impl.Node{Kind: 5}, want...))
	if !slices.EqualFunc(got, want, slices.Equal) {
		t.Error(got, "want", want)
	}
	if len(impl.Kids(a)) != 0 {
		t.Error("a leaf has kids")
	}
}

// Every list of up to 5 nodes with up to 4 kids a node is held against the definition.
func TestTermAllSmall(t *testing.T) {
	good := 0
	for size := 0; size <= 5; size++ {
		list := make([]impl.Node, size)
		for i := range list {
			list[i] = impl.Node{Kind: i, Num: int64(10 * i), At: 5 - i, Kids: -1}
		}
		for {
			from, deep, ok := readBack(list, size)
			ok = ok && from == 0
			if ok {
				good++
				checkSmall(t, list, deep)
			} else if impl.Good(list) || impl.Deep(list) != 0 || len(impl.Kids(list)) != 0 || len(impl.Part(list, size-1)) != 0 {
				t.Error("no term:", list)
			}
			if !nextKids(list) {
				break
			}
		}
	}
	if good != 1+1+2+5+14 { // as many as there are ordered trees
		t.Error(good, "good lists")
	}
}

// nextKids counts on through the numbers of kids, from -1 to 4 each.
func nextKids(list []impl.Node) bool {
	for i := range list {
		if list[i].Kids < 4 {
			list[i].Kids++
			return true
		}
		list[i].Kids = -1
	}
	return false
}

// readBack reads the term that ends in front of end, from the root to the front.
func readBack(list []impl.Node, end int) (int, int, bool) {
	if end == 0 || list[end-1].Kids < 0 {
		return 0, 0, false
	}
	from, deep := end-1, 1
	for range list[end-1].Kids {
		f, d, ok := readBack(list, from)
		if !ok {
			return 0, 0, false
		}
		from, deep = f, max(deep, d+1)
	}
	return from, deep, true
}

func checkSmall(t *testing.T, list []impl.Node, deep int) {
	t.Helper()
	if !impl.Good(list) || impl.Deep(list) != deep {
		t.Error("a term:", list, impl.Deep(list), "deep, want", deep)
	}
	for i := range list {
		from, _, _ := readBack(list, i+1)
		if !slices.Equal(impl.Part(list, i), list[from:i+1]) {
			t.Error("part", i, "of", list, "is", impl.Part(list, i))
		}
	}
	end := len(list) - 1
	for k, kid := range slices.Backward(impl.Kids(list)) {
		from, _, _ := readBack(list, end)
		if !slices.Equal(kid, list[from:end]) {
			t.Error("kid", k, "of", list, "is", kid)
		}
		end = from
	}
	if end != 0 {
		t.Error("kids left out of", list)
	}
}

func TestTermJoin(t *testing.T) {
	root := impl.Node{Kind: 9, Num: -3, Text: "r", Kids: 5, At: 8}
	bare := root
	bare.Kids = 0
	for _, none := range [][][]impl.Node{nil, {}} {
		if !slices.Equal(impl.Join(root, none), []impl.Node{bare}) {
			t.Error("join of nothing", impl.Join(root, none))
		}
	}
	with := root
	with.Kids = 3
	bad := impl.Node{Kids: -7, At: 4}
	// Kids that are no terms are taken as they are, and the empty one counts.
	got := impl.Join(root, [][]impl.Node{{bad, {Kids: 2}}, nil, {{Text: "z"}}})
	if !slices.Equal(got, []impl.Node{bad, {Kids: 2}, {Text: "z"}, with}) {
		t.Error("join of no terms", got)
	}
	large := impl.Join(impl.Node{Kind: 1}, [][]impl.Node{fan(impl.MaxNodes), chain(impl.MaxDeep)})
	if len(large) != impl.MaxNodes+impl.MaxDeep+1 || impl.Good(large) {
		t.Error("join beyond the limits has", len(large), "nodes")
	}
}

func TestTermSame(t *testing.T) {
	one := impl.Node{Kind: 1, Num: 2, Text: "x", Kids: 3, At: 4}
	front := impl.Node{Kind: 8}
	for name, change := range map[string]func(*impl.Node){
		"Kind": func(n *impl.Node) { n.Kind = -1 },
		"Num":  func(n *impl.Node) { n.Num = -2 },
		"Text": func(n *impl.Node) { n.Text = "X" },
		"Kids": func(n *impl.Node) { n.Kids = 0 },
	} {
		other := one
		change(&other)
		for _, lists := range [][2][]impl.Node{{{one}, {other}}, {{one, front}, {other, front}}, {{front, one}, {front, other}}} {
			if impl.Same(lists[0], lists[1]) || impl.Same(lists[1], lists[0]) {
				t.Error("another", name, "is the same")
			}
		}
	}
	moved := one
	moved.At = -9
	if !impl.Same([]impl.Node{one, front, one}, []impl.Node{moved, front, moved}) {
		t.Error("another At is not the same")
	}
	if !impl.Same(nil, nil) || !impl.Same(nil, []impl.Node{}) || !impl.Same([]impl.Node{}, nil) {
		t.Error("empty lists are not the same")
	}
	for _, short := range [][]impl.Node{nil, {one}, {one, front}} {
		long := append(slices.Clone(short), impl.Node{})
		if impl.Same(short, long) || impl.Same(long, short) {
			t.Error("lists of two sizes are the same", short)
		}
	}
	for name, b := range badLists() {
		if !impl.Same(b, slices.Clone(b)) {
			t.Error(name, "is not the same as itself")
		}
	}
}

// roomy is the list with spare memory behind it, as a caller's own would have.
func roomy(list []impl.Node) []impl.Node {
	room := make([]impl.Node, len(list)+8)
	copy(room, list)
	for i := range room[len(list):] {
		room[len(list)+i].Text = "behind"
	}
	return room[:len(list)]
}

// spoil writes over all memory that a list can reach.
func spoil(list []impl.Node) {
	all := list[:cap(list)]
	for i := range all {
		all[i] = impl.Node{Kind: -99, Num: -99, Text: "spoilt", Kids: -99, At: -99}
	}
}

func whole(list []impl.Node) []impl.Node {
	return slices.Clone(list[:cap(list)])
}

func TestTermMemoryOfKids(t *testing.T) {
	for name, g := range goodTerms() {
		if len(g) > 2*impl.MaxDeep {
			continue
		}
		arg := roomy(g)
		before := whole(arg)
		for k := range impl.Kids(arg) {
			kids, want := impl.Kids(arg), impl.Kids(g)
			spoil(kids[k])
			for other := range kids {
				if other != k && !slices.Equal(kids[other], want[other]) {
					t.Error(name, "kids", k, "and", other, "share memory")
				}
			}
		}
		if !slices.Equal(whole(arg), before) {
			t.Error(name, "Kids shares memory with its argument")
		}
		kids, want := impl.Kids(arg), impl.Kids(g)
		spoil(arg)
		if !slices.EqualFunc(kids, want, slices.Equal) {
			t.Error(name, "kids change with the argument")
		}
	}
}

func TestTermMemoryOfPart(t *testing.T) {
	for name, g := range goodTerms() {
		for _, i := range []int{0, len(g) / 2, len(g) - 1} {
			arg := roomy(g)
			before := whole(arg)
			spoil(impl.Part(arg, i))
			if !slices.Equal(whole(arg), before) {
				t.Error(name, "Part", i, "shares memory with its argument")
			}
			if !slices.Equal(impl.Part(arg, i), impl.Part(g, i)) {
				t.Error(name, "Part", i, "answers otherwise the second time")
			}
		}
	}
}

func TestTermMemoryOfJoin(t *testing.T) {
	root := impl.Node{Kind: 9, Kids: 40}
	for _, sizes := range [][]int{{}, {1}, {3}, {1, 2}, {5, 0, 1}} {
		kids, before := [][]impl.Node{}, [][]impl.Node{}
		for _, n := range sizes {
			kids = append(kids, roomy(make([]impl.Node, n)))
			before = append(before, whole(kids[len(kids)-1]))
		}
		got := impl.Join(root, kids)
		want := slices.Clone(got)
		spoil(got)
		for k := range kids {
			if !slices.Equal(whole(kids[k]), before[k]) {
				t.Error("Join writes into kid", k, "of", sizes)
			}
		}
		if again := impl.Join(root, kids); !slices.Equal(again, want) {
			t.Error("Join answers otherwise the second time", sizes)
		}
	}
	// Kids that are cut out of one list side by side: the root may not land on the second.
	list := []impl.Node{{Num: 1}, {Num: 2}, {Num: 3}}
	before := slices.Clone(list)
	impl.Join(root, [][]impl.Node{list[:1], list[1:2]})
	if !slices.Equal(list, before) {
		t.Error("Join writes behind a kid", list)
	}
}

func TestTermArgumentsStay(t *testing.T) {
	for _, lists := range []map[string][]impl.Node{goodTerms(), badLists()} {
		for name, list := range lists {
			arg := roomy(list)
			before := whole(arg)
			impl.Good(arg)
			impl.Deep(arg)
			impl.Kids(arg)
			impl.Same(arg, arg)
			impl.Part(arg, 0)
			impl.Part(arg, len(arg)-1)
			impl.Part(arg, len(arg))
			impl.Join(impl.Node{}, [][]impl.Node{arg, arg})
			if !slices.Equal(whole(arg), before) {
				t.Error(name, "was written into")
			}
		}
	}
}
