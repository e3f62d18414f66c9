package tests

import (
	"slices"
	"testing"

	"loop.example/s02665/impl"
)

// kept are lists with room behind them, and what they were at first.
type kept struct {
	lists  [][]impl.Node
	before [][]impl.Node
}

func (k *kept) roomy(list []impl.Node) []impl.Node {
	room := roomy(list)
	k.lists, k.before = append(k.lists, room), append(k.before, whole(room))
	return room
}

func (k *kept) pairs(pairs []impl.Pair) []impl.Pair {
	out := []impl.Pair{}
	for _, p := range pairs {
		out = append(out, impl.Pair{A: k.roomy(p.A), B: k.roomy(p.B)})
	}
	return out
}

func (k *kept) binds(binds []impl.Bind) []impl.Bind {
	out := []impl.Bind{}
	for _, b := range binds {
		out = append(out, impl.Bind{Num: b.Num, Type: k.roomy(b.Type)})
	}
	return out
}

func (k *kept) stay() bool {
	for i, list := range k.lists {
		if !slices.Equal(whole(list), k.before[i]) {
			return false
		}
	}
	return true
}

func (k *kept) spoil() {
	for _, list := range k.lists {
		spoil(list)
	}
}

// sharesNothing calls something again and again and spoils lists of its answer. None of the others may
// change by that, no argument may, and no answer may change with an argument.
func sharesNothing(t *testing.T, name string, arguments *kept, call func() [][]impl.Node) {
	t.Helper()
	want := [][]impl.Node{}
	for _, list := range call() {
		want = append(want, slices.Clone(list))
	}
	for k := range want {
		got := call()
		spoil(got[k])
		for other := range got {
			if other != k && !slices.Equal(got[other], want[other]) {
				t.Fatalf("%s: lists %d and %d share memory", name, k, other)
			}
		}
	}
	if !arguments.stay() {
		t.Fatalf("%s: an argument was written into, or shares memory with the answer", name)
	}
	last := call()
	if !slices.EqualFunc(last, want, slices.Equal) {
		t.Fatalf("%s: answers otherwise the second time", name)
	}
	arguments.spoil()
	if !slices.EqualFunc(last, want, slices.Equal) {
		t.Fatalf("%s: the answer changes with an argument", name)
	}
}

func typesIn(binds []impl.Bind) [][]impl.Node {
	out := [][]impl.Node{}
	for _, b := range binds {
		out = append(out, b.Type)
	}
	return out
}

func TestEquationMemoryOfSolve(t *testing.T) {
	for _, text := range []string{
		"?1 = int", "int = int", "?1 = ?2; ?2 = ?3", "?1 = list(?4); ?2 = ?1; ?3 = list(?1); ?5 = ?2", "(?1, ?2, ?3) = (?2, ?3, [int, #1])", "?1 = int; ?1 = string", "?1 = list(?1)",
		"?1 = (?2, ?2); ?2 = (?3, ?3); ?3 = (?4, ?4); ?4 = (?5, ?5)",
	} {
		arguments := &kept{}
		pairs := arguments.pairs(pairsOf(t, text))
		before := slices.Clone(pairs)
		sharesNothing(t, text, arguments, func() [][]impl.Node { return typesIn(impl.Solve(pairs).Binds) })
		for i, p := range pairs {
			if len(p.A) != len(before[i].A) || len(p.B) != len(before[i].B) || &p.A[0] != &before[i].A[0] || &p.B[0] != &before[i].B[0] {
				t.Errorf("%s: pair %d is another one", text, i)
			}
		}
	}
	for _, pairs := range [][]impl.Pair{doubling(1, 7), doubling(1, 8), {{A: nil, B: typeNum(1)}}, {{A: typeNum(0), B: typeMeta(1)}}} {
		arguments := &kept{}
		it := arguments.pairs(pairs)
		sharesNothing(t, pairsShown(pairs), arguments, func() [][]impl.Node { return typesIn(impl.Solve(it).Binds) })
	}
}

func TestEquationMemoryOfTheOthers(t *testing.T) {
	for _, ty := range [][]impl.Node{plainOf(t, "int"), plainOf(t, "?1"), plainOf(t, "(?2, ?1, list(?2))"), plainOf(t, "[#1, ()]"), wideOf(300, typeMeta(1)), sized(301, typeMeta(2)), nil, typeNum(0)} {
		arguments := &kept{}
		it, other := arguments.roomy(ty), arguments.roomy(plainOf(t, "?1"))
		binds := arguments.binds(bindsOf(t, "2 (?2, ?1); 7 int; 2 string"))
		nums := [][]int64{}
		sharesNothing(t, plainShown(ty), arguments, func() [][]impl.Node {
			one, _ := impl.Instance(it, it)
			two, _ := impl.Instance(other, it)
			met, _ := impl.Meet(it, other)
			met2, _ := impl.Meet(it, it)
			nums = append(nums, impl.Unknowns(it))
			own := impl.Put(nil, it)
			return slices.Concat([][]impl.Node{impl.Canon(it), impl.Put(binds, it), own, met, met2}, typesIn(one), typesIn(two))
		})
		for _, got := range nums {
			if !slices.Equal(got, nums[0]) {
				t.Errorf("%s: %v", plainShown(ty), got)
			}
		}
	}
	for _, two := range [][2]string{{"", "1 int; 2 list(?1)"}, {"1 int; 2 list(?1); 1 int", ""}, {"1 ?3; 2 ?3; 4 (?3, ?3)", "3 int; 4 int; 5 ?3"}, {"1 ?1", "2 ?2"}} {
		arguments := &kept{}
		first, then := arguments.binds(bindsOf(t, two[0])), arguments.binds(bindsOf(t, two[1]))
		sharesNothing(t, two[0]+" and "+two[1], arguments, func() [][]impl.Node { return typesIn(impl.Compose(first, then)) })
	}
}

// One list may be handed in several times.
func TestEquationOneListForAll(t *testing.T) {
	ty := roomy(plainOf(t, "(?1, [?2, ?1])"))
	before := whole(ty)
	bind := impl.Bind{Num: 1, Type: ty}
	solvesTo(t, []impl.Pair{{A: ty, B: ty}, {A: ty, B: ty}}, "1 ?1; 2 ?2")
	for name, got := range map[string]string{
		"Put":      plainShown(impl.Put([]impl.Bind{bind, bind}, ty)),
		"Compose":  bindsShown(impl.Compose([]impl.Bind{bind}, []impl.Bind{bind})),
		"Compose2": bindsShown(impl.Compose([]impl.Bind{bind, {Num: 3, Type: ty}}, nil)),
	} {
		want := map[string]string{
			"Put":      "((?1, [?2, ?1]), [?2, (?1, [?2, ?1])])",
			"Compose":  "1 ((?1, [?2, ?1]), [?2, (?1, [?2, ?1])])",
			"Compose2": "1 (?1, [?2, ?1]); 3 (?1, [?2, ?1])",
		}[name]
		if got != want {
			t.Errorf("%s: %s, want %s", name, got, want)
		}
	}
	instanceIs(t, ty, ty, "1 ?1; 2 ?2")
	if met, ok := impl.Meet(ty, ty); !ok || plainShown(met) != "(?1, [?2, ?1])" {
		t.Errorf("Meet: %s", plainShown(met))
	}
	if !slices.Equal(whole(ty), before) {
		t.Error("the list was written into")
	}
}

// Maps are gone through in another order each time, and the answers stay.
func TestEquationAnswersTheSame(t *testing.T) {
	for _, text := range []string{
		"?9 = ?5; ?7 = ?3; (?9, ?3) = (?7, ?5); ?20 = (?30, ?9)", "?1 = list(?2); ?3 = list(?4); ?2 = ?3; ?4 = ?1; int = string", "?1 = list(?2); ?2 = list(?1); ?5 = (?6, ?6); ?6 = list(?5)",
	} {
		pairs := pairsOf(t, text)
		want := solutionShown(impl.Solve(pairs))
		for range 100 {
			if got := solutionShown(impl.Solve(pairs)); got != want {
				t.Fatalf("%s: %s and %s", text, want, got)
			}
		}
	}
	first, then := bindsOf(t, "9 ?1; 7 ?2; 8 int; 3 (?1, ?2)"), bindsOf(t, "2 #2; 1 #1; 20 ?20; 5 ?2")
	want := bindsShown(impl.Compose(first, then))
	for range 100 {
		if got := bindsShown(impl.Compose(first, then)); got != want {
			t.Fatalf("%s and %s", want, got)
		}
	}
}

// Circles too are told though types on the way are too large, and the other way round.
func TestSolveCirclesAndSizes(t *testing.T) {
	circle := pairsOf(t, "?10001 = list(?10002); ?10002 = list(?10001)")
	for range 20 {
		noneAt(t, append(doubling(1, 50), circle...), 51)
		noneAt(t, append(slices.Clone(circle), doubling(1, 50)...), 1)
	}
}

// As wide as can be, with each unknown told by another pair, and by the first of them.
func TestSolveWidest(t *testing.T) {
	n := impl.MaxType - 1
	kids, ints := [][]impl.Node{}, [][]impl.Node{}
	for i := range n {
		kids, ints = append(kids, typeMeta(int64(n-i))), append(ints, typeNum(int64(i+1)))
	}
	pairs := slices.Repeat([]impl.Pair{{A: typeTuple(kids...), B: typeTuple(ints...)}}, 33)
	soon(t, "the widest", func() {
		s := impl.Solve(pairs)
		if !s.Ok || len(s.Binds) != n {
			t.Fatalf("%d Binds, %d", len(s.Binds), s.At)
		}
		for i, b := range s.Binds {
			if b.Num != int64(i+1) || plainShown(b.Type) != plainShown(typeNum(int64(n-i))) {
				t.Fatalf("%v", b)
			}
		}
		for _, at := range []int{0, 16, 32} {
			wrong := slices.Clone(pairs)
			wrong[at].B = typeTuple(append(ints[:n-1:n-1], typeTuple())...)
			noneAt(t, wrong, max(at, 1))
		}
	})
}
