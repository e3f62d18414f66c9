package tests

import (
	"maps"
	"math/rand"
	"slices"
	"strconv"
	"testing"

	"loop.example/s02665/impl"
)

// filling gives types to unknowns.
type filling map[int64][]impl.Node

// put fills a type once, however large it becomes.
func (f filling) put(ty []impl.Node) []impl.Node {
	out := []impl.Node{}
	for _, n := range ty {
		if it, ok := f[n.Num]; ok && n.Kind == impl.TMeta {
			out = append(out, it...)
		} else {
			out = append(out, n)
		}
	}
	return out
}

func fillingOf(binds []impl.Bind) filling {
	f := filling{}
	for _, b := range binds {
		if _, ok := f[b.Num]; !ok {
			f[b.Num] = b.Type
		}
	}
	return f
}

// endingAt is the part of a type that ends with a node.
func endingAt(ty []impl.Node, i int) []impl.Node {
	from, open := i+1, 1
	for open > 0 {
		from--
		open += ty[from].Kids - 1
	}
	return ty[from : i+1]
}

// whereApart are the outermost parts, from the right, in which two types differ.
func whereApart(a []impl.Node, b []impl.Node) ([]impl.Node, []impl.Node) {
	i, j := len(a)-1, len(b)-1
	for i >= 0 {
		if a[i] != b[j] {
			return endingAt(a, i), endingAt(b, j)
		}
		i, j = i-1, j-1
	}
	return nil, nil
}

// solve makes two types the same as one does by hand: where they differ first, an unknown is told, and
// that is put in everywhere.
func (f filling) solve(a []impl.Node, b []impl.Node) bool {
	for {
		x, y := whereApart(f.put(a), f.put(b))
		if len(x) == 0 {
			return true
		}
		isUnknown := func(ty []impl.Node) bool { return ty[len(ty)-1].Kind == impl.TMeta }
		if !isUnknown(x) || isUnknown(y) && y[0].Num > x[0].Num {
			x, y = y, x
		}
		if !isUnknown(x) || slices.Contains(y, x[0]) {
			return false
		}
		one := filling{x[0].Num: y}
		for num, ty := range f {
			f[num] = one.put(ty)
		}
		f[x[0].Num] = slices.Clone(y)
	}
}

// solvedAgain is how Solve's answer to pairs of types should be shown.
func solvedAgain(pairs []impl.Pair) string {
	f, all := filling{}, []impl.Node{}
	for i, p := range pairs {
		if !f.solve(p.A, p.B) {
			return "none at " + strconv.Itoa(i)
		}
		all = slices.Concat(all, p.A, p.B)
	}
	binds := []impl.Bind{}
	for _, num := range metasOf(all) {
		binds = append(binds, impl.Bind{Num: num, Type: f.put(typeMeta(num))})
		if len(binds[len(binds)-1].Type) > impl.MaxType {
			return "none at -1"
		}
	}
	return bindsShown(binds)
}

// matches fills what is general, kid by kid.
func (f filling) matches(general []impl.Node, special []impl.Node) bool {
	root := general[len(general)-1]
	if root.Kind == impl.TMeta {
		before, ok := f[root.Num]
		f[root.Num] = special
		return !ok || slices.Equal(before, special)
	}
	if root != special[len(special)-1] {
		return false
	}
	kids := impl.Kids(special)
	for k, kid := range impl.Kids(general) {
		if !f.matches(kid, kids[k]) {
			return false
		}
	}
	return true
}

func (f filling) binds() []impl.Bind {
	binds := []impl.Bind{}
	for _, num := range slices.Sorted(maps.Keys(f)) {
		binds = append(binds, impl.Bind{Num: num, Type: f[num]})
	}
	return binds
}

func instanceAgain(general []impl.Node, special []impl.Node) string {
	f := filling{}
	if !f.matches(general, special) {
		return "no"
	}
	return bindsShown(f.binds())
}

func meetAgain(a []impl.Node, b []impl.Node) string {
	f, other := filling{}, raisedMetas(b, 1<<50)
	if !f.solve(a, other) || len(f.put(a)) > impl.MaxType {
		return "nothing"
	}
	return plainShown(renumberedMetas(f.put(a)))
}

// smallTypes are all types of so many nodes out of two unknowns, int, list and pairs.
func smallTypes(n int) [][]impl.Node {
	if n == 1 {
		return [][]impl.Node{typeMeta(1), typeMeta(2), typeCon("int")}
	}
	types := [][]impl.Node{}
	for _, kid := range smallTypes(n - 1) {
		types = append(types, typeCon("list", kid))
	}
	for left := 1; left < n-1; left++ {
		for _, a := range smallTypes(left) {
			for _, b := range smallTypes(n - 1 - left) {
				types = append(types, typeTuple(a, b))
			}
		}
	}
	return types
}

func smallTypesUpTo(n int) [][]impl.Node {
	types := [][]impl.Node{}
	for size := range n {
		types = append(types, smallTypes(size+1)...)
	}
	return types
}

func checkSolve(t *testing.T, pairs []impl.Pair) impl.Solution {
	t.Helper()
	s := impl.Solve(pairs)
	if got, want := solutionShown(s), solvedAgain(pairs); got != want {
		t.Fatalf("%s\n%s, want %s", pairsShown(pairs), got, want)
	}
	return s
}

func TestSolveAllSmallPairs(t *testing.T) {
	types := smallTypesUpTo(4)
	for _, a := range types {
		for _, b := range types {
			checkSolve(t, []impl.Pair{{A: a, B: b}})
		}
	}
	tiny := smallTypesUpTo(2)
	systems := [][]impl.Pair{{}}
	for range 3 {
		more := [][]impl.Pair{}
		for _, pairs := range systems {
			for _, a := range tiny {
				for _, b := range tiny {
					more = append(more, append(slices.Clone(pairs), impl.Pair{A: a, B: b}))
				}
			}
		}
		systems = more
	}
	for _, pairs := range systems {
		checkSolve(t, pairs)
	}
}

// The eighth promise in its own words, for all small pairs and all small fillings.
func TestSolvePromise(t *testing.T) {
	types, fills := smallTypesUpTo(4), smallTypesUpTo(3)
	for _, a := range types {
		for _, b := range types {
			s := impl.Solve([]impl.Pair{{A: a, B: b}})
			solution := fillingOf(s.Binds)
			if s.Ok && !slices.Equal(solution.put(a), solution.put(b)) {
				t.Fatalf("%s = %s is not solved by %s", plainShown(a), plainShown(b), solutionShown(s))
			}
			for _, one := range fills {
				for _, two := range fills {
					f := filling{1: one, 2: two}
					solves := slices.Equal(f.put(a), f.put(b))
					if solves && (!s.Ok || !comesOf(s.Binds, f)) {
						t.Fatalf("%s = %s: %s, but 1 %s, 2 %s", plainShown(a), plainShown(b), solutionShown(s), plainShown(one), plainShown(two))
					}
				}
			}
		}
	}
}

// comesOf tells whether a filling is what Binds are, filled once more: as no unknown that is told
// stands in a Type, with itself.
func comesOf(binds []impl.Bind, f filling) bool {
	for _, b := range binds {
		if !slices.Equal(f.put(b.Type), f.put(typeMeta(b.Num))) {
			return false
		}
	}
	return true
}

// The ninth promise in its own words: what is an instance of both is one of what they meet in.
func TestMeetPromise(t *testing.T) {
	types, specials := smallTypesUpTo(3), smallTypesUpTo(5)
	for _, a := range types {
		for _, b := range types {
			met, ok := impl.Meet(a, b)
			if got := plainShown(met); got != meetAgain(a, b) {
				t.Fatalf("%s and %s: %s, want %s", plainShown(a), plainShown(b), got, meetAgain(a, b))
			}
			for _, special := range specials {
				_, ofA := impl.Instance(a, special)
				_, ofB := impl.Instance(b, special)
				ofMet := false
				if ok {
					_, ofMet = impl.Instance(met, special)
				}
				if ofMet != (ofA && ofB) {
					t.Fatalf("%s and %s: %s; %s", plainShown(a), plainShown(b), plainShown(met), plainShown(special))
				}
			}
		}
	}
}

func checkInstance(t *testing.T, general []impl.Node, special []impl.Node) bool {
	t.Helper()
	binds, ok := impl.Instance(general, special)
	got := bindsShown(binds)
	if !ok {
		got += "no"
	}
	if want := instanceAgain(general, special); got != want {
		t.Fatalf("%s of %s: %s, want %s", plainShown(special), plainShown(general), got, want)
	}
	if put := impl.Put(binds, general); ok && !slices.Equal(put, special) {
		t.Fatalf("%s of %s: put in, they give %s", plainShown(special), plainShown(general), plainShown(put))
	}
	return ok
}

func TestInstanceAllSmallTypes(t *testing.T) {
	types := smallTypesUpTo(4)
	for _, general := range types {
		for _, special := range smallTypesUpTo(5) {
			checkInstance(t, general, special)
		}
		for _, special := range types {
			checkInstance(t, general, raisedMetas(special, 1))
		}
	}
}

// equater makes types and pairs up.
type equater struct {
	rnd *rand.Rand
}

func (e equater) typ(deep int, unknowns []int64) []impl.Node {
	pick := e.rnd.Intn(10)
	if deep <= 0 || pick < 2 {
		switch pick := e.rnd.Intn(8); {
		case pick < 5 && len(unknowns) > 0:
			return typeMeta(unknowns[e.rnd.Intn(len(unknowns))])
		case pick == 5:
			return typeNum(int64(1 + e.rnd.Intn(2)))
		case pick == 6:
			return typeTuple()
		}
		return typeCon("int")
	}
	one := func() []impl.Node { return e.typ(deep-1, unknowns) }
	switch {
	case pick < 4:
		return typeArrow(one(), one())
	case pick < 6:
		return typeCon("list", one())
	case pick < 9:
		return typeTuple(one(), one())
	}
	return typeCon("t", one(), one(), one())
}

func (e equater) pairs(n int, deep int, unknowns []int64) []impl.Pair {
	pairs := []impl.Pair{}
	for range n {
		pairs = append(pairs, impl.Pair{A: e.typ(e.rnd.Intn(deep+1), unknowns), B: e.typ(e.rnd.Intn(deep+1), unknowns)})
	}
	return pairs
}

// anyNumbers are different and in no order.
func (e equater) anyNumbers(n int) []int64 {
	nums := []int64{}
	for len(nums) < n {
		num := 1 + e.rnd.Int63n(int64(2*n))
		if e.rnd.Intn(8) == 0 {
			num = 1 + e.rnd.Int63()>>(2+e.rnd.Intn(40))
		}
		if !slices.Contains(nums, num) {
			nums = append(nums, num)
		}
	}
	return nums
}

func TestSolveMadeUpPairs(t *testing.T) {
	solved, first, later, large := 0, 0, 0, 0
	for seed := range int64(20000) {
		e := equater{rand.New(rand.NewSource(seed))}
		nums := e.anyNumbers(1 + e.rnd.Intn(12))
		s := checkSolve(t, e.pairs(1+e.rnd.Intn(6), e.rnd.Intn(4), nums))
		switch {
		case s.Ok:
			solved++
			noToldInside(t, s)
		case s.At == 0:
			first++
		case s.At > 0:
			later++
		}
	}
	// Unknowns on one side always make chains, which grow.
	for seed := range int64(3000) {
		e := equater{rand.New(rand.NewSource(seed))}
		pairs := []impl.Pair{}
		for i := range int64(2 + e.rnd.Intn(9)) {
			next := typeMeta(i + 2)
			pairs = append(pairs, impl.Pair{A: typeMeta(i + 1), B: typeArrow(next, e.typ(e.rnd.Intn(3), []int64{i + 2, i + 3}))})
		}
		e.rnd.Shuffle(len(pairs), func(i, j int) { pairs[i], pairs[j] = pairs[j], pairs[i] })
		if s := checkSolve(t, pairs); s.Ok {
			solved++
			noToldInside(t, s)
		} else if s.At == -1 {
			large++
		}
	}
	if solved < 5000 || first < 3000 || later < 3000 || large < 100 {
		t.Errorf("%d solved, %d fail at once, %d later, %d are too large", solved, first, later, large)
	}
}

// noToldInside wants that no Type has an unknown in it that has another Type, and Nums that rise.
func noToldInside(t *testing.T, s impl.Solution) {
	t.Helper()
	f := fillingOf(s.Binds)
	for i, b := range s.Binds {
		if !slices.Equal(f.put(b.Type), b.Type) || i > 0 && s.Binds[i-1].Num >= b.Num {
			t.Fatalf("%s", solutionShown(s))
		}
	}
}

// hidden is a type in which parts that a filling knows have become its unknowns, here and there.
func (e equater) hidden(f filling, ty []impl.Node) []impl.Node {
	if e.rnd.Intn(3) > 0 {
		for _, num := range slices.Sorted(maps.Keys(f)) {
			if e.rnd.Intn(2) == 0 && slices.Equal(f[num], ty) {
				return typeMeta(num)
			}
		}
	}
	kids := [][]impl.Node{}
	for _, kid := range impl.Kids(ty) {
		kids = append(kids, e.hidden(f, kid))
	}
	return impl.Join(ty[len(ty)-1], kids)
}

// parts gives parts of a type to unknowns.
func (e equater) parts(ty []impl.Node, nums []int64) filling {
	f := filling{}
	for _, num := range nums {
		f[num] = slices.Clone(endingAt(ty, e.rnd.Intn(len(ty))))
	}
	return f
}

// What has a solution is solved, and every solution comes of what is found.
func TestSolveHiddenSolutions(t *testing.T) {
	told := 0
	for seed := range int64(6000) {
		e := equater{rand.New(rand.NewSource(seed))}
		nums := e.anyNumbers(2 + e.rnd.Intn(8))
		// The unknowns that stand in the filling's types are others.
		whole := e.typ(4, []int64{1 << 62, 1<<62 + 1})
		f := e.parts(whole, nums)
		pairs := []impl.Pair{}
		for range 1 + e.rnd.Intn(4) {
			ty := endingAt(whole, e.rnd.Intn(len(whole)))
			pairs = append(pairs, impl.Pair{A: e.hidden(f, ty), B: e.hidden(f, ty)})
		}
		s := impl.Solve(pairs)
		if !s.Ok || !comesOf(s.Binds, f) {
			t.Fatalf("%s\n%s, but %s", pairsShown(pairs), solutionShown(s), bindsShown(f.binds()))
		}
		for _, p := range pairs {
			one, other := impl.Put(s.Binds, p.A), impl.Put(s.Binds, p.B)
			if !slices.Equal(one, other) || len(one) == 0 {
				t.Fatalf("%s\n%s", pairsShown(pairs), solutionShown(s))
			}
		}
		noToldInside(t, s)
		for _, b := range s.Binds {
			if len(b.Type) > 1 {
				told++
			}
		}
	}
	if told < 1000 {
		t.Errorf("%d unknowns were told", told)
	}
}

// Types paired with themselves filled are solved, and filled they are what they were filled to.
func TestSolveTypesWithThemselvesFilled(t *testing.T) {
	for seed := range int64(3000) {
		e := equater{rand.New(rand.NewSource(seed))}
		nums := e.anyNumbers(1 + e.rnd.Intn(6))
		// The unknowns that are filled in have lower numbers, so that they stand for those of the type.
		ty := raisedMetas(e.typ(3, nums), 10)
		binds := []impl.Bind{}
		for _, num := range nums {
			binds = append(binds, impl.Bind{Num: num + 10, Type: e.typ(2, []int64{5, 6})})
		}
		special := impl.Put(binds, ty)
		if len(special) == 0 {
			continue
		}
		s := impl.Solve([]impl.Pair{{A: ty, B: special}})
		if !s.Ok || !slices.Equal(impl.Put(s.Binds, ty), special) {
			t.Fatalf("%s = %s: %s", plainShown(ty), plainShown(special), solutionShown(s))
		}
		if !checkInstance(t, ty, special) {
			t.Fatalf("%s is no instance of %s", plainShown(special), plainShown(ty))
		}
	}
}

func TestInstanceMadeUpTypes(t *testing.T) {
	yes, no := 0, 0
	for seed := range int64(6000) {
		e := equater{rand.New(rand.NewSource(seed))}
		nums := e.anyNumbers(1 + e.rnd.Intn(5))
		whole := e.typ(4, nums)
		general := e.hidden(e.parts(whole, e.anyNumbers(4)), whole)
		if checkInstance(t, general, whole) {
			yes++
		} else {
			no++
		}
		if checkInstance(t, whole, general) {
			yes++
		} else {
			no++
		}
		checkInstance(t, e.typ(2, nums), whole)
	}
	if yes < 3000 || no < 1000 {
		t.Errorf("%d instances, %d none", yes, no)
	}
}

// Two types with a common instance meet in one of which it is an instance.
func TestMeetMadeUpTypes(t *testing.T) {
	met, none := 0, 0
	for seed := range int64(6000) {
		e := equater{rand.New(rand.NewSource(seed))}
		common := e.typ(4, []int64{1, 2, 3})
		a := e.hidden(e.parts(common, e.anyNumbers(4)), raisedMetas(common, 1<<40))
		b := e.hidden(e.parts(common, e.anyNumbers(4)), common)
		checkMeet(t, a, b, common)
		// The same without the unknowns of common, so that it is an instance of both for certain.
		common = filling{1: typeCon("int"), 2: typeTuple(), 3: typeNum(1)}.put(common)
		a, b = e.hidden(e.parts(common, e.anyNumbers(4)), common), e.hidden(e.parts(common, e.anyNumbers(4)), common)
		if !checkMeet(t, a, b, common) {
			t.Fatalf("%s and %s have %s in common", plainShown(a), plainShown(b), plainShown(common))
		}
		a, b = e.typ(3, e.anyNumbers(3)), e.typ(3, e.anyNumbers(3))
		if checkMeet(t, a, b, common) {
			met++
		} else {
			none++
		}
	}
	if met < 500 || none < 1000 {
		t.Errorf("%d meet, %d do not", met, none)
	}
}

func checkMeet(t *testing.T, a []impl.Node, b []impl.Node, special []impl.Node) bool {
	t.Helper()
	met, ok := impl.Meet(a, b)
	turned, ok2 := impl.Meet(b, a)
	if want := meetAgain(a, b); ok != ok2 || ok != (want != "nothing") || plainShown(met) != want || plainShown(turned) != want {
		t.Fatalf("%s and %s: %s, %s, want %s", plainShown(a), plainShown(b), plainShown(met), plainShown(turned), want)
	}
	_, ofA := impl.Instance(a, special)
	_, ofB := impl.Instance(b, special)
	if !ok {
		if ofA && ofB {
			t.Fatalf("%s and %s have %s in common", plainShown(a), plainShown(b), plainShown(special))
		}
		return false
	}
	_, aOk := impl.Instance(a, met)
	_, bOk := impl.Instance(b, met)
	_, ofMet := impl.Instance(met, special)
	if !aOk || !bOk || ofMet != (ofA && ofB) || !slices.Equal(impl.Canon(met), met) {
		t.Fatalf("%s and %s: %s; %s", plainShown(a), plainShown(b), plainShown(met), plainShown(special))
	}
	return true
}

func (e equater) binds(n int, deep int, nums []int64) []impl.Bind {
	binds := []impl.Bind{}
	for range n {
		binds = append(binds, impl.Bind{Num: nums[e.rnd.Intn(len(nums))], Type: e.typ(e.rnd.Intn(deep+1), nums)})
	}
	return binds
}

func composedAgain(first []impl.Bind, then []impl.Bind) string {
	one, other := fillingOf(first), fillingOf(then)
	both := maps.Clone(other)
	for num, ty := range one {
		if both[num] = other.put(ty); len(both[num]) > impl.MaxType {
			return ""
		}
	}
	return bindsShown(both.binds())
}

// Put of Compose is Put after Put, and each of them is as told.
func TestComposePromise(t *testing.T) {
	done, large := 0, 0
	for seed := range int64(8000) {
		e := equater{rand.New(rand.NewSource(seed))}
		nums := e.anyNumbers(2 + e.rnd.Intn(6))
		deep := 1 + e.rnd.Intn(7)
		first, then, ty := e.binds(e.rnd.Intn(8), deep, nums), e.binds(e.rnd.Intn(8), deep, nums), e.typ(3, nums)
		both := impl.Compose(first, then)
		if got, want := bindsShown(both), composedAgain(first, then); got != want {
			t.Fatalf("%s\n%s\n%s, want %s", bindsShown(first), bindsShown(then), got, want)
		}
		between := impl.Put(first, ty)
		if want := fillingOf(first).put(ty); !slices.Equal(between, want) && len(want) <= impl.MaxType || len(want) > impl.MaxType && len(between) > 0 {
			t.Fatalf("%s\n%s: %s", bindsShown(first), plainShown(ty), plainShown(between))
		}
		after := impl.Put(then, between)
		if len(after) == 0 || len(both) == 0 {
			large++
			continue
		}
		done++
		if got := impl.Put(both, ty); !slices.Equal(got, after) {
			t.Fatalf("%s\n%s\n%s: %s, want %s", bindsShown(first), bindsShown(then), plainShown(ty), plainShown(got), plainShown(after))
		}
	}
	if done < 2000 || large < 200 {
		t.Errorf("%d done, %d too large", done, large)
	}
}

func TestCanonMadeUpTypes(t *testing.T) {
	for seed := range int64(3000) {
		e := equater{rand.New(rand.NewSource(seed))}
		ty := e.typ(4, e.anyNumbers(1+e.rnd.Intn(9)))
		canon := impl.Canon(ty)
		if !slices.Equal(canon, renumberedMetas(ty)) || !slices.Equal(impl.Canon(canon), canon) || !slices.Equal(impl.Unknowns(ty), metasOf(ty)) {
			t.Fatalf("%s: %s, %v", plainShown(ty), plainShown(canon), impl.Unknowns(ty))
		}
		_, one := impl.Instance(ty, canon)
		_, other := impl.Instance(canon, ty)
		if !one || !other {
			t.Fatalf("%s is not the same as %s", plainShown(ty), plainShown(canon))
		}
	}
}
