package tests

import (
	"fmt"
	"math"
	"slices"
	"strconv"
	"strings"
	"testing"

	"loop.example/s02665/impl"
)

// typeReader reads plain types back as plainShown writes them.
type typeReader struct {
	rest string
}

// plainOf is the plain type that is shown by a text.
func plainOf(t *testing.T, text string) []impl.Node {
	t.Helper()
	r := typeReader{strings.ReplaceAll(text, " ", "")}
	ty := r.typ()
	if r.rest != "" || plainShown(ty) != text {
		t.Fatalf("%s is read as %s", text, plainShown(ty))
	}
	return ty
}

func (r *typeReader) typ() []impl.Node {
	switch {
	case r.has("#"):
		return typeNum(r.number())
	case r.has("?"):
		return typeMeta(r.number())
	case r.has("["):
		return impl.Join(impl.Node{Kind: impl.TArrow}, r.kids("]"))
	case r.has("("):
		return typeTuple(r.kids(")")...)
	}
	name := r.word()
	if r.has("(") {
		return typeCon(name, r.kids(")")...)
	}
	return typeCon(name)
}

func (r *typeReader) kids(end string) [][]impl.Node {
	kids := [][]impl.Node{}
	for !r.has(end) && r.rest != "" {
		kids = append(kids, r.typ())
		r.has(",")
	}
	return kids
}

func (r *typeReader) has(symbol string) bool {
	rest, found := strings.CutPrefix(r.rest, symbol)
	r.rest = rest
	return found
}

func (r *typeReader) number() int64 {
	num, _ := strconv.ParseInt(r.word(), 10, 64)
	return num
}

func (r *typeReader) word() string {
	end := strings.IndexAny(r.rest, "()[],#?")
	if end < 0 {
		end = len(r.rest)
	}
	word := r.rest[:end]
	r.rest = r.rest[end:]
	return word
}

func bindsShown(binds []impl.Bind) string {
	out := []string{}
	for _, b := range binds {
		out = append(out, strconv.FormatInt(b.Num, 10)+" "+plainShown(b.Type))
	}
	return strings.Join(out, "; ")
}

// bindsOf reads what bindsShown writes.
func bindsOf(t *testing.T, text string) []impl.Bind {
	t.Helper()
	binds := []impl.Bind{}
	for _, part := range strings.Split(text, "; ") {
		if num, ty, found := strings.Cut(part, " "); found {
			n, _ := strconv.ParseInt(num, 10, 64)
			binds = append(binds, impl.Bind{Num: n, Type: plainOf(t, ty)})
		}
	}
	if bindsShown(binds) != text {
		t.Fatalf("%s is read as %s", text, bindsShown(binds))
	}
	return binds
}

// sized is a type of so many nodes, and as deep, around another one.
func sized(n int, inner []impl.Node) []impl.Node {
	ty := slices.Clone(inner)
	for len(ty) < n {
		ty = append(ty, impl.Node{Kind: impl.TCon, Text: "t", Kids: 1})
	}
	return ty
}

// wideOf is a type of so many nodes, all but the root its kids, or the kid alone.
func wideOf(n int, kid []impl.Node) []impl.Node {
	if n == 1 {
		return kid
	}
	return typeCon("w", slices.Repeat([][]impl.Node{kid}, n-1)...)
}

// farNum is behind the numbers of all other unknowns that are taken for types.
const farNum = math.MaxInt64

// isTaken wants that every function takes a list for a type, at each of its arguments.
func isTaken(t *testing.T, ty []impl.Node) {
	t.Helper()
	far := typeMeta(farNum)
	answers := map[string][]impl.Node{}
	last := func(name string, binds []impl.Bind) {
		if len(binds) > 0 {
			answers[name] = binds[len(binds)-1].Type
		}
	}
	last("Solve, A", impl.Solve([]impl.Pair{{A: ty, B: far}}).Binds)
	last("Solve, B", impl.Solve([]impl.Pair{{A: far, B: ty}}).Binds)
	last("Solve, behind", impl.Solve([]impl.Pair{{A: typeNum(1), B: typeNum(1)}, {A: far, B: ty}}).Binds)
	answers["Put"] = impl.Put(nil, ty)
	answers["Put, Bind"] = impl.Put([]impl.Bind{{Num: 5, Type: ty}}, typeMeta(5))
	binds, ok := impl.Instance(typeMeta(3), ty)
	last("Instance, special", binds)
	_, ok2 := impl.Instance(ty, ty)
	last("Compose, first", impl.Compose([]impl.Bind{{Num: 5, Type: ty}}, nil))
	last("Compose, then", impl.Compose(nil, []impl.Bind{{Num: 5, Type: ty}}))
	if len(answers) != 8 || !ok || !ok2 {
		t.Errorf("%.300s is no type: %d answers, Instance %v, %v", plainShown(ty), len(answers), ok, ok2)
	}
	for name, got := range answers {
		if !slices.Equal(got, ty) {
			t.Errorf("%s of %.300s is %.300s", name, plainShown(ty), plainShown(got))
		}
	}
	canon := renumberedMetas(ty)
	one, _ := impl.Meet(ty, far)
	other, _ := impl.Meet(far, ty)
	for name, got := range map[string][]impl.Node{"Canon": impl.Canon(ty), "Meet, a": one, "Meet, b": other} {
		if !slices.Equal(got, canon) {
			t.Errorf("%s of %.300s is %.300s", name, plainShown(ty), plainShown(got))
		}
	}
	if got := impl.Unknowns(ty); !slices.Equal(got, metasOf(ty)) {
		t.Errorf("Unknowns of %.300s are %v", plainShown(ty), got)
	}
}

// isRefused wants the answer for what is no type from every function, at each of its arguments.
func isRefused(t *testing.T, list []impl.Node) {
	t.Helper()
	far, named := typeMeta(farNum), fmt.Sprintf("%.300s", fmt.Sprint(list))
	good := impl.Pair{A: typeCon("int"), B: typeCon("int")}
	for _, pairs := range [][]impl.Pair{
		{{A: list, B: far}}, {{A: far, B: list}}, {{A: list, B: list}}, {good, {A: list, B: far}}, {{A: far, B: list}, good},
		{{A: typeNum(1), B: typeNum(2)}, {A: list, B: list}}, {{A: list, B: typeNum(1)}, {A: typeNum(1), B: typeNum(2)}},
	} {
		if s := impl.Solve(pairs); s.Ok || s.At != -1 || len(s.Binds) != 0 {
			t.Errorf("Solve with %s: %v", named, s)
		}
	}
	bad, int1 := impl.Bind{Num: 1, Type: list}, impl.Bind{Num: 1, Type: typeCon("int")}
	for _, got := range [][]impl.Node{
		impl.Put(nil, list), impl.Put([]impl.Bind{int1}, list), impl.Put([]impl.Bind{bad}, typeMeta(1)), impl.Put([]impl.Bind{bad}, typeMeta(2)),
		impl.Put([]impl.Bind{int1, bad}, typeMeta(1)), impl.Put([]impl.Bind{bad, int1}, typeCon("int")), impl.Put([]impl.Bind{bad}, list), impl.Canon(list),
	} {
		if len(got) != 0 {
			t.Errorf("Put or Canon with %s: %s", named, plainShown(got))
		}
	}
	for _, two := range [][2][]impl.Node{{list, list}, {list, typeCon("int")}, {typeMeta(1), list}, {list, typeMeta(1)}, {typeCon("int"), list}} {
		if binds, ok := impl.Instance(two[0], two[1]); ok || len(binds) != 0 {
			t.Errorf("Instance with %s: %s", named, bindsShown(binds))
		}
		if met, ok := impl.Meet(two[0], two[1]); ok || len(met) != 0 {
			t.Errorf("Meet with %s: %s", named, plainShown(met))
		}
	}
	if got := impl.Unknowns(list); len(got) != 0 {
		t.Errorf("Unknowns of %s: %v", named, got)
	}
	for _, binds := range [][]impl.Bind{{bad}, {bad, int1}, {int1, bad}, {int1, {Num: 0, Type: list}}} {
		for _, got := range [][]impl.Bind{impl.Compose(binds, nil), impl.Compose(nil, binds), impl.Compose(binds, []impl.Bind{int1}), impl.Compose([]impl.Bind{int1}, binds)} {
			if len(got) != 0 {
				t.Errorf("Compose with %s: %s", named, bindsShown(got))
			}
		}
	}
}

// metasOf are the unknowns of a type, rising.
func metasOf(types ...[]impl.Node) []int64 {
	nums := []int64{}
	for _, n := range slices.Concat(types...) {
		if n.Kind == impl.TMeta && !slices.Contains(nums, n.Num) {
			nums = append(nums, n.Num)
		}
	}
	slices.Sort(nums)
	return nums
}

// renumberedMetas is what Canon should answer.
func renumberedMetas(ty []impl.Node) []impl.Node {
	out, nums := slices.Clone(ty), []int64{}
	for i, n := range ty {
		if n.Kind == impl.TMeta {
			if !slices.Contains(nums, n.Num) {
				nums = append(nums, n.Num)
			}
			out[i].Num = int64(1 + slices.Index(nums, n.Num))
		}
	}
	return out
}

func TestEquationTypes(t *testing.T) {
	for _, text := range []string{
		"?1", "?9223372036854775806", "#1", "#9223372036854775807", "int", "list(?1)", "t(?2, ?1)", "t(?1, #1, int, ())", "()", "(?1, ?2)", "((), (), ())",
		"(?3, [?3, ?1], list(?3))", "[?1, ?2]", "[[?2, ?2], [?1, ?2]]", "list(list(list(?7)))", "unit", "A", "'a", "int(int, int)", "t(?1, ?1, ?1, ?1, ?1, ?1, ?1, ?1, ?1, ?1, ?1)",
	} {
		isTaken(t, plainOf(t, text))
	}
	for _, text := range []string{"", "::", "\x00 \xff", "unit", "true", strings.Repeat("n", 100000)} {
		isTaken(t, typeCon(text))
		isTaken(t, typeCon(text, typeMeta(2), typeCon(text)))
	}
}

func TestEquationNoTypes(t *testing.T) {
	for _, list := range badLists() {
		isRefused(t, list)
	}
	for _, list := range goodTerms() {
		isRefused(t, list)
	}
	join := func(root impl.Node, kids ...[]impl.Node) []impl.Node { return impl.Join(root, kids) }
	one := typeMeta(1)
	for _, list := range [][]impl.Node{
		nil, {}, typeTuple(one), typeTuple(typeTuple(one), one), typeNum(0), typeNum(-1), typeNum(math.MinInt64), typeMeta(0), typeMeta(-1), typeMeta(math.MinInt64),
		join(impl.Node{Kind: impl.TMeta, Num: 1}, one), join(impl.Node{Kind: impl.TNum, Num: 1}, one), {{Kind: impl.TMeta, Num: 1, Text: "a"}}, {{Kind: impl.TNum, Num: 1, Text: "a"}},
		join(impl.Node{Kind: impl.TArrow}), join(impl.Node{Kind: impl.TArrow}, one), join(impl.Node{Kind: impl.TArrow}, one, one, one),
		join(impl.Node{Kind: impl.TArrow, Num: 1}, one, one), join(impl.Node{Kind: impl.TArrow, Text: "x"}, one, one), {{Kind: impl.TTuple, Num: 1}}, {{Kind: impl.TTuple, Text: "x"}},
		{{Kind: impl.TCon, Num: 1, Text: "int"}}, {{Kind: impl.TCon, Num: -1, Text: "int"}}, {{Kind: impl.TVar, Text: "a"}}, typeArrow(impl.Join(impl.Node{Kind: impl.TVar, Text: "a"}, nil), one),
		join(impl.Node{Kind: impl.TAll, Num: 1}, one), {{Kind: impl.TAll, Num: 1}}, typeOf(t, "int"), typeOf(t, "'a -> 'b"), evar("x"), pvar("x"), parsed(t, "val x = 1"),
		slices.Concat(one, one), slices.Concat(one, typeTuple(one, one)), append(typeTuple(one, one), impl.Node{Kind: impl.TMeta, Num: 2}),
	} {
		isRefused(t, list)
	}
	for kind := -1; kind <= 95; kind++ {
		if !isOneOf(kind, impl.TCon, impl.TTuple) {
			isRefused(t, []impl.Node{{Kind: kind}})
		}
		if !isOneOf(kind, impl.TNum, impl.TMeta) {
			isRefused(t, []impl.Node{{Kind: kind, Num: 1}})
		}
		if !isOneOf(kind, impl.TCon, impl.TArrow, impl.TTuple) {
			isRefused(t, impl.Join(impl.Node{Kind: kind}, [][]impl.Node{one, one}))
		}
		if kind != impl.TCon {
			isRefused(t, impl.Join(impl.Node{Kind: kind, Num: max(0, int64(kind-59))}, [][]impl.Node{one}))
		}
	}
}

// Each node is asked, wherever it stands.
func TestEquationTypesAskEachNode(t *testing.T) {
	ty := plainOf(t, "[(?1, list(#2), ()), t([?1, int], ?3)]")
	isTaken(t, ty)
	for i, n := range ty {
		for _, change := range []func(n *impl.Node){
			func(n *impl.Node) { n.At = 1 }, func(n *impl.Node) { n.At = -1 }, func(n *impl.Node) { n.Kind = impl.TVar }, func(n *impl.Node) { n.Kind = impl.TAll },
			func(n *impl.Node) { n.Num = -n.Num - 1 }, func(n *impl.Node) { n.Num = -1 }, func(n *impl.Node) { n.Kids++ }, func(n *impl.Node) { n.Kids-- },
			func(n *impl.Node) { n.Kids = -1 }, func(n *impl.Node) { n.Kids += 100 },
		} {
			changed := slices.Clone(ty)
			change(&changed[i])
			isRefused(t, changed)
		}
		for _, change := range []func(n *impl.Node) bool{
			func(n *impl.Node) bool { n.Text += "x"; return n.Kind == impl.TCon },
			func(n *impl.Node) bool { n.Num++; return isOneOf(n.Kind, impl.TNum, impl.TMeta) },
			func(n *impl.Node) bool { n.Num = 0; return !isOneOf(n.Kind, impl.TNum, impl.TMeta) },
			func(n *impl.Node) bool { n.Kind, n.Num, n.Text = impl.TTuple, 0, ""; return n.Kids != 1 },
			func(n *impl.Node) bool { n.Kind, n.Num, n.Text = impl.TArrow, 0, ""; return n.Kids == 2 },
			func(n *impl.Node) bool { n.Kind, n.Num, n.Text = impl.TMeta, 4, ""; return n.Kids == 0 },
			func(n *impl.Node) bool { n.Kind, n.Num, n.Text = impl.TNum, 4, ""; return n.Kids == 0 },
		} {
			changed := slices.Clone(ty)
			if change(&changed[i]) {
				isTaken(t, changed)
			} else {
				isRefused(t, changed)
			}
		}
		if n.Kids != 1 {
			isRefused(t, slices.Delete(slices.Clone(ty), i, i+1))
			isRefused(t, slices.Insert(slices.Clone(ty), i, n))
		}
	}
}

func TestEquationTypeLimits(t *testing.T) {
	if impl.MaxType != 300 || impl.MaxPairNodes != 20000 {
		t.Fatal("limits", impl.MaxType, impl.MaxPairNodes)
	}
	for _, kid := range [][]impl.Node{typeMeta(2), typeNum(1), typeCon("int"), typeTuple()} {
		for _, n := range []int{1, 2, impl.MaxType - 1, impl.MaxType} {
			isTaken(t, sized(n, kid))
			isTaken(t, wideOf(n, kid))
		}
		for _, n := range []int{impl.MaxType + 1, impl.MaxType + 2, 2 * impl.MaxType, impl.MaxNodes, impl.MaxNodes + 1, impl.MaxPairNodes} {
			isRefused(t, sized(n, kid))
			isRefused(t, wideOf(n, kid))
		}
	}
	// As deep as can be by arrows and tuples too, on either side.
	left, right := typeMeta(1), typeMeta(1)
	for len(left) < impl.MaxType-1 {
		left, right = typeArrow(left, typeTuple()), typeTuple(typeNum(1), right)
	}
	for _, ty := range [][]impl.Node{left, right} {
		isTaken(t, ty)
		isTaken(t, typeCon("t", ty))
		isRefused(t, typeTuple(ty, typeMeta(1)))
	}
}
