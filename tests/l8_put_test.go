package tests

import (
	"math"
	"slices"
	"strconv"
	"testing"

	"loop.example/s02665/impl"
)

func putIs(t *testing.T, binds string, ty string, want string) {
	t.Helper()
	if got := impl.Put(bindsOf(t, binds), plainOf(t, ty)); plainShown(got) != want {
		t.Errorf("Put of %s to %s: %s, want %s", binds, ty, plainShown(got), want)
	}
}

func TestPut(t *testing.T) {
	for _, ty := range []string{"int", "?1", "()", "#1", "[?2, ?1]", "t(?1, (?2, #3), list(?1))"} {
		putIs(t, "", ty, ty)
		putIs(t, "9 int; 0 int; -1 int; -9223372036854775808 int", ty, ty)
		putIs(t, "1 ?1; 2 ?2", ty, ty)
	}
	putIs(t, "1 int", "?1", "int")
	putIs(t, "1 int", "?2", "?2")
	putIs(t, "1 int", "#1", "#1")
	putIs(t, "1 int", "int", "int")
	putIs(t, "0 int", "()", "()")
	putIs(t, "0 string", "t(int, [int, ()])", "t(int, [int, ()])")
	putIs(t, "1 [?2, ?2]; 2 ()", "(?1, #1, ?2, ?1, ?3)", "([?2, ?2], #1, (), [?2, ?2], ?3)")
	putIs(t, "7 #1; 5 #2", "[[?7, ?5], list(?5)]", "[[#1, #2], list(#2)]")
	putIs(t, "9223372036854775807 list(?9223372036854775807)", "(?9223372036854775807, ?1)", "(list(?9223372036854775807), ?1)")
}

// Of several Binds with a number the first one counts.
func TestPutFirstBind(t *testing.T) {
	putIs(t, "1 int; 1 string", "?1", "int")
	putIs(t, "1 string; 1 int; 1 ()", "(?1, ?1)", "(string, string)")
	putIs(t, "2 #2; 1 ?2; 2 int; 1 string; 3 ?1", "(?1, ?2, ?3)", "(?2, #2, ?1)")
	putIs(t, "1 ?1; 1 int", "list(?1)", "list(?1)")
}

// What is put in is not looked at again.
func TestPutOnce(t *testing.T) {
	putIs(t, "1 ?2; 2 int", "[?1, ?2]", "[?2, int]")
	putIs(t, "2 int; 1 ?2", "[?1, ?2]", "[?2, int]")
	putIs(t, "1 ?2; 2 ?1", "(?1, ?2, ?1)", "(?2, ?1, ?2)")
	putIs(t, "1 list(?1)", "?1", "list(?1)")
	putIs(t, "1 (?1, ?2); 2 [?2, ?1]; 3 ?1", "(?1, ?2, ?3)", "((?1, ?2), [?2, ?1], ?1)")
}

func TestPutLimits(t *testing.T) {
	for _, into := range [][]impl.Node{typeMeta(1), sized(100, typeMeta(1)), sized(299, typeMeta(1)), sized(300, typeMeta(1))} {
		for _, n := range []int{1, 2, 200, 201, 202, 299, 300} {
			got := impl.Put([]impl.Bind{{Num: 1, Type: sized(n, typeNum(1))}}, into)
			want := sized(len(into)-1+n, typeNum(1))
			if len(want) > impl.MaxType {
				want = nil
			}
			if !slices.Equal(got, want) {
				t.Errorf("%d nodes into %d: %d nodes", n, len(into), len(got))
			}
		}
	}
	// Each place counts: 99 times 3 nodes, and 3 or 4 more.
	threes := impl.Bind{Num: 1, Type: typeArrow(typeMeta(1), typeNum(1))}
	for more, want := range map[int]int{1: 299, 2: 300, 3: 0, 4: 0} {
		into := typeTuple(append(slices.Repeat([][]impl.Node{typeMeta(1)}, 99), sized(more, typeNum(2)))...)
		if got := impl.Put([]impl.Bind{threes}, into); len(got) != want {
			t.Errorf("%d nodes, want %d", len(got), want)
		}
	}
	// Types of Binds that do not stand in it do not count.
	large := impl.Bind{Num: 2, Type: wideOf(impl.MaxType, typeMeta(1))}
	if got := impl.Put([]impl.Bind{large, {Num: 1, Type: typeNum(1)}}, sized(300, typeMeta(1))); len(got) != 300 {
		t.Errorf("%d nodes", len(got))
	}
	if got := impl.Put([]impl.Bind{{Num: 1, Type: typeNum(1)}, {Num: 1, Type: large.Type}}, typeTuple(typeMeta(1), typeMeta(1))); plainShown(got) != "(#1, #1)" {
		t.Errorf("%d nodes", len(got))
	}
}

func TestPutManyBinds(t *testing.T) {
	for _, n := range []int{1000, 1001, 5000} {
		binds := []impl.Bind{}
		for i := range n {
			binds = append(binds, impl.Bind{Num: int64(n - i), Type: wideOf(i%impl.MaxType+1, typeNum(int64(n-i)))})
		}
		soon(t, "many Binds", func() {
			for _, i := range []int{0, 7, 298, 299, n - 1} {
				if got := impl.Put(binds, typeMeta(int64(n-i))); !slices.Equal(got, binds[i].Type) {
					t.Errorf("Bind %d of %d: %d nodes", i, n, len(got))
				}
			}
			binds[n-1].Type = nil
			if got := impl.Put(binds, typeCon("int")); len(got) != 0 {
				t.Error("the last Bind has no type")
			}
		})
	}
}

func TestCanon(t *testing.T) {
	for ty, want := range map[string]string{
		"int": "int", "()": "()", "#7": "#7", "?1": "?1", "?7": "?1", "?9223372036854775807": "?1", "[?1, ?2]": "[?1, ?2]", "[?2, ?1]": "[?1, ?2]", "[?2, ?2]": "[?1, ?1]",
		"[?7, [?3, ?7]]": "[?1, [?2, ?1]]", "(#9, ?9, #1, ?1)": "(#9, ?1, #1, ?2)", "t((?30, ?20), [?10, ?20], ?40, ?30)": "t((?1, ?2), [?3, ?2], ?4, ?1)",
		"(?9223372036854775807, ?1, ?4294967297, ?1)": "(?1, ?2, ?3, ?2)", "(?2, ?3, ?1)": "(?1, ?2, ?3)", "(?3, ?1, ?2, ?3)": "(?1, ?2, ?3, ?1)",
	} {
		got := impl.Canon(plainOf(t, ty))
		if plainShown(got) != want {
			t.Errorf("%s: %s, want %s", ty, plainShown(got), want)
		}
		if again := impl.Canon(got); !slices.Equal(again, got) {
			t.Errorf("%s: Canon of Canon is %s", ty, plainShown(again))
		}
	}
}

func TestUnknowns(t *testing.T) {
	for ty, want := range map[string][]int64{
		"int": {}, "#7": {}, "()": {}, "[#1, #2]": {}, "?1": {1}, "?7": {7}, "[?2, ?1]": {1, 2}, "[?2, ?2]": {2}, "[?7, [?3, ?7]]": {3, 7}, "(#9, ?8, #1, ?2)": {2, 8},
		"t((?30, ?20), [?10, ?20], ?40, ?30)": {10, 20, 30, 40}, "(?9223372036854775807, ?1, ?4294967297, ?1)": {1, 4294967297, math.MaxInt64},
	} {
		if got := impl.Unknowns(plainOf(t, ty)); !slices.Equal(got, want) {
			t.Errorf("%s: %v, want %v", ty, got, want)
		}
	}
}

// Types with as many unknowns as there can be, in any order.
func TestCanonAndUnknownsOfManyNumbers(t *testing.T) {
	for _, factor := range []int64{1, 7, 298, math.MaxInt64 / 299} {
		kids, nums := [][]impl.Node{}, []int64{}
		for i := range int64(impl.MaxType - 1) {
			num := (i*factor+factor-1)%(299*factor) + 1
			if factor == math.MaxInt64/299 {
				num = math.MaxInt64 - i*factor
			}
			kids, nums = append(kids, typeMeta(num)), append(nums, num)
		}
		ty := typeTuple(kids...)
		slices.Sort(nums)
		if got := impl.Unknowns(ty); !slices.Equal(got, slices.Compact(nums)) {
			t.Errorf("factor %d: %v", factor, got)
		}
		if got := impl.Canon(ty); !slices.Equal(got, renumberedMetas(ty)) {
			t.Errorf("factor %d: %s", factor, plainShown(got))
		}
	}
}

func composeIs(t *testing.T, first string, then string, want string) {
	t.Helper()
	if got := impl.Compose(bindsOf(t, first), bindsOf(t, then)); bindsShown(got) != want {
		t.Errorf("Compose of %s and %s: %s, want %s", first, then, bindsShown(got), want)
	}
}

func TestCompose(t *testing.T) {
	composeIs(t, "", "", "")
	composeIs(t, "1 int", "", "1 int")
	composeIs(t, "", "1 int", "1 int")
	composeIs(t, "1 int", "2 string", "1 int; 2 string")
	composeIs(t, "2 int", "1 string", "1 string; 2 int")
	composeIs(t, "1 int", "1 string", "1 int")
	composeIs(t, "1 ?1", "1 string", "1 string")
	composeIs(t, "1 list(?2)", "2 int", "1 list(int); 2 int")
	composeIs(t, "1 ?2; 2 ?1", "1 #1; 2 #2", "1 #2; 2 #1")
	composeIs(t, "1 ?2", "2 ?1", "1 ?1; 2 ?1")
	composeIs(t, "1 ?2; 2 ?3", "", "1 ?2; 2 ?3")
	composeIs(t, "", "1 ?2; 2 ?3", "1 ?2; 2 ?3")
	composeIs(t, "3 (?1, ?3, #1)", "1 [?3, ?1]; 3 ()", "1 [?3, ?1]; 3 ([?3, ?1], (), #1)")
	composeIs(t, "9 ?1; 7 ?2; 8 int", "2 #2; 1 #1; 20 ?20", "1 #1; 2 #2; 7 #2; 8 int; 9 #1; 20 ?20")
	composeIs(t, "9223372036854775807 ?5; 0 ?1", "1 #1; -3 ?1; 5 ?9223372036854775807; -9223372036854775808 int",
		"-9223372036854775808 int; -3 ?1; 0 #1; 1 #1; 5 ?9223372036854775807; 9223372036854775807 ?9223372036854775807")
}

func TestComposeFirstBinds(t *testing.T) {
	composeIs(t, "1 int; 1 string", "", "1 int")
	composeIs(t, "", "1 int; 1 string", "1 int")
	composeIs(t, "1 ?2; 1 ?3; 2 ?3; 2 ?1", "3 #3; 2 #2; 3 int; 2 string", "1 #2; 2 #3; 3 #3")
	composeIs(t, "4 ?4; 4 int", "4 (); 4 string; 3 ?4; 3 int", "3 ?4; 4 ()")
}

func TestComposeLimits(t *testing.T) {
	many := func(n int, first int64, ty []impl.Node) []impl.Bind {
		binds := []impl.Bind{}
		for i := range n {
			binds = append(binds, impl.Bind{Num: first - int64(i), Type: ty})
		}
		return binds
	}
	large := wideOf(impl.MaxType, typeMeta(5))
	for _, sizes := range [][2]int{{1000, 0}, {0, 1000}, {500, 500}, {1, 999}, {999, 1}} {
		for _, ty := range [][]impl.Node{typeNum(1), sized(impl.MaxType, typeMeta(3)), large} {
			soon(t, "1000 Binds", func() {
				first, then := many(sizes[0], 10000, ty), many(sizes[1], 20000, ty)
				got := impl.Compose(first, then)
				if len(got) != 1000 || !slices.IsSortedFunc(got, func(a, b impl.Bind) int { return int(a.Num - b.Num) }) {
					t.Fatalf("%v: %d Binds", sizes, len(got))
				}
				for _, b := range got {
					if !slices.Equal(b.Type, ty) {
						t.Fatalf("%v: %d has %s", sizes, b.Num, plainShown(b.Type))
					}
				}
				extra := impl.Bind{Num: 1, Type: typeNum(1)}
				if len(impl.Compose(append(first, extra), then)) != 0 || len(impl.Compose(first, append(then, extra))) != 0 {
					t.Errorf("%v: 1001 Binds", sizes)
				}
			})
		}
	}
	// They are counted with those that do not count for a number.
	same := slices.Repeat([]impl.Bind{{Num: 1, Type: typeNum(1)}}, 1001)
	for _, n := range []int{999, 1000, 1001} {
		for _, got := range [][]impl.Bind{impl.Compose(same[:n], nil), impl.Compose(nil, same[:n]), impl.Compose(same[:n-400], same[:400])} {
			if (len(got) == 1) != (n <= 1000) || len(got) > 1 {
				t.Errorf("%d Binds with one number: %d Binds", n, len(got))
			}
		}
	}
	if got := impl.Compose(make([]impl.Bind, 500), make([]impl.Bind, 400)); len(got) != 0 {
		t.Error("Binds without types")
	}
}

func TestComposeSizes(t *testing.T) {
	for n, fits := range map[int]bool{1: true, 150: true, 151: true, 152: false, 300: false} {
		first := []impl.Bind{{Num: 7, Type: typeNum(1)}, {Num: 1, Type: sized(150, typeMeta(2))}, {Num: 9, Type: typeNum(1)}}
		then := []impl.Bind{{Num: 2, Type: sized(n, typeMeta(2))}}
		got := impl.Compose(first, then)
		if fits && (len(got) != 4 || len(got[0].Type) != 149+n || len(got[1].Type) != n) || !fits && len(got) != 0 {
			t.Errorf("%d nodes: %s", n, bindsShown(got))
		}
		// A Bind that does not count for its number does not count here either.
		hidden := append([]impl.Bind{{Num: 1, Type: typeMeta(4)}}, first...)
		if got := impl.Compose(hidden, then); len(got) != 4 || plainShown(got[0].Type) != "?4" {
			t.Errorf("%d nodes, hidden: %s", n, bindsShown(got))
		}
		hidden = append([]impl.Bind{{Num: 2, Type: typeMeta(4)}}, then...)
		if got := impl.Compose(first, hidden); len(got) != 4 || len(got[0].Type) != 150 {
			t.Errorf("%d nodes, hidden: %s", n, bindsShown(got))
		}
	}
	all := impl.MaxType
	then := []impl.Bind{{Num: 1, Type: sized(all, typeMeta(1))}}
	if got := impl.Compose(nil, then); len(got) != 1 || len(got[0].Type) != all {
		t.Errorf("%d Binds", len(got))
	}
	for i := range 20 {
		first := []impl.Bind{}
		for k := range 20 {
			first = append(first, impl.Bind{Num: int64(10 + k), Type: typeMeta(1)})
		}
		first[i].Type = typeTuple(typeMeta(1), typeMeta(3))
		if got := impl.Compose(first, then); len(got) != 0 {
			t.Errorf("Bind %s is too large, and there are %d", strconv.Itoa(i), len(got))
		}
	}
}
