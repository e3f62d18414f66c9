package impl

import (
	"slices"
	"testing"
)

// What is found is all that can be come to, once each, whichever way is gone first.
func TestUntilNothingNew(t *testing.T) {
	for _, start := range [][]int{{}, {1}, {100}, {7, 3}, {3, 7}, {3, 3, 3}, {1, 100, 50, 2}} {
		seen := map[int]int{}
		untilNothingNew(start, func(n int) []int {
			seen[n]++
			if n >= 100 || seen[n] > 1 {
				return nil
			}
			return []int{n * 2, n + 5}
		})
		for n := range seen {
			before := slices.Contains(start, n) || seen[n-5] > 0 || n%2 == 0 && seen[n/2] > 0
			after := n >= 100 || seen[n*2] > 0 && seen[n+5] > 0
			if !before || !after {
				t.Errorf("from %v: %d stands alone", start, n)
			}
		}
		for _, n := range start {
			if seen[n] == 0 {
				t.Errorf("from %v: %d was not looked at", start, n)
			}
		}
	}
}

// Each abbreviation is settled once, and waits for those that it is written with.
func TestAbbreviationsAreSettled(t *testing.T) {
	program, code, _ := Parse("type a = int type 'x b = a * 'x type c = a b b type ('x, 'y) d = c b type e = int * a")
	if code != ParseOk {
		t.Fatal("code", code)
	}
	d := gather(program)
	for name, size := range map[string]int{"a": 1, "b": 3, "c": 5, "d": 7, "e": 3} {
		if it := d.short[name]; !it.settled || len(it.plain) != size {
			t.Errorf("%s: settled %v, %v", name, it.settled, it.plain)
		}
	}
}

func TestFold(t *testing.T) {
	program, code, _ := Parse("val x = (1, (2, 3), fn y => y)")
	if code != ParseOk {
		t.Fatal("code", code)
	}
	size := fold(program, func(_ Node, kids []int) int {
		sum := 1
		for _, kid := range kids {
			sum += kid
		}
		return sum
	})
	deep := fold(program, func(_ Node, kids []int) int { return 1 + slices.Max(append(kids, 0)) })
	if size != len(program) || deep != Deep(program) {
		t.Errorf("size %d and deep %d of %v", size, deep, program)
	}
}
