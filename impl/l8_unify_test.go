package impl

import (
	"errors"
	"slices"
	"strings"
	"testing"
)

func unknownsOf(n int) []*cell {
	cells := []*cell{}
	for i := range n {
		cells = append(cells, &cell{node: Node{Kind: TMeta, Num: int64(i + 1)}, level: levelOpen})
	}
	return cells
}

func (c *cell) wayUp() int {
	way := 0
	for c.link != nil {
		c = c.link
		way++
	}
	return way
}

// Ranks keep ways short in whatever order cells are tied.
func TestWaysStayShort(t *testing.T) {
	for _, next := range []func(i int) (int, int){
		func(i int) (int, int) { return i, i + 1 },
		func(i int) (int, int) { return i + 1, i },
		func(i int) (int, int) { return 0, i + 1 },
		func(i int) (int, int) { return i + 1, 0 },
		func(i int) (int, int) { return (i + 1) / 2, i + 1 },
	} {
		cells := unknownsOf(1 << 10)
		for i := range len(cells) - 1 {
			a, b := next(i)
			if err := equate(cells[a], cells[b]); err != nil {
				t.Fatal(err)
			}
		}
		for i, c := range cells {
			if c.wayUp() > 10 {
				t.Errorf("cell %d is %d away from its head", i, c.wayUp())
			}
			if head := c.head(); head != cells[0].head() || head.node.Num != 1 {
				t.Errorf("cell %d has the head %v", i, head.node)
			}
		}
	}
}

// One after the other says what all are, and none of them becomes the head for that.
func TestRanks(t *testing.T) {
	cells := unknownsOf(100)
	head := cells[0]
	for _, c := range cells[1:] {
		tie(c, head)
		head = head.head()
	}
	for i, c := range cells {
		if c.wayUp() > 1 {
			t.Errorf("cell %d is %d away from its head", i, c.wayUp())
		}
	}
	if head.node.Num != 100 {
		t.Errorf("the last one said %v", head.node)
	}
}

// Groups of the same size, tied again and again, have the longest ways; who goes them shortens them.
func TestWaysAreCompressed(t *testing.T) {
	cells := unknownsOf(1 << 8)
	for step := 1; step < len(cells); step *= 2 {
		for i := 0; i < len(cells); i += 2 * step {
			head, other := cells[i].head(), cells[i+step].head()
			tie(head, other)
		}
	}
	longest := slices.MaxFunc(cells, func(a, b *cell) int { return a.wayUp() - b.wayUp() })
	if longest.wayUp() < 2 || longest.wayUp() > 8 {
		t.Fatalf("the longest way is %d", longest.wayUp())
	}
	on := []*cell{}
	for c := longest; c.link != nil; c = c.link {
		on = append(on, c)
	}
	head := longest.head()
	for _, c := range on {
		if c.link != head {
			t.Errorf("%d away from the head", c.wayUp())
		}
	}
	if head.head() != head || head.link != nil {
		t.Error("a head is its own")
	}
}

// What is said for all is what the first one says, whichever becomes the head.
func TestTieSays(t *testing.T) {
	for rank := range 3 {
		says := &cell{node: Node{Kind: TCon, Text: "list", Kids: 1}, kids: unknownsOf(1)}
		other := unknownsOf(2)[1]
		other.rank = rank
		tie(says, other)
		head := says.head()
		if head != other.head() || head.node.Text != "list" || len(head.kids) != 1 || head.isOpen() {
			t.Errorf("rank %d: %v", rank, head.node)
		}
		fixed, open := unknownsOf(1)[0], unknownsOf(2)[1]
		fixed.level, open.rank = levelFixed, rank
		tie(fixed, open)
		if open.head().isOpen() || open.head().node.Num != 1 {
			t.Errorf("rank %d: %v is told by one that stands for itself", rank, open.head().node)
		}
	}
}

func TestLevels(t *testing.T) {
	s := newStore()
	ty := []Node{{Kind: TMeta, Num: 1}, {Kind: TMeta, Num: 1}, {Kind: TArrow, Kids: 2}}
	open, fixed := s.take(ty, levelOpen), s.take(ty, levelFixed)
	if open.kids[0] != open.kids[1] || fixed.kids[0] != fixed.kids[1] || open.kids[0] == fixed.kids[0] || len(s.unknowns) != 2 {
		t.Error("an unknown is one cell, on each level another")
	}
	if err := equate(open, fixed); err != nil || open.kids[0].head().isOpen() {
		t.Error("an unknown that stands for itself may be what another one is", err)
	}
	number := &cell{node: Node{Kind: TNum, Num: 1}}
	var found *clash
	if err := equate(fixed.kids[0], number); !errors.As(err, &found) || found.one == found.other {
		t.Error("an unknown that stands for itself is nothing else", err)
	}
}

// Faults are told apart by what they wrap.
func TestFaults(t *testing.T) {
	meta := func(num int64) []Node { return []Node{{Kind: TMeta, Num: num}} }
	list := func(kid []Node) []Node { return Join(Node{Kind: TCon, Text: "list"}, [][]Node{kid}) }
	double := func(kid []Node) []Node { return Join(Node{Kind: TTuple}, [][]Node{kid, kid}) }
	large := []Pair{}
	for i := range int64(9) {
		large = append(large, Pair{A: meta(i + 1), B: double(meta(i + 2))})
	}
	for _, one := range []struct {
		pairs   []Pair
		clashes bool
		pair    int
		text    string
	}{
		{[]Pair{{A: meta(1), B: meta(2)}, {A: list(meta(1)), B: double(meta(1))}, {A: meta(1), B: meta(3)}}, true, 1, "differ"},
		{[]Pair{{A: meta(1), B: list(meta(1))}, {A: meta(1), B: meta(1)}}, true, 1, "in itself"},
		{large, false, 8, "too large"},
		{slices.Concat(large, []Pair{{A: meta(5), B: list(meta(5))}}), true, 9, "differ"},
		{slices.Concat(large, []Pair{{A: meta(50), B: list(meta(50))}}), true, 9, "in itself"},
	} {
		_, err := solve(one.pairs)
		var at *upTo
		if isClash(err) != one.clashes || !errors.As(err, &at) || at.pair != one.pair || !strings.Contains(err.Error(), one.text) {
			t.Errorf("%v, want %s up to pair %d", err, one.text, one.pair)
		}
		if errors.Is(err, errTooLarge) == one.clashes {
			t.Errorf("%v is told as too large", err)
		}
	}
	if s, err := solve(nil); err != nil || isClash(err) || len(s.unknowns) != 0 {
		t.Error("nothing is wrong with nothing", err)
	}
}
