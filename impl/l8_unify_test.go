package impl

import (
	"errors"
	"slices"
	"strings"
	"testing"
)

func unknownsOf(n int) []*cell {
	cells := []*cell{}
	for i := range n {
		cells = append(cells, &cell{node: Node{Kind: TMeta, Num: int64(i + 1)}, level: levelOpen})
	}
	return cells
}

func (c *cell) wayUp() int {
	way := 0
	for c.link != nil {
		c = c.link
		way++
	}
	return way
}

// Ranks keep ways short in whatever order cells are tied.
func TestWaysStayShort(t *testing.T) {
	for _, next := range []func(i int) (int, int){
		func(i int) (int, int) { return i, i + 1 },
		func(i int) (int, int) { return i + 1, i },
		func(i int) (int, int) { return 0, i + 1 },
		func(i int) (int, int) { return i + 1, 0 },
		func(i int) (int, int) { return (i + 1) / 2, i + 1 },
	} {
		cells := unknownsOf(1 << 10)
		for i := range len(cells) - 1 {
			a, b := next(i)
			if err := newStore().equate(cells[a], cells[b]); err != nil {
				t.Fatal(err)
			}
		}
		for i, c := range cells {
			if c.wayUp() > 10 {
				t.Errorf("cell %d is %d away from its head", i, c.wayUp())
			}
			if head := c.head(); head != cells[0].head() || head.node.Num != 1 {
				t.Errorf("cell %d has the head %v", i, head.node)
			}
		}
	}
}

// One after the other says what all are, and none of them becomes the head for that.
func TestRanks(t *testing.T) {
	cells := unknownsOf(100)
	head := cells[0]
	for _, c := range cells[1:] {
		newStore().tie(c, head)
		head = head.head()
	}
	for i, c := range cells {
		if c.wayUp() > 1 {
			t.Errorf("cell %d is %d away from its head", i, c.wayUp())
		}
	}
	if head.node.Num != 100 {
		t.Errorf("the last one said %v", head.node)
	}
}

// Groups of the same size, tied again and again, have the longest ways; who goes them shortens them.
func TestWaysAreCompressed(t *testing.T) {
	cells := unknownsOf(1 << 8)
	for step := 1; step < len(cells); step *= 2 {
		for i := 0; i < len(cells); i += 2 * step {
			head, other := cells[i].head(), cells[i+step].head()
			newStore().tie(head, other)
		}
	}
	longest := slices.MaxFunc(cells, func(a, b *cell) int { return a.wayUp() - b.wayUp() })
	if longest.wayUp() < 2 || longest.wayUp() > 8 {
		t.Fatalf("the longest way is %d", longest.wayUp())
	}
	on := []*cell{}
	for c := longest; c.link != nil; c = c.link {
		on = append(on, c)
	}
	head := longest.head()
	for _, c := range on {
		if c.link != head {
			t.Errorf("%d away from the head", c.wayUp())
		}
	}
	if head.head() != head || head.link != nil {
		t.Error("a head is its own")
	}
}

// What is said for all is what the first one says, whichever becomes the head.
func TestTieSays(t *testing.T) {
	for rank := range 3 {
		says := &cell{node: Node{Kind: TCon, Text: "list", Kids: 1}, kids: unknownsOf(1)}
		other := unknownsOf(2)[1]
		other.rank = rank
		newStore().tie(says, other)
		head := says.head()
		if head != other.head() || head.node.Text != "list" || len(head.kids) != 1 || head.isOpen() {
			t.Errorf("rank %d: %v", rank, head.node)
		}
		fixed, open := unknownsOf(1)[0], unknownsOf(2)[1]
		fixed.level, open.rank = levelFixed, rank
		newStore().tie(fixed, open)
		if open.head().isOpen() || open.head().node.Num != 1 {
			t.Errorf("rank %d: %v is told by one that stands for itself", rank, open.head().node)
		}
	}
}

func TestLevels(t *testing.T) {
	s := newStore()
	ty := []Node{{Kind: TMeta, Num: 1}, {Kind: TMeta, Num: 1}, {Kind: TArrow, Kids: 2}}
	open, fixed := s.take(ty, levelOpen), s.take(ty, levelFixed)
	if open.kids[0] != open.kids[1] || fixed.kids[0] != fixed.kids[1] || open.kids[0] == fixed.kids[0] || len(s.unknowns) != 2 {
		t.Error("an unknown is one cell, on each level another")
	}
	if err := s.equate(open, fixed); err != nil || open.kids[0].head().isOpen() {
		t.Error("an unknown that stands for itself may be what another one is", err)
	}
	number := &cell{node: Node{Kind: TNum, Num: 1}}
	var found *clash
	if err := s.equate(fixed.kids[0], number); !errors.As(err, &found) || found.one == found.other {
		t.Error("an unknown that stands for itself is nothing else", err)
	}
}

// Faults are told apart by what they wrap.
func TestFaults(t *testing.T) {
	meta := func(num int64) []Node { return []Node{{Kind: TMeta, Num: num}} }
	list := func(kid []Node) []Node { return Join(Node{Kind: TCon, Text: "list"}, [][]Node{kid}) }
	double := func(kid []Node) []Node { return Join(Node{Kind: TTuple}, [][]Node{kid, kid}) }
	large := []Pair{}
	for i := range int64(9) {
		large = append(large, Pair{A: meta(i + 1), B: double(meta(i + 2))})
	}
	for _, one := range []struct {
		pairs   []Pair
		clashes bool
		pair    int
		text    string
	}{
		{[]Pair{{A: meta(1), B: meta(2)}, {A: list(meta(1)), B: double(meta(1))}, {A: meta(1), B: meta(3)}}, true, 1, "differ"},
		{[]Pair{{A: meta(1), B: list(meta(1))}, {A: meta(1), B: meta(1)}}, true, 0, "in itself"},
		{large, false, 8, "too large"},
		{slices.Concat(large, []Pair{{A: meta(5), B: list(meta(5))}}), true, 9, "differ"},
		{slices.Concat(large, []Pair{{A: meta(50), B: list(meta(50))}}), true, 9, "in itself"},
	} {
		_, err := solve(one.pairs)
		var at *upTo
		if isClash(err) != one.clashes || !errors.As(err, &at) || at.pair != one.pair || !strings.Contains(err.Error(), one.text) {
			t.Errorf("%v, want %s up to pair %d", err, one.text, one.pair)
		}
		if errors.Is(err, errTooLarge) == one.clashes {
			t.Errorf("%v is told as too large", err)
		}
	}
	if s, err := solve(nil); err != nil || isClash(err) || len(s.unknowns) != 0 {
		t.Error("nothing is wrong with nothing", err)
	}
}

// A type that is brought down to a level is so with all that stands in it, and never brought up again.
func TestLower(t *testing.T) {
	unknowns := unknownsOf(3)
	for i, c := range unknowns {
		c.level = levelOpen + 2*i
	}
	inner := &cell{node: Node{Kind: TTuple, Kids: 2}, kids: unknowns[1:], level: levelOpen + 4}
	outer := &cell{node: Node{Kind: TArrow, Kids: 2}, kids: []*cell{unknowns[0], inner}, level: levelOpen + 4}
	for _, c := range []struct {
		to   int
		want [3]int
	}{{9, [3]int{0, 2, 4}}, {4, [3]int{0, 2, 4}}, {3, [3]int{0, 2, 3}}, {1, [3]int{0, 1, 1}}, {2, [3]int{0, 1, 1}}, {0, [3]int{0, 0, 0}}} {
		outer.lower(levelOpen + c.to)
		for i, want := range c.want {
			if unknowns[i].level != levelOpen+want {
				t.Errorf("down to %d: unknown %d has level %d, want %d", c.to, i, unknowns[i].level-levelOpen, want)
			}
		}
	}
}

// An unknown that becomes a type brings that down to its own level, whichever stands first.
func TestEquateLowers(t *testing.T) {
	for turn := range 2 {
		unknowns := unknownsOf(2)
		unknowns[1].level = levelOpen + 5
		list := &cell{node: Node{Kind: TCon, Text: "list", Kids: 1}, kids: unknowns[1:], level: levelOpen + 5}
		pair := []*cell{unknowns[0], list}
		if err := newStore().equate(pair[turn], pair[1-turn]); err != nil {
			t.Fatal(err)
		}
		if unknowns[1].head().level != levelOpen || unknowns[0].head().level != levelOpen {
			t.Errorf("turn %d: levels %d and %d", turn, unknowns[0].head().level, unknowns[1].head().level)
		}
		others := unknownsOf(2)
		others[turn].level = levelOpen + 3
		if err := newStore().equate(others[0], others[1]); err != nil || others[0].head().level != levelOpen {
			t.Errorf("turn %d: two unknowns have level %d", turn, others[0].head().level)
		}
	}
}

// Circles are told as they were at a time, though paths have been compressed since.
func TestCirclesInTime(t *testing.T) {
	for size := 1; size <= 20; size++ {
		s := newStore()
		unknowns := []*cell{}
		for i := range size {
			unknowns = append(unknowns, s.unknown(Node{Kind: TMeta, Num: int64(i + 1)}, levelOpen))
		}
		for i, c := range unknowns {
			s.now = 2 * i
			next := unknowns[(i+1)%size]
			if err := s.equate(c, &cell{node: Node{Kind: TCon, Text: "list", Kids: 1}, kids: []*cell{next}}); err != nil {
				t.Fatal(err)
			}
		}
		closed := s.now
		for _, c := range unknowns {
			s.now++
			if err := s.equate(c, s.unknown(Node{Kind: TMeta, Num: int64(100 + s.now)}, levelOpen)); err != nil {
				t.Fatal(err)
			}
			c.head()
		}
		for range 2 {
			for at := range s.now + 1 {
				if s.hasCircle(at) != (at >= closed) {
					t.Errorf("%d types: at %d a circle is told as %v, it was closed at %d", size, at, s.hasCircle(at), closed)
				}
			}
		}
		if s.firstCircle() != closed {
			t.Errorf("%d types: first circle at %d, want %d", size, s.firstCircle(), closed)
		}
	}
}
