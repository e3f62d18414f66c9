package impl

import (
	"iter"
	"slices"
)

const MaxNodes = 6000
const MaxDeep = 300

type Node struct {
	Kind int
	Num  int64
	Text string
	Kids int
	At   int
}

// span is a term inside a list of nodes: the indexes of its first node and of its root.
type span struct {
	from int
	root int
	deep int
}

func Good(t []Node) bool {
	return Deep(t) > 0
}

func Kids(t []Node) [][]Node {
	kids := [][]Node{}
	if !Good(t) {
		return kids
	}
	for kid := range kidsOf(t) {
		kids = append(kids, slices.Clone(kid))
	}
	return kids
}

func Join(root Node, kids [][]Node) []Node {
	return join(root, kids...)
}

func Same(a []Node, b []Node) bool {
	return slices.EqualFunc(a, b, sameNode)
}

func Deep(t []Node) int {
	if len(t) > MaxNodes {
		return 0
	}
	deep := deepOf(t)
	if deep > MaxDeep {
		return 0
	}
	return deep
}

func Part(t []Node, i int) []Node {
	if !Good(t) {
		return []Node{}
	}
	for s := range spans(t) {
		if s.root == i {
			return slices.Clone(cut(t, s))
		}
	}
	return []Node{}
}

// deepOf is 0 for a list that is no term, however large and deep that may be.
func deepOf(t []Node) int {
	last := span{}
	for s := range spans(t) {
		last = s
	}
	if last.from != 0 || last.root != len(t)-1 {
		return 0
	}
	return last.deep
}

// join never appends to a kid, since behind it may stand what belongs to somebody else.
func join(root Node, kids ...[]Node) []Node {
	size := 1
	for _, kid := range kids {
		size += len(kid)
	}
	t := make([]Node, 0, size)
	for _, kid := range kids {
		t = append(t, kid...)
	}
	root.Kids = len(kids)
	return append(t, root)
}

func sameNode(a Node, b Node) bool {
	b.At = a.At
	return a == b
}

// spans walks the terms of a list in the order of their roots. It breaks off at a node that asks for
// kids that do not stand in front of it: so a list is a term if the walk ends with the whole of it.
func spans(t []Node) iter.Seq[span] {
	return func(yield func(span) bool) {
		free := []span{} // terms that are no node's kids so far
		for i, n := range t {
			if n.Kids < 0 || n.Kids > len(free) {
				return
			}
			first := len(free) - n.Kids
			s := spanOver(free[first:], i)
			if !yield(s) {
				return
			}
			free = append(free[:first], s)
		}
	}
}

func spanOver(kids []span, root int) span {
	s := span{from: root, root: root, deep: 1}
	if len(kids) > 0 {
		s.from = kids[0].from
	}
	for _, kid := range kids {
		s.deep = max(s.deep, kid.deep+1)
	}
	return s
}

// kidsOf walks the kids of the root of a term; what it hands out is still memory of the term.
func kidsOf(t []Node) iter.Seq[[]Node] {
	return func(yield func([]Node) bool) {
		for _, s := range kidSpans(t) {
			if !yield(cut(t, s)) {
				return
			}
		}
	}
}

func kidSpans(t []Node) []span {
	return spansBelow(t, slices.Collect(spans(t)), len(t)-1)
}

// spansBelow picks the kids of one root out of all spans of a list, from the root to the front, since
// only a term's end tells where it begins.
func spansBelow(t []Node, all []span, root int) []span {
	kids := make([]span, t[root].Kids)
	next := root - 1
	for k := range slices.Backward(kids) {
		kids[k] = all[next]
		next = all[next].from - 1
	}
	return kids
}

// cut bounds the capacity, so that appending to a piece can't write into what stands behind it.
func cut(t []Node, s span) []Node {
	return t[s.from : s.root+1 : s.root+1]
}
