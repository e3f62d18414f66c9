package impl

import (
	"slices"
	"testing"
)

func TestWalksMayBeLeft(t *testing.T) {
	a, b := []Node{{Text: "a"}}, []Node{{Text: "b"}, {Kids: 1}}
	whole := join(Node{Kind: 1}, a, b, a)
	for at := range 3 {
		seen := 0
		for range kidsOf(whole) {
			if seen == at {
				break
			}
			seen++
		}
		if seen != at {
			t.Error("left the kids after", seen, "want", at)
		}
	}
	for s := range spans(whole) {
		if s.root == 2 {
			if s.from != 1 || s.deep != 2 {
				t.Error("second kid", s)
			}
			break
		}
	}
}

func TestCutIsBounded(t *testing.T) {
	whole := join(Node{Kind: 1}, []Node{{Text: "a"}}, []Node{{Text: "b"}})
	before := slices.Clone(whole)
	for kid := range kidsOf(whole) {
		_ = append(kid, Node{Text: "behind"})
	}
	if !slices.Equal(whole, before) {
		t.Error("appending to a kid wrote behind it", whole)
	}
}
