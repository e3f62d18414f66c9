package impl

import (
	"errors"
	"slices"
	"strings"
	"testing"
)

// Each rule is told by its own error, with the node around it.
func TestBrokenRules(t *testing.T) {
	rules := []struct {
		rule error
		code int
	}{{errUnbound, CkVar}, {errScope, CkScope}, {errNoType, CkType}, {errNoCon, CkCon}, {errApart, CkClash}, {errNoValue, CkValue}, {errWide, CkLarge}}
	for i, one := range rules {
		var err error = &broken{one.rule, 40 + i}
		var at *broken
		if !errors.As(err, &at) || at.node != 40+i || !errors.Is(err, one.rule) || !strings.Contains(err.Error(), one.rule.Error()) {
			t.Errorf("%v is not told by %v", one.rule, err)
		}
		if codeOfRule(err) != one.code || nodeOfRule(err) != 40+i {
			t.Errorf("%v: code %d at node %d", err, codeOfRule(err), nodeOfRule(err))
		}
		for k, other := range rules {
			if errors.Is(err, other.rule) != (i == k) {
				t.Errorf("%v is %v", err, other.rule)
			}
		}
	}
	if nodeOfRule(errWide) != 0 {
		t.Error("a rule alone has no node")
	}
}

// A body with three variables: what is put for the first ones does not touch the body.
func TestSchemesAreNotCopied(t *testing.T) {
	body := []sign{0, -2, -1, -3}
	one, two := schemeOf([]sign{7}, 0), schemeOf([]sign{8, 9}, 0)
	for _, c := range []struct {
		s    scheme
		flat []sign
		size int
	}{
		{schemeOf(body, 3), body, 7},
		{schemeOf(body, 2, two), []sign{0, -1, 8, 9, -2}, 7},
		{schemeOf(body, 1, two, one), []sign{0, 7, 8, 9, -1}, 6},
		{schemeOf(body, 0, two, one, two), []sign{0, 7, 8, 9, 8, 9}, 6},
		{schemeOf([]sign{-1}, 1, two), []sign{8, 9}, 3},
		{schemeOf([]sign{-1}, 0, two), []sign{8, 9}, 2},
		{schemeOf([]sign{-2}, 1, two), []sign{-1}, 2},
		{schemeOf([]sign{5, -1, -1}, 0, schemeOf([]sign{6, -1, -2}, 0, one, two)), []sign{5, 6, 7, 8, 9, 6, 7, 8, 9}, 9},
	} {
		if !slices.Equal(c.s.flat(), c.flat) || c.s.size != c.size {
			t.Errorf("%v of %v: %v, size %d", c.s.put, c.s.body, c.s.flat(), c.s.size)
		}
	}
	if !slices.Equal(body, []sign{0, -2, -1, -3}) {
		t.Error("the body was changed")
	}
}

func TestRootsFirst(t *testing.T) {
	a, b, c := Node{Kind: TCon, Text: "a"}, Node{Kind: TCon, Text: "b"}, Node{Kind: TCon, Text: "c"}
	pair, arrow := Node{Kind: TTuple, Kids: 2}, Node{Kind: TArrow, Kids: 2}
	if got := rootsFirst([]Node{a, b, pair, c, arrow}); !slices.Equal(got, []Node{arrow, pair, a, b, c}) {
		t.Errorf("%v", got)
	}
	if got := rootsFirst([]Node{a, b, c, pair, arrow}); !slices.Equal(got, []Node{arrow, a, pair, b, c}) {
		t.Errorf("%v", got)
	}
}
