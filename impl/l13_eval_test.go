package impl

import (
	"math/bits"
	"slices"
	"strconv"
	"strings"
	"testing"
)

func outermostFrame() *frame {
	f := &frame{}
	f.leap = f
	return f
}

// A frame that is far outside is found by few leaps, from wherever it is looked for.
func TestFrames(t *testing.T) {
	const size = 3000
	all := []*frame{outermostFrame()}
	for i := 1; i <= size; i++ {
		last := all[len(all)-1]
		if next := last.with(); next != last {
			t.Fatal("nothing bound, and a new frame")
		}
		all = append(all, last.with(intValue(i), intValue(-i)))
	}
	for _, from := range []int{1, 2, 3, 17, 1000, size - 1, size} {
		for to := 1; to <= from; to++ {
			for slot, want := range []intValue{intValue(to), intValue(-to)} {
				if got := all[from].find(home{to, slot}); got != want {
					t.Fatalf("%d from %d: %v", to, from, got)
				}
			}
			steps, f := 0, all[from]
			for f.deep > to {
				steps++
				if f.leap.deep >= to {
					f = f.leap
				} else {
					f = f.up
				}
			}
			if steps > 3*bits.Len(uint(from)) {
				t.Fatalf("%d steps from %d to %d", steps, from, to)
			}
		}
	}
}

// Closures of a CFix are made when they are asked for, and know the frame of all of them.
func TestFrameOfFix(t *testing.T) {
	lam := &plainCode{Node: Node{Kind: CLam, Num: 2, Kids: 1}}
	bnd := &plainCode{Node: Node{Kind: CBnd, Num: 1, Kids: 1}, parts: []*plainCode{lam}}
	f := outermostFrame().inside(nil, []*plainCode{bnd, bnd})
	inner := f.with(intValue(1))
	c, is := inner.find(home{1, 1}).(*closure)
	if !is || c.lam != lam || c.in != f {
		t.Errorf("%v", c)
	}
}

// Where a CVar has its value is told beforehand: by the frames around it, and the place in one.
func TestHomes(t *testing.T) {
	n := func(kind int, num int64, kids int) Node { return Node{Kind: kind, Num: num, Kids: kids} }
	rule, pair := n(CRule, 0, 2), n(PTuple, 0, 2)
	v := n(CVar, 1, 0)
	match := Node{Kind: CCase, Text: "Match", Kids: 2}
	for name, c := range map[string]struct {
		code  []Node
		homes []home
	}{
		"no binder":        {[]Node{v}, []home{{}}},
		"a let":            {[]Node{v, v, n(CLet, 1, 2)}, []home{{}, {1, 0}}},
		"a function":       {[]Node{v, n(CLam, 1, 1)}, []home{{1, 0}}},
		"two functions":    {[]Node{v, n(CLam, 2, 1), n(CLam, 1, 1)}, []home{{1, 0}}},
		"twice":            {[]Node{v, n(CLam, 1, 1), n(CLam, 1, 1)}, []home{{2, 0}}},
		"a fix":            {[]Node{v, n(CLam, 3, 1), n(CBnd, 2, 1), v, n(CLam, 1, 1), n(CBnd, 1, 1), v, n(CFix, 0, 3)}, []home{{1, 1}, {2, 0}, {1, 1}}},
		"a rule":           {[]Node{v, n(QVar, 1, 0), n(QVar, 1, 0), pair, v, rule, match}, []home{{}, {1, 1}}},
		"a name around":    {[]Node{v, n(QVar, 2, 0), n(QVar, 3, 0), pair, n(QAs, 1, 1), v, rule, match}, []home{{}, {1, 0}}},
		"a name inside":    {[]Node{v, n(QVar, 1, 0), n(QVar, 3, 0), pair, n(QAs, 1, 1), v, rule, match}, []home{{}, {1, 1}}},
		"a rule of none":   {[]Node{v, n(PWild, 0, 0), v, n(CLam, 1, 1), rule, match}, []home{{}, {1, 0}}},
		"behind its scope": {[]Node{v, n(CLam, 1, 1), v, n(CTuple, 0, 2)}, []home{{1, 0}, {}}},
	} {
		if !PlainForm(c.code) {
			t.Fatalf("%s is not plain", name)
		}
		got := []home{}
		var walk func(it *plainCode)
		walk = func(it *plainCode) {
			if it.Kind == CVar {
				got = append(got, it.home)
			}
			for _, part := range it.parts {
				walk(part)
			}
		}
		if walk(plainCodeOf(c.code)); !slices.Equal(got, c.homes) {
			t.Errorf("%s: %v, want %v", name, got, c.homes)
		}
	}
}

// What is put out is gathered in its order, and all of it when that ends.
func TestGathering(t *testing.T) {
	for _, n := range []int{0, 1, 2, 5000} {
		g, want := gatherTexts(), &strings.Builder{}
		for i := range n {
			g.put(strconv.Itoa(i))
			want.WriteString(strconv.Itoa(i))
		}
		if g.size != want.Len() {
			t.Errorf("%d texts: size %d", n, g.size)
		}
		if got := g.end(); got != want.String() {
			t.Errorf("%d texts: %d bytes", n, len(got))
		}
		if _, open := <-g.texts; open {
			t.Error("the channel is open still")
		}
	}
}

// A try takes what raises; being stuck and out of fuel go by, as they were thrown.
func TestAttempts(t *testing.T) {
	bad := &plainCode{Node: Node{Kind: CVar, Num: 1}}
	raised := &plainCode{Node: Node{Kind: CRaise, Kids: 1}, parts: []*plainCode{{Node: Node{Kind: CCon, Text: "A"}}}}
	for _, c := range []struct {
		code *plainCode
		fuel int
		want func(thrown any) bool
	}{
		{bad, 5, func(thrown any) bool { _, is := thrown.(stuck); return is }},
		{bad, 0, func(thrown any) bool { _, is := thrown.(noFuel); return is }},
		{raised, 5, func(thrown any) bool { it, is := thrown.(raising); return is && it.its.name == "A" }},
	} {
		r := &running{fuel: c.fuel}
		its, thrown := r.attempt(c.code, outermostFrame())
		if its != nil || !c.want(thrown) {
			t.Errorf("%v: %v", c.code.Node, thrown)
		}
		// A CTry without a rule that fits throws the same.
		pat := &plainCode{Node: Node{Kind: PInt}}
		try := &plainCode{Node: Node{Kind: CTry}, parts: []*plainCode{c.code, {Node: Node{Kind: CRule}, parts: []*plainCode{pat, bad}}}}
		if _, thrown := (&running{fuel: c.fuel}).attempt(try, outermostFrame()); !c.want(thrown) {
			t.Errorf("%v in a try: %v", c.code.Node, thrown)
		}
	}
	// A fault of the program itself is none of these.
	defer func() {
		if recover() == nil {
			t.Error("a fault is taken for an outcome")
		}
	}()
	outcomeOf(nil, "a fault")
}

// No program is so large that its plain code has more than MaxCode nodes, but the bound is kept.
func TestPlainCodeIsBounded(t *testing.T) {
	w := &coding{isPlain: true}
	for range MaxCode {
		w.put(Node{Kind: TCon, Text: "int"}, Node{Kind: CInt}, Node{Kind: CInst, Kids: 2})
	}
	if w.large || len(w.code) != MaxCode {
		t.Errorf("%d nodes, large: %v", len(w.code), w.large)
	}
	w.put(Node{Kind: TTuple}, Node{Kind: CAll, Num: 1, Kids: 1})
	if w.large {
		t.Error("types are counted")
	}
	if w.put(Node{Kind: CUn, Text: "~", Kids: 1}); !w.large || len(w.code) != MaxCode {
		t.Errorf("%d nodes, large: %v", len(w.code), w.large)
	}
	if c, code := w.write([]Node{{Kind: KProgram}}); code != CoLarge || len(c) > 0 {
		t.Errorf("code %d with %d nodes", code, len(c))
	}
}
