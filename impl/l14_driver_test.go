package impl

import "testing"

// No source is large enough for CoLarge: so what happens then is asked of the step itself.
func TestCodeHasNoPlace(t *testing.T) {
	b := &building{src: "\n\nval x = 1"}
	code, at := b.desugar()
	line, col := Place(b.src, at)
	if code == CoOk || line != 1 || col != 1 || len(b.plain) != 0 {
		t.Errorf("code %d at %d:%d", code, line, col)
	}
}

// The chapters stand in their order, each with its own stage.
func TestChaptersAreInOrder(t *testing.T) {
	for i, c := range chapters() {
		if c.stage != StSyntax+i {
			t.Errorf("chapter %d has stage %d", i, c.stage)
		}
	}
}

// What is put for a variable is there inside its CLet alone.
func TestAtomsAreForgotten(t *testing.T) {
	l := &lessening{bound: map[int64]int{1: 1}, atoms: map[int64]*plainCode{}}
	five, var1 := newPlainCode(Node{Kind: CInt, Num: 5}), newPlainCode(Node{Kind: CVar, Num: 1})
	if got := l.write(newPlainCode(Node{Kind: CLet, Num: 1}, five, var1)); got.Num != 5 || len(l.atoms) != 0 {
		t.Errorf("%v, with %d atoms left", got.Node, len(l.atoms))
	}
}

// A program that has types is never stuck, so no source tells that.
func TestOutcomesAreSpelled(t *testing.T) {
	for _, c := range []struct {
		o    Outcome
		want string
	}{
		{Outcome{Kind: RunValue, Text: "((), 1)"}, "value ((), 1)"}, {Outcome{Kind: RunRaise, Text: "Div"}, "raised Div"},
		{Outcome{Kind: RunFuel}, "no fuel"}, {Outcome{Kind: RunStuck}, "stuck"}, {Outcome{Kind: RunArgs}, "no run"},
	} {
		if got := spellOutcome(c.o); got != c.want {
			t.Errorf("%v: %q, want %q", c.o, got, c.want)
		}
	}
}
