package tests

import (
	"math/rand"
	"slices"
	"strings"
	"testing"

	"loop.example/s02665/impl"
)

// saysRun wants that Tell says what the plain code does without Simplify, wherever that ends; and
// promise 15, that it is never stuck.
func saysRun(t *testing.T, src string, built impl.Built, fuel int) impl.Outcome {
	t.Helper()
	if built.Stage != impl.StOk {
		return impl.Outcome{Kind: impl.RunArgs}
	}
	o := impl.Run(built.Plain, fuel)
	ends := map[int]string{impl.RunValue: "value ", impl.RunRaise: "raised "}
	if o.Kind == impl.RunStuck {
		t.Fatalf("%s\nhas types, and is stuck", src)
	}
	if text, is := ends[o.Kind]; is {
		want := text + o.Text + "\noutput " + toldQuoted(o.Out) + "\n"
		if told := impl.Tell(src, fuel); !strings.HasSuffix("\n"+told, "\n"+want) {
			t.Fatalf("%s\nwith %d tells %s\nwant %s", src, fuel, told, want)
		}
	}
	return o
}

// Promise 20 for sources that are made up with types in mind, right ones and wrong ones.
func TestBuildOwnPrograms(t *testing.T) {
	rnd, stages, kinds, notes := rand.New(rand.NewSource(20)), map[int]int{}, map[int]int{}, map[int]int{}
	codedPrograms(t, 250, func(c *coder, src string, program []impl.Node) {
		built := checkBuild(t, src, rnd.Intn(60), 3000)
		stages[built.Stage]++
		kinds[saysRun(t, src, built, 3000).Kind]++
		saysRun(t, src, built, rnd.Intn(100))
		for _, n := range built.Notes {
			notes[n.Kind]++
		}
	})
	if stages[impl.StOk] < 300 || stages[impl.StTypes] < 30 || kinds[impl.RunValue] < 150 || kinds[impl.RunRaise] < 80 || notes[impl.NtMissing] < 100 || notes[impl.NtUseless] < 50 {
		t.Errorf("stages %v, kinds %v, notes %v", stages, kinds, notes)
	}
}

// Promise 20 for sources that are drawn without a thought: printed programs, and sources that are
// changed somewhere.
func TestBuildDrawnPrograms(t *testing.T) {
	stages := map[int]int{}
	look := func(src string) { stages[checkBuild(t, src).Stage]++ }
	drawnPrograms(t, 500, func(d drawer, drawn []impl.Node, right []impl.Node) {
		look(impl.Print(drawn))
		look(impl.Print(right))
	})
	declaringPrograms(t, 200, func(d *declarer, program []impl.Node) { look(impl.Print(program)) })
	rnd := rand.New(rand.NewSource(21))
	codedPrograms(t, 60, func(c *coder, src string, program []impl.Node) {
		for range 4 {
			look(changedSource(rnd, src))
		}
	})
	for seed := range int64(400) {
		src, _ := madeUp(seed, wideGaps)
		look(src)
	}
	for stage := impl.StOk; stage <= impl.StTypes; stage++ {
		if stages[stage] < 20 {
			t.Errorf("stage %d was met %d times", stage, stages[stage])
		}
	}
}

// changedSource has a piece taken out, doubled, or put elsewhere, or a byte changed.
func changedSource(rnd *rand.Rand, src string) string {
	from := rnd.Intn(len(src))
	to := min(len(src), from+rnd.Intn(12))
	at := rnd.Intn(len(src))
	switch rnd.Intn(4) {
	case 0:
		return src[:from] + src[to:]
	case 1:
		return src[:to] + src[from:to] + src[to:]
	case 2:
		return src[:at] + src[from:to] + src[at:]
	}
	return src[:at] + string([]byte{"\n x1'\"($=~|,"[rnd.Intn(12)]}) + src[at:]
}

// Promise 5 over the whole way: places are told as lines and columns of where the text begins, so
// spaces and newlines in front of a token move what is told by just these.
func TestBuildMovesWithPlaces(t *testing.T) {
	for _, src := range []string{"val x = 1 + true", "fun f 1 = 2 val y = case 1 of 3 => 4 | 3 => 5", "val a = b", "val a = 1 +", "datatype t = A of t", "val x = (fn true => 1, fn 2 => 3)", "val x = let val 1 = 2 in 3 end val nil = [x]"} {
		toks := tokensOf(t, src)
		at := func(gaps []string) (string, map[int]int) {
			out, places := "", map[int]int{}
			for i, tok := range toks {
				out += gaps[i]
				places[tok.At] = len(out)
				out += impl.Spell(tok)
			}
			places[len(src)] = len(out)
			return out, places
		}
		rnd := rand.New(rand.NewSource(5))
		plain := impl.Build(src)
		for range 30 {
			gaps := []string{}
			for range toks {
				gaps = append(gaps, []string{" ", "\n", " \n  ", "(* \n *)", "\t\r\n"}[rnd.Intn(5)])
			}
			other, places := at(gaps)
			moved := impl.Build(other)
			move := func(line int, col int) (int, int) {
				if line == 0 {
					return 0, 0
				}
				return placeAgain(other, places[col-1])
			}
			want := plain
			want.Line, want.Col = move(plain.Line, plain.Col)
			want.Notes = slices.Clone(plain.Notes)
			for i, n := range want.Notes {
				want.Notes[i].Line, want.Notes[i].Col = move(n.Line, n.Col)
			}
			if !isBuilt(moved, want) {
				t.Fatalf("%q\nis built as %v, want %v", other, moved, want)
			}
		}
	}
}

// Promises 7 and 11 over the whole way: what is shown is a plain type that the binder can have, and
// that is read back as its scheme.
func TestBuildShowsSchemes(t *testing.T) {
	shown := 0
	codedPrograms(t, 60, func(c *coder, src string, program []impl.Node) {
		built := impl.Build(src)
		if built.Stage != impl.StOk {
			return
		}
		last := map[string]string{}
		for _, s := range built.Shown {
			last[s.Name] = s.Type
		}
		for name, text := range last {
			ty, is := impl.Plain(program, typeOf(t, text))
			if again := impl.Canon(ty); !is || typeTextAgain(again) != text {
				t.Fatalf("%s\n%s : %s is read back as %s", src, name, text, plainShown(again))
			}
			// All its unknowns may be anything.
			for _, one := range []string{"int", "list(string)"} {
				binds := []impl.Bind{}
				for _, num := range impl.Unknowns(ty) {
					binds = append(binds, impl.Bind{Num: num, Type: plainOf(t, one)})
				}
				if special := impl.Put(binds, ty); len(special) > 0 && !impl.CanBe(program, name, special) {
					t.Fatalf("%s\n%s : %s cannot be %s", src, name, text, plainShown(special))
				}
			}
			shown++
		}
	})
	if shown < 200 {
		t.Errorf("%d were looked at", shown)
	}
}
