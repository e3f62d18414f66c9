package tests

import (
	"math/rand"
	"slices"
	"strings"
	"testing"

	"loop.example/s02665/impl"
)

// allWhole is whether all matches of a program are whole.
func allWhole(program []impl.Node) bool {
	return !slices.ContainsFunc(impl.Report(program), func(m impl.Match) bool { return m.Code != impl.MtWhole })
}

// namesFailures is whether a program names Match or Bind.
func namesFailures(program []impl.Node) bool {
	return slices.ContainsFunc(program, func(n impl.Node) bool {
		return isOneOf(n.Kind, impl.ECon, impl.PCon) && isOneOf(n.Text, "Match", "Bind")
	})
}

// keepsPromises holds a run of a program against the chapter, and against promises 14 to 17.
func keepsPromises(t *testing.T, rnd *rand.Rand, program []impl.Node, most int) impl.Outcome {
	t.Helper()
	typed := keepsPromise14(t, program)
	o := holdsAtFuels(t, rnd, checkDesugar(t, program), most)
	if typed && o.Kind == impl.RunStuck {
		t.Fatalf("%s\nhas types, and is stuck: %s", impl.Print(program), outcomeShown(o))
	}
	if typed && allWhole(program) && !namesFailures(program) && o.Kind == impl.RunRaise && isOneOf(o.Text, "Match", "Bind") {
		t.Fatalf("%s\nis whole, and raises: %s", impl.Print(program), outcomeShown(o))
	}
	return o
}

func TestRunOwnPrograms(t *testing.T) {
	rnd, kinds, whole, failing, outs := rand.New(rand.NewSource(13)), map[int]int{}, map[int]int{}, 0, 0
	codedPrograms(t, 500, func(_ *coder, src string, program []impl.Node) {
		o := keepsPromises(t, rnd, program, 2000)
		if o.Out != "" {
			outs++
		}
		if impl.Infer(program).Code != impl.TyOk {
			return
		}
		kinds[o.Kind]++
		if allWhole(program) && !namesFailures(program) {
			whole[o.Kind]++
		} else if isOneOf(o.Text, "Match", "Bind") {
			failing++
		}
	})
	if kinds[impl.RunValue] < 400 || kinds[impl.RunRaise] < 200 || kinds[impl.RunFuel] < 3 || outs < 5 {
		t.Errorf("%v have types, %d have put something out", kinds, outs)
	}
	if whole[impl.RunValue] < 100 || whole[impl.RunRaise] < 20 || failing < 20 {
		t.Errorf("%v are whole, %d of the others raise Match or Bind", whole, failing)
	}
}

// Programs that are drawn without a thought of types.
func TestRunDrawnPrograms(t *testing.T) {
	rnd, kinds := rand.New(rand.NewSource(14)), map[int]int{}
	look := func(program []impl.Node) {
		if _, code, _ := impl.Declare(program); code == impl.DtOk {
			kinds[keepsPromises(t, rnd, program, 300).Kind]++
		}
	}
	drawnPrograms(t, 900, func(d drawer, drawn []impl.Node, right []impl.Node) { look(resolvedTerm(t, right)) })
	declaringPrograms(t, 60, func(d *declarer, program []impl.Node) { look(resolvedTerm(t, program)) })
	if kinds[impl.RunValue] < 50 || kinds[impl.RunStuck] < 50 {
		t.Errorf("%v", kinds)
	}
}

// Promise 16, by programs whose matches are whole, and by others that fail where something is missing.
func TestRunWholeMatches(t *testing.T) {
	front := "datatype 'a opt = None | Some of 'a datatype t = A | B of bool * t | C exception Stop of int "
	for _, c := range []struct {
		src   string
		whole bool
		kind  int
		text  string
	}{
		{"fun f None = 1 | f (Some _) = 2 val x = (f None, f (Some 3))", true, impl.RunValue, "((), fn, (1, 2))"},
		{"fun f None = 1 val x = f (Some 3)", false, impl.RunRaise, "Match"}, {"fun f None = 1 val x = f None", false, impl.RunValue, "((), fn, 1)"},
		{"val Some x = Some 1", false, impl.RunValue, "((), 1)"}, {"val Some x = None : int opt", false, impl.RunRaise, "Bind"}, {"val (x, _) = (1, 2)", true, impl.RunValue, "((), 1)"},
		{"fun f (B (true, A)) = 1 | f (B (false, _)) = 2 | f A = 3 | f C = 4 | f (B (_, B _)) = 5 | f (B (_, C)) = 6 val x = (f (B (true, C)), f (B (true, B (false, A))), f A)", true, impl.RunValue, "((), fn, (6, 5, 3))"},
		{"fun f (B (true, A)) = 1 | f (B (false, _)) = 2 | f A = 3 | f C = 4 | f (B (_, B _)) = 5 val x = f (B (true, C))", false, impl.RunRaise, "Match"},
		{"val x = case [1] of nil => 0 | [_] => 1 | _ :: _ :: _ => 2", true, impl.RunValue, "((), 1)"}, {"val x = case [1, 2] of nil => 0 | [_] => 1", false, impl.RunRaise, "Match"},
		{"val x = (fn 1 => 2 | _ => 3) 4", true, impl.RunValue, "((), 3)"}, {"val x = (fn \"\" => 2) \"a\"", false, impl.RunRaise, "Match"},
		// A handle is whole always; what it does not take is not a Match.
		{"val x = (raise Stop 1) handle Div => 2", true, impl.RunRaise, "Stop 1"}, {"val x = 1 / 0 handle Stop _ => 2", true, impl.RunRaise, "Div"},
		// Ones that name them themselves.
		{"val x = if true then raise Match else 1", true, impl.RunRaise, "Match"}, {"fun f x = raise x val y = if true then f Bind else 1", true, impl.RunRaise, "Bind"},
		// Ones that raise something else.
		{"fun f 0 = raise Stop 1 | f n = f (n - 1) val x = if true then f 3 else 1", true, impl.RunRaise, "Stop 1"}, {"val x = sub (\"\", 0)", true, impl.RunRaise, "Subscript"}, {"val x = if 1 < 2 andalso true orelse false then 1 else 2", true, impl.RunValue, "((), 1)"},
	} {
		program := resolved(t, front+c.src)
		if allWhole(program) != c.whole {
			t.Errorf("%s: whole %v", c.src, !c.whole)
		}
		o := keepsPromises(t, rand.New(rand.NewSource(1)), program, 2000)
		if o.Kind != c.kind || o.Text != c.text {
			t.Errorf("%s: %s", c.src, outcomeShown(o))
		}
	}
}

// Promise 17 at every fuel, for programs of some size.
func TestRunEveryFuel(t *testing.T) {
	for _, src := range []string{
		"val x = 1 + 2", "fun f n = if n = 0 then 1 else n * f (n - 1) val x = f 6 val _ = print (show x)",
		"exception E of int fun f n = if n = 3 then raise E n else (print (show n); f (n + 1)) val x = f 0 handle E k => (print \"!\"; k) val y = x / (x - 3)",
		"val r = ref 0 val _ = while !r < 5 do (print \"a\"; r := !r + 1) val l = [!r, 1] = [5, 1]", "val x = 1 1", "val f = fn x => x val y = f = f", "val (a, [b]) = (1, [2, 3])",
	} {
		c := checkDesugar(t, resolved(t, src))
		end := checkEnd(t, c)
		out := ""
		for fuel := range end.Used {
			o := checkRun(t, c, fuel)
			if o.Kind != impl.RunFuel || o.Used != fuel || o.Text != "" || !strings.HasPrefix(o.Out, out) {
				t.Fatalf("%s with %d: %s", src, fuel, outcomeShown(o))
			}
			out = o.Out
		}
		if !strings.HasPrefix(end.Out, out) {
			t.Errorf("%s: %s", src, outcomeShown(end))
		}
		for fuel := end.Used; fuel < end.Used+300; fuel += 7 {
			if o := impl.Run(c, fuel); o != end {
				t.Fatalf("%s with %d: %s", src, fuel, outcomeShown(o))
			}
		}
		if o := impl.Run(c, impl.MaxFuel); o != end {
			t.Errorf("%s: %s", src, outcomeShown(o))
		}
	}
}

// The given programs again, with all that they answer.
func TestRunPrograms(t *testing.T) {
	for _, c := range []struct {
		src  string
		want impl.Outcome
	}{
		{"val a = print \"a\" val b = (print \"b\"; 1) fun p s = print (s ^ \"!\") val _ = p \"c\"", impl.Outcome{Text: "((), (), 1, fn)", Out: "abc!", Used: 27}},
		{"val a = (print \"x\"; 1 / 0) val b = print \"y\"", impl.Outcome{Kind: impl.RunRaise, Text: "Div", Out: "x", Used: 8}},
		{"val x = 1 val x = 2", impl.Outcome{Text: "((), 1, 2)", Used: 8}},
		{"val x = let val x = 1 val f = fn y => x + y val x = 10 in f x end", impl.Outcome{Text: "((), 11)", Used: 18}},
		{"val x = 1 val y = x 2 val _ = print \"no\"", impl.Outcome{Kind: impl.RunStuck, Used: 6}},
	} {
		programEnds(t, c.src, c.want)
	}
}
