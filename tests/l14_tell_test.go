package tests

import (
	"strconv"
	"strings"
	"testing"

	"loop.example/s02665/impl"
)

// tells wants the lines of a source with some fuel.
func tells(t *testing.T, src string, fuel int, want ...string) {
	t.Helper()
	checkBuild(t, src, fuel)
	if got := impl.Tell(src, fuel); got != strings.Join(want, "\n")+"\n" {
		t.Errorf("%.500s\nwith %d tells\n%.2000s\nwant\n%.2000s", src, fuel, got, strings.Join(want, "\n"))
	}
}

// The examples of the chapter.
func TestTellExamples(t *testing.T) {
	tells(t, "fun f 1 = 2\nval Div = case 1 of 1 => Div | _ => Match | 3 => Bind", 10000,
		"1:5 missing 0", "2:11 rule 2 says nothing new", "2:1 missing _", "val f : int -> int", "value ((), fn)", `output ""`)
	tells(t, "val x = 1\nval y = (1, 2 + true)", 10000, "error 4 2 at 2:13")
}

func TestTellLines(t *testing.T) {
	tells(t, "", 100, "value ()", `output ""`)
	tells(t, "val x = 1", 100, "val x : int", "value ((), 1)", `output ""`)
	tells(t, "val _ = print \"hi\\n\"", 100, "value ()", `output "hi\n"`)
	tells(t, "val x = 1 / 0", 100, "val x : int", "raised Div", `output ""`)
	tells(t, "exception Stop of int val x = (print \"a\"; raise Stop ~3) val _ = print \"b\"", 100, "val x : unit", "raised Stop (~3)", `output "a"`)
	tells(t, "fun f x = f x val y = f 1", 1000, "val f : 'a -> 'b", "val y : unit", "no fuel", `output ""`)
	tells(t, "val _ = while true do print \"ab\"", 50, "no fuel", `output "`+strings.Repeat("ab", (50-2)/4)+`"`)
	tells(t, "val [y] = [1, 2]", 100, "1:1 missing nil", "val y : int", "raised Bind", `output ""`)
	// Notes ahead of vals, vals ahead of the value.
	tells(t, "val f = fn 1 => true | 1 => false\nval x = print (show 5)\nval y = [f]", 1000,
		"1:9 missing 0", "1:9 rule 1 says nothing new", "val f : int -> bool", "val x : unit", "val y : (int -> bool) list", "value ((), fn, (), [fn])", `output "5"`)
	tells(t, "val x = 1 val x = (x, x) val x = \"\\\"\"", 100, "val x : int", "val x : int * int", "val x : string", `value ((), 1, (1, 1), "\"")`, `output ""`)
	number := func(i int) string { return strconv.Itoa(i) }
	tells(t, "val f =\n fn "+rulesOf(impl.MaxRows+1, number), 100, "2:2 too hard", "val f : int -> int", "value ((), fn)", `output ""`)
	// A program without types is told of, and not run.
	tells(t, "val _ = print \"no\" val x = 1 1", 100, "error 4 2 at 1:28")
}

// Every stage.
func TestTellErrors(t *testing.T) {
	tells(t, "val x = 1 +\n  +", 100, "error 1 10 at 2:3")
	tells(t, "val x = 1\n\n\tval y = ?", 100, "error 1 2 at 3:10")
	tells(t, strings.Repeat("\n", impl.MaxSource+1), 100, "error 1 1 at 1:1")
	tells(t, "val x = 1\nval y =\n  z", 100, "error 2 2 at 3:3")
	tells(t, "datatype t = A of t", 100, "error 3 3 at 1:10")
	tells(t, "val x = 1\nval y = x x", 100, "error 4 2 at 2:9")
}

// Fuel at its ends, and just as much as is needed. What counts is what the simple code uses.
func TestTellFuel(t *testing.T) {
	for _, fuel := range []int{-1, -100000, impl.MaxFuel + 1, 1 << 40} {
		tells(t, "val x = 1", fuel, "val x : int", "no run", `output ""`)
		tells(t, "val x = 1 1", fuel, "error 4 2 at 1:9")
		tells(t, "val _ = print \"a\"", fuel, "no run", `output ""`)
	}
	tells(t, "val x = 1", 0, "val x : int", "no fuel", `output ""`)
	tells(t, "val x = 1", impl.MaxFuel, "val x : int", "value ((), 1)", `output ""`)
	// CTuple, CTuple() in it and CInt 3 are left of it.
	tells(t, "val x = 1 + 2", 2, "val x : int", "no fuel", `output ""`)
	tells(t, "val x = 1 + 2", 3, "val x : int", "value ((), 3)", `output ""`)
	if o := impl.Run(impl.Build("val x = 1 + 2").Plain, 3); o.Kind != impl.RunFuel {
		t.Errorf("the code itself: %s", outcomeShown(o))
	}
	src := "fun f n = if n = 0 then 0 else f (n - 1) val _ = (print \"x\"; f 50; print \"y\")"
	o := impl.Run(impl.Simplify(impl.Build(src).Plain), impl.MaxFuel)
	tells(t, src, o.Used, "val f : int -> int", "value ((), fn)", `output "xy"`)
	tells(t, src, o.Used-1, "val f : int -> int", "no fuel", `output "xy"`)
	tells(t, src, o.Used/2, "val f : int -> int", "no fuel", `output "x"`)
}

// Output with every byte, as Print writes strings.
func TestTellOutput(t *testing.T) {
	for b := range 256 {
		want := toldQuoted("<" + string([]byte{byte(b)}) + ">")
		tells(t, "val _ = print (\"<\" ^ chr "+strconv.Itoa(b)+" ^ \">\")", 100, "value ()", "output "+want)
	}
	tells(t, `val _ = print "a\nb\tc\\d\"e\000\127\255~ "`, 100, "value ()", `output "a\nb\tc\\d\"e\000\127\255~ "`)
	tells(t, `val s = "\n\t\\\"\001"`, 100, "val s : string", `value ((), "\n\t\\\"\001")`, `output ""`)
	// As much as may be put out.
	most := impl.MaxOut / impl.MaxString
	src := "val s = \"" + strings.Repeat("s", impl.MaxString) + "\"" + strings.Repeat(" val _ = print s", most)
	text := `value ((), "` + strings.Repeat("s", impl.MaxString) + `")`
	tells(t, src, 1000, "val s : string", text, `output "`+strings.Repeat("s", impl.MaxOut)+`"`)
	tells(t, src+" val _ = print \"t\"", 1000, "val s : string", "raised Size", `output "`+strings.Repeat("s", impl.MaxOut)+`"`)
}

// A program that has types is never stuck, so no source tells that: those that would be have no types.
func TestTellStuck(t *testing.T) {
	for _, src := range []string{"val x = 1 2", "val x = 1 + \"a\"", "val x = !1", "val x = 1 := 2", "val x = while 1 do 2", "val x = raise 1", "val x = (1, 2) = (1, 2, 3)", "val x = not 1", "val x = sub 1", "val x = ~ \"\""} {
		program := resolved(t, src)
		plain, _ := impl.Desugar(program)
		if o := impl.Run(plain, 100); o.Kind != impl.RunStuck {
			t.Errorf("%s: %s", src, outcomeShown(o))
		}
		if got := impl.Tell(src, 100); !strings.HasPrefix(got, "error 4 2 at 1:") || strings.Count(got, "\n") != 1 {
			t.Errorf("%s tells %q", src, got)
		}
	}
}

// Values that are shown: what chapter 13 shows.
func TestTellValues(t *testing.T) {
	front := "datatype 'a opt = None | Some of 'a datatype t = A | B of bool * t "
	for exp, want := range map[string]string{
		"(nil, [nil], Some [1], Some ~1, Some (Some 1))": "([], [[]], Some [1], Some (~1), Some (Some 1))",
		"(B (true, A), fn x => x, ref 1, print, op ::)":  "(B (true, A), fn, ref, fn, op ::)",
		"(~7 / 2, ~7 % 2, ~ 3)":                          "(~3, ~1, ~3)",
		"[\"a\", \"\\n\"]":                               `["a", "\n"]`,
		"((raise Div) handle Div => 1, (fn 1 => 2) 1)":   "(1, 2)",
	} {
		got := strings.Split(impl.Tell(front+"val x = "+exp, 1000), "\n")
		if line := got[len(got)-3]; line != "value ((), "+want+")" {
			t.Errorf("%s tells %q, want %q", exp, line, want)
		}
	}
}
