package tests

import (
	"slices"
	"strconv"
	"strings"
	"testing"

	"loop.example/s02665/impl"
)

// builtFails wants a stage and a code, with the place of the "@" in the source; and the same a line
// further down, behind something that is right.
func builtFails(t *testing.T, marked string, stage int, code int) {
	t.Helper()
	for _, front := range []string{"", "\n", "  \n\t", "val qqq = 1\n", "(* \n\n *)\n\n   "} {
		at := strings.Index(front+marked, "@")
		src := strings.Replace(front+marked, "@", "", 1)
		if at < 0 || len(src) > impl.MaxSource && front != "" {
			at = 0
		}
		line, col := placeAgain(src, at)
		got := checkBuild(t, src)
		if got.Stage != stage || got.Code != code || got.Line != line || got.Col != col || len(got.Shown)+len(got.Notes)+len(got.Plain) != 0 {
			t.Errorf("%.300q: %v, want stage %d, code %d at %d:%d", src, got, stage, code, line, col)
		}
		want := "error " + strconv.Itoa(stage) + " " + strconv.Itoa(code) + " at " + strconv.Itoa(line) + ":" + strconv.Itoa(col) + "\n"
		for _, fuel := range []int{-1, 0, 100, impl.MaxFuel, impl.MaxFuel + 1} {
			if told := impl.Tell(src, fuel); told != want {
				t.Errorf("%.300q with %d tells %q, want %q", src, fuel, told, want)
			}
		}
	}
}

// Each stage with each of its codes that a source can have.
func TestBuildSyntax(t *testing.T) {
	builtFails(t, strings.Repeat(" ", impl.MaxSource)+" ", impl.StSyntax, impl.LexLong)
	for _, src := range []string{"val x = @$", "val x = 1 @# 2", "@\x00", "val x = @é", "@\"\x01", "val a = @."} {
		code := impl.LexChar
		if strings.Contains(src, "\"") {
			code = impl.LexStr
		}
		builtFails(t, src, impl.StSyntax, code)
	}
	builtFails(t, "val x = @9223372036854775808", impl.StSyntax, impl.LexInt)
	builtFails(t, "val x = @1x", impl.StSyntax, impl.LexInt)
	builtFails(t, "val x =\n  @\"abc", impl.StSyntax, impl.LexStr)
	builtFails(t, "val x = @\""+strings.Repeat("a", impl.MaxString+1)+"\"", impl.StSyntax, impl.LexStr)
	builtFails(t, "val x = 1 @(* a (* b *)\n", impl.StSyntax, impl.LexNote)
	builtFails(t, "val x =@", impl.StSyntax, impl.ParseSyntax)
	builtFails(t, "val x = 1 +\n@val y = 2", impl.StSyntax, impl.ParseSyntax)
	builtFails(t, "val x = (1, 2@", impl.StSyntax, impl.ParseSyntax)
	builtFails(t, "val x = 1\n\n  @end\n", impl.StSyntax, impl.ParseSyntax)
	builtFails(t, "@)", impl.StSyntax, impl.ParseSyntax)
	builtFails(t, "fun f 1 = 2\n  | @g 2 = 3", impl.StSyntax, impl.ParseClause)
	builtFails(t, "fun f 1 = 2\n  | f 2 3 @= 3", impl.StSyntax, impl.ParseClause)
	// The place of what is too large is 0.
	for _, src := range []string{"val x = " + strings.Repeat("(", impl.MaxDeep) + "1" + strings.Repeat(", 1)", impl.MaxDeep), "val x = (" + strings.Repeat("1,", impl.MaxNodes) + "1)"} {
		for _, front := range []string{"", "\n\n"} {
			got := checkBuild(t, front+src)
			if got.Stage != impl.StSyntax || got.Code != impl.ParseLarge || got.Line != 1 || got.Col != 1 {
				t.Errorf("%.100q: %v", src, got)
			}
		}
	}
}

func TestBuildNames(t *testing.T) {
	for marked, code := range map[string]int{
		"val x = @z": impl.ScUnbound, "val x = @x": impl.ScUnbound, "val y = 1\nval x = (y,\n @x)": impl.ScUnbound, "fun f x = @y": impl.ScUnbound, "val a = 1 val b = let val c = a in c end + @c": impl.ScUnbound,
		"val x = @A": impl.ScCon, "fun f @A = 1": impl.ScCon, "val a = @A datatype t = A": impl.ScCon, "val x = 1 + @B 2": impl.ScCon,
		"datatype t = A val @A _ = 1": impl.ScArity, "datatype t = A of int\nfun f @A = 1": impl.ScArity, "val @nil _ = 1": impl.ScArity, "val (@op ::) = 1": impl.ScArity,
		"val (x, (y, @x)) = 1": impl.ScTwice, "fun f x @x = 1": impl.ScTwice, "fun f x = 1 and\n @f y = 2": impl.ScTwice, "datatype t = A | @A": impl.ScTwice, "datatype t = A datatype @t = B": impl.ScTwice, "datatype ('a, @'a) t = A": impl.ScTwice,
		"datatype 'a t = A of @'b": impl.ScVar, "type t = @'a list": impl.ScVar, "exception E of @'a": impl.ScVar,
		"val x : @t = 1": impl.ScType, "datatype u = A of int * @t": impl.ScType, "fun f (x : @foo list) = 1": impl.ScType,
		"val x : @list = 1": impl.ScKind, "val x : @int int = 1": impl.ScKind, "type 'a p = 'a * 'a val x : @(int, int) p = 1": impl.ScKind,
	} {
		builtFails(t, marked, impl.StNames, code)
	}
	// A dec is told by where it begins, its name being no node of its own.
	builtFails(t, "val x = 1\n@exception Div", impl.StNames, impl.ScTwice)
	builtFails(t, "val x = 1\n @type int = string", impl.StNames, impl.ScTwice)
	// The first one in the list, not in the text.
	builtFails(t, "fun f x = 1 and f y = @z", impl.StNames, impl.ScUnbound)
}

func TestBuildData(t *testing.T) {
	builtFails(t, "datatype @t = A of t", impl.StData, impl.DtEmpty)
	builtFails(t, "datatype t = A\ndatatype @'a u = B of 'a * 'a u", impl.StData, impl.DtEmpty)
	builtFails(t, "datatype t = Z of int and @u = A of v\n and v = B of u", impl.StData, impl.DtEmpty)
	builtFails(t, "type t = @int"+strings.Repeat(" * int", impl.MaxType), impl.StData, impl.DtLarge)
	builtFails(t, "val y = 1\nval x : @int"+strings.Repeat(" * int", impl.MaxType)+" = y", impl.StData, impl.DtLarge)
	builtFails(t, "exception E of @int"+strings.Repeat(" * int", impl.MaxType), impl.StData, impl.DtLarge)
	many := strings.Join(tbinds("t", impl.MaxData), " and ")
	if got := checkBuild(t, "datatype "+many); got.Stage != impl.StOk {
		t.Errorf("%v", got)
	}
	builtFails(t, "datatype "+many+"\n  datatype @s = Last", impl.StData, impl.DtLarge)
}

func TestBuildTypes(t *testing.T) {
	builtFails(t, "val x = 1\nval y = (1, @2 + true)", impl.StTypes, impl.TyClash)
	builtFails(t, "val x = @1 1", impl.StTypes, impl.TyClash)
	builtFails(t, "val f = fn x => @x x", impl.StTypes, impl.TyClash)
	builtFails(t, "fun @f 1 = 2 | f true = 3", impl.StTypes, impl.TyClash)
	builtFails(t, "val r = ref nil\nval _ = r := [1]\nval _ = @r := [true]", impl.StTypes, impl.TyClash)
	builtFails(t, "val x = @if 1 then 2 else 3", impl.StTypes, impl.TyClash)
	builtFails(t, "@val 1 = true", impl.StTypes, impl.TyClash)
	builtFails(t, "val x = 1 + (@case 1 of true => 2)", impl.StTypes, impl.TyClash)
	builtFails(t, "val x = (@raise 1)", impl.StTypes, impl.TyClash)
	builtFails(t, "val x = @true : int", impl.StTypes, impl.TyClash)
	builtFails(t, "val x = @[1, true]", impl.StTypes, impl.TyClash)
}

func TestBuildLargeTypes(t *testing.T) {
	builtFails(t, "@val a = "+ones(impl.MaxType+1), impl.StTypes, impl.TyLarge)
	builtFails(t, "val b = 1\n @fun f x = "+ones(impl.MaxType), impl.StTypes, impl.TyLarge)
	builtFails(t, "val (@a, b) = ("+ones(impl.MaxType+1)+", 1)", impl.StTypes, impl.TyLarge)
	if got := checkBuild(t, "val a = "+ones(impl.MaxType)); got.Stage != impl.StOk || got.Shown[0].Type != "int"+strings.Repeat(" * int", impl.MaxType-2) {
		t.Errorf("%v", got)
	}
}

// A source with several faults: the chapter that comes first tells its own.
func TestBuildFirstStage(t *testing.T) {
	faults := []string{"val @= 1", "val a0 = @zzz", "datatype @t0 = A0 of t0", "val b0 = @1 1"}
	codes := []int{impl.ParseSyntax, impl.ScUnbound, impl.DtEmpty, impl.TyClash}
	for high := range faults {
		later := strings.ReplaceAll(faults[high], "@", "")
		for low := range high {
			// Whichever stands in front in the source.
			builtFails(t, faults[low]+"\n"+later, low+1, codes[low])
			builtFails(t, later+"\n"+faults[low], low+1, codes[low])
		}
	}
}

// shownAre wants what is shown, as "name : type".
func shownAre(t *testing.T, src string, want ...string) {
	t.Helper()
	got := []string{}
	for _, s := range checkBuild(t, src).Shown {
		got = append(got, s.Name+" : "+s.Type)
	}
	if !slices.Equal(got, want) {
		t.Errorf("%s\nshows %q\nwant %q", src, got, want)
	}
}

func TestBuildShown(t *testing.T) {
	shownAre(t, "")
	shownAre(t, "val x = 1", "x : int")
	shownAre(t, "val _ = 1")
	shownAre(t, "datatype t = A exception E type s = int")
	// The examples of chapter 9.
	shownAre(t, "fun id x = x", "id : 'a -> 'a")
	shownAre(t, "fun comp f g x = f (g x)", "comp : ('a -> 'b) -> ('c -> 'a) -> 'c -> 'b")
	shownAre(t, "fun f x = f x", "f : 'a -> 'b")
	shownAre(t, "val r = ref nil", "r : unit list ref")
	shownAre(t, "val r = ref nil val _ = r := [1]", "r : int list ref")
	shownAre(t, "val a = nil val b = [nil]", "a : 'a list", "b : 'a list list")
	shownAre(t, "val (f, g) = (fn x => x, 1)", "f : unit -> unit", "g : int")
	shownAre(t, "fun o x = let fun k y = (x, y) in (k 1, k true) end", "o : 'a -> ('a * int) * ('a * bool)")
	shownAre(t, "fun f (x : 'a) (y : 'a) = (x, y)", "f : 'a -> 'a -> 'a * 'a")
	shownAre(t, "fun f x = g x and g y = (f y; y)", "f : 'a -> 'a", "g : 'a -> 'a")
	// Names that are bound several times are all shown; those inside are not.
	shownAre(t, "val x = 1 val x = true val (x, y) = (x, \"s\") val x = fn z => x", "x : int", "x : bool", "x : bool", "y : string", "x : 'a -> bool")
	shownAre(t, "fun f x = let val y = x fun g z = z in g y end val z = fn q => case q of (a, b) => a handle w => 1", "f : 'a -> 'a", "z : int * 'a -> int")
	shownAre(t, "val x as (y, z as [w]) = (1, [true])", "y : int", "w : bool", "z : bool list", "x : int * bool list")
	shownAre(t, "val (x : int, _) = (1, 2) val [a, b : string] = nil", "x : int", "a : string", "b : string")
	// Types of datatypes and exceptions.
	shownAre(t, "datatype 'a opt = None | Some of 'a exception E of int datatype ('a, 'b) two = Two of 'a * 'b val a = Some val b = None val c = E val d = Two val e = Two (1, Some Div) val f = E 1",
		"a : 'a -> 'a opt", "b : 'a opt", "c : int -> exn", "d : 'a * 'b -> ('a, 'b) two", "e : (int, exn opt) two", "f : exn")
	shownAre(t, "type ('a, 'b) s = 'b * 'a val x : (int, bool) s = (true, 1) fun f (x : ('a, 'b) s) = x", "x : bool * int", "f : 'a * 'b -> 'a * 'b")
	shownAre(t, "val u = () val p = print val t = (u, (u, u)) val f = fn () => [ref 1]", "u : unit", "p : string -> unit", "t : unit * (unit * unit)", "f : unit -> int ref list")
	// Variables beyond the alphabet.
	names := numberedNames("x", 30)
	tuple := strings.Join(names, ", ")
	vars := []string{}
	for num := range int64(30) {
		vars = append(vars, toldVar(num+1))
	}
	shownAre(t, "fun f ("+tuple+") = 1", "f : "+strings.Join(vars, " * ")+" -> int")
	if vars[29] != "'d1" {
		t.Error(vars[29])
	}
}

// The last MaxShown are shown.
func TestBuildMostShown(t *testing.T) {
	for _, n := range []int{1, impl.MaxShown - 1, impl.MaxShown, impl.MaxShown + 1, 3 * impl.MaxShown} {
		src, want := "", []string{}
		for i, name := range numberedNames("x", n) {
			src += "val " + name + " = " + strconv.Itoa(i) + "\n"
			if n-i <= impl.MaxShown {
				want = append(want, name+" : int")
			}
		}
		shownAre(t, src, want...)
		inOne := "val (" + strings.Join(numberedNames("x", n+1), ", ") + ") = (" + strings.Repeat("1, ", n) + "1)"
		if got := checkBuild(t, inOne); len(got.Shown) != min(n+1, impl.MaxShown) || got.Shown[len(got.Shown)-1].Name != numberedNames("x", n+1)[n] {
			t.Errorf("%d: %v", n, got.Shown)
		}
	}
}

// notesAre wants notes as Tell writes them, with all fields of each.
func notesAre(t *testing.T, src string, want ...string) {
	t.Helper()
	got := []string{}
	for _, n := range checkBuild(t, src).Notes {
		line := strconv.Itoa(n.Line) + ":" + strconv.Itoa(n.Col)
		switch n.Kind {
		case impl.NtMissing:
			line += " missing " + n.Text
		case impl.NtUseless:
			line += " rule " + strconv.Itoa(n.Rule)
		case impl.NtHard:
			line += " hard"
		}
		if n.Kind != impl.NtMissing && n.Text != "" || n.Kind != impl.NtUseless && n.Rule != 0 {
			t.Errorf("%s: %+v", src, n)
		}
		got = append(got, line)
	}
	if !slices.Equal(got, want) {
		t.Errorf("%s\nnotes %q\nwant %q", src, got, want)
	}
}

func TestBuildNotes(t *testing.T) {
	front := "datatype 'a opt = None | Some of 'a datatype t = A | B of bool * t | C exception Stop of int\n"
	notesAre(t, "")
	notesAre(t, "val x = 1")
	notesAre(t, "fun f 1 = 2\nval Div = case 1 of 1 => Div | _ => Match | 3 => Bind", "1:5 missing 0", "2:11 rule 2", "2:1 missing _")
	notesAre(t, front+"val Some x = None", "2:1 missing None")
	notesAre(t, front+"fun f None (Some true) = 1", "2:5 missing (None, None)")
	notesAre(t, front+"fun f (A, true) = 1\n  | f (C, _) = 2 | f (A, true) = 3 | f (_, true) = 4", "2:5 missing (A, false)", "2:5 rule 2")
	notesAre(t, front+"val f = fn (x : t) => case x of A => 1 | C => 2 | B (false, _) => 3\n | B (_, A) => 4 | B (_, C) => 5", "2:23 missing B (true, B _)")
	notesAre(t, "val x = case [1] of nil => 1 | _ :: _ :: _ => 2", "1:9 missing _ :: nil")
	notesAre(t, "val x = case \"\" of \"\" => 1 | \"a\" => 2 | \"b\" => 3", "1:9 missing \"aa\"")
	notesAre(t, "val x = case (1, ~1) of (0, _) => 1 | (_, ~1) => 2", "1:9 missing (1, 0)")
	notesAre(t, "val x = fn true => 1 | true => 2 | false => 3 | _ => 4", "1:9 rule 1", "1:9 rule 3")
	// A handle is whole always, and may have rules that say nothing new.
	notesAre(t, front+"val x = 1 handle Div => 2 | Stop _ => 3 | Stop 1 => 4 | Div => 5", "2:9 rule 2", "2:9 rule 3")
	notesAre(t, "val x =\n  (1 handle Div => 2)")
	// In the order of the list: what is inside comes first.
	notesAre(t, "val 1 = case (fn 2 => 3) 4 of\n 5 => (fn 6 => 7) 8", "1:15 missing 0", "2:8 missing 0", "1:9 missing 0", "1:1 missing 0")
	notesAre(t, "fun f 1 = let\n fun g 2 = 3\n val 4 = 5 in fn 6 => 7 end | f 0 = (fn 8 => 9)", "2:6 missing 0", "3:2 missing 0", "3:15 missing 0", "3:38 missing 0", "1:5 missing 2")
	notesAre(t, "fun f 1 = g false and\n g true = 1 | g false = 2 | g _ = 3 and h () = 2", "1:5 missing 0", "2:2 rule 2")
	notesAre(t, "val x = let val 1 = 2 val true = false in 3 end val nil = [4]", "1:13 missing 0", "1:23 missing false", "1:49 missing op :: _")
}

// Matches that are too hard to look at, and what is told of them besides.
func TestBuildHardNotes(t *testing.T) {
	number := func(i int) string { return strconv.Itoa(i) }
	notesAre(t, "val f = fn "+rulesOf(impl.MaxRows, number), "1:9 missing "+strconv.Itoa(impl.MaxRows))
	notesAre(t, "val f = fn "+rulesOf(impl.MaxRows+1, number), "1:9 hard")
	notesAre(t, "val f =\n case 1 of "+rulesOf(impl.MaxRows+1, number)+" val 1 = 2", "2:2 hard", "2:"+strconv.Itoa(len(" case 1 of "+rulesOf(impl.MaxRows+1, number))+2)+" missing 0")
	notesAre(t, "val f = 1 handle "+rulesOf(impl.MaxRows+1, func(int) string { return "_" }), "1:9 hard")
	// More steps than may be taken: it is hard to tell what is missing, and easy that the last rule says
	// nothing new.
	pairs := func(firsts int, seconds int) string {
		return rulesOf(firsts, func(i int) string { return "(" + strconv.Itoa(i) + ", _)" }) + " | " + rulesOf(seconds, func(i int) string { return "(_, " + strconv.Itoa(i) + ")" })
	}
	notesAre(t, "val f = fn "+pairs(60, 60)+" | (5, 5) => 2", "1:9 missing (60, 60)", "1:9 rule 120")
	notesAre(t, "val f = fn "+pairs(70, 70)+" | (5, 5) => 2 | (_, 5) => 2", "1:9 hard", "1:9 rule 140", "1:9 rule 141")
}

// Plain is what Desugar gives, as it stands.
func TestBuildPlain(t *testing.T) {
	for _, src := range []string{"", "val x = 1 + 2", "fun id x = x val a = id (id 1)", "val r = ref (fn x => x) val _ = !r 1", "val x = if true then 1 else 2 handle Div => (raise Chr; 3)"} {
		plain := checkDesugar(t, resolved(t, src))
		if got := checkBuild(t, src); !slices.Equal(got.Plain, plain) || !impl.PlainForm(got.Plain) || len(plain) == 0 {
			t.Errorf("%s: %s, want %s", src, codeShown(got.Plain), codeShown(plain))
		}
	}
}
