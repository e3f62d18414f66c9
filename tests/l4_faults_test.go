package tests

import (
	"math/rand"
	"slices"
	"strconv"
	"strings"
	"testing"

	"loop.example/s02665/impl"
)

// failAtMarks wants ParseSyntax at the mark of each of these behind a front.
func failAtMarks(t *testing.T, front string, marked ...string) {
	t.Helper()
	for _, m := range marked {
		failsAtMark(t, front+m, impl.ParseSyntax)
	}
}

func TestParseSyntaxOfPrograms(t *testing.T) {
	failAtMarks(t, "", "@x", "@1", "@A", "@'a", `@"s"`, "@= 1", "@)", "@(", "@in", "@and", "@;", "@end", "@let val x = 1 in 2 end", "@_")
	failAtMarks(t, "val x = 1 ", "@; val y = 2", "@end", "@)", "@]", "@and y = 2", "@in", "@then 2", "@else 2", "@do 2", "@of 2", "@, 2", "@| y => 2", "@=> 2", "@-> 2", "@as 2", "@_", "@'a")
	failAtMarks(t, "exception E ", "@; val x = 1", "@x", "@let", "@in")
}

func TestParseSyntaxOfVals(t *testing.T) {
	failAtMarks(t, "val ", "@", "@= 1", "@val", "@fn", "@~ 1 = 2", "@'a = 1", "@and", "@)", "@as x = 1", "@: t = 1", "@:: x = 1", "@-1 = 2")
	failAtMarks(t, "val x ", "@", "@y = 1", "@1", "@A", "@(y)", "@:= 1", "@=> 1", "@, y = 1", "@)", "@_", "@op", "@-> y", "@in")
	failAtMarks(t, "val x = ", "@", "@val y = 1", "@fun f y = 1", "@datatype", "@_", "@'a", "@= 1", "@)", "@]", "@:: 1", "@* 2", "@: t", "@handle", "@end", "@then", "@:= 2", "@-1")
}

func TestParseSyntaxOfFuns(t *testing.T) {
	failAtMarks(t, "fun ", "@", "@1", "@F x = 1", "@true x = 1", "@false x = 1", "@nil x = 1", "@_ x = 1", "@(f) x = 1", "@= 1", "@op :: x = 1", "@'a f x = 1")
	for _, front := range []string{"fun ", "fun f x = 1 and ", "fun f x = 1 | ", "val x = let fun ", "val x = let fun f x = 1 | "} {
		failAtMarks(t, front, "@", "@F x = 1", "@true x = 1", "@1", "@and", "@|", "@val", "@in")
		failAtMarks(t, front+"f ", "@= 1", "@", "@~ 1", "@'a = 1", "@as x = 1", "@: t = 1", "@:: x = 1", "@| f x = 1", "@and g x = 1", "@, x", "@)")
		failAtMarks(t, front+"f x ", "@", "@: t = 1", "@:: y = 1", "@as y = 1", "@| f y = 1", "@, y = 1", "@=> 1", "@and", "@~ 1", "@'a", "@)")
		failAtMarks(t, front+"f x = ", "@", "@= 1", "@| f x = 1", "@and", "@val", "@_")
	}
}

func TestParseSyntaxOfDatatypes(t *testing.T) {
	for _, front := range []string{"datatype ", "datatype s = A and ", "datatype 'a s = A | B of int and "} {
		failAtMarks(t, front, "@", "@= A", "@T = A", "@unit = A", "@true = A", "@nil = A", "@1", "@and", "@_ = A")
		failAtMarks(t, front+"'a ", "@", "@unit = A", "@'b t = A", "@= A", "@(", "@, 'b t", "@A", "@true = A")
		failAtMarks(t, front+"(", "@", "@) t = A", "@a) t = A", "@unit", "@, 'a", "'a @'b) t = A", "'a, @) t = A", "'a, @b) t = A", "'a @t = A", "'a@", "'a,@", "'a @; 'b) t")
		failAtMarks(t, front+"('a, 'b) ", "@", "@unit = A", "@= A", "@('c) t = A", "@'c t = A", "@T = A")
		failAtMarks(t, front+"t ", "@", "@A", "@of", "@u = A", "@'a = A", "@: int", "@=> A", "@| A")
		failAtMarks(t, front+"t = ", "@", "@a", "@true", "@false", "@nil", "@op ::", "@| A", "@(A)", "@1", "@= A", "@'a", "@and")
		failAtMarks(t, front+"t = A ", "@B", "@a", "@'a", "@(int)", "@, B", "@= B", "@: int", "@;", "@)", "|@", "| @b", "| @| B", "| @true", "| @and u = A")
		failAtMarks(t, front+"t = A of ", "@", "@| B", "@A", "@and", "int @of int", "int @A", "int @= 1", "int @1")
	}
}

func TestParseSyntaxOfTypeDecs(t *testing.T) {
	failAtMarks(t, "type ", "@", "@= int", "@T = int", "@unit = int", "@true = int", "'a @unit = int", "('a, 'b) @unit = int", "'a @'b t = int", "('a, 'b) @= int", "'a @T = int")
	failAtMarks(t, "type (", "@", "@) t = int", "'a @'b) t = int", "'a, @) t = int", "'a@", "@int) t = int", "'a)@", "'a) @('b) t")
	failAtMarks(t, "type t ", "@", "@int", "@u = int", "@'a = int", "@: int", "@of int")
	failAtMarks(t, "type t = int ", "@| int", "@and u = int", "@= int", "@1", "@;", "@of")
	failAtMarks(t, "exception ", "@", "@e", "@true", "@false", "@nil", "@op ::", "@= 1", "@'a E", "@(E)", "@_")
	failAtMarks(t, "exception E ", "@F", "@e", "@int", "@= F", "@and F", "@'a", "@1", "@| F", "of @", "of @E", "of int @| F", "of int @of int", "of int @and F")
}

func TestParseSyntaxOfTypes(t *testing.T) {
	for _, front := range []string{"type t = ", "val x : ", "val x = y : ", "exception E of ", "datatype t = A of ", "val x = (fn y : ", "type t = ( ", "type t = (a, ", "val x : a -> ", "val x : a * "} {
		failAtMarks(t, front, "@", "@1", `@"s"`, "@A", "@true", "@false", "@nil", "@)", "@-> int", "@* int", "@[", "@_", "@op", "@fn", "@:", "@,", "(@)", "(@")
		for _, whole := range []string{"int", "unit", "'a", "(int)", "(a, b) t", "int list", "(a -> b) t"} {
			failAtMarks(t, front+whole, " @unit", " @true", " @false", " @nil", " @A", " @'b", " @1", " @(int)", " @[", " @_", " @op", " @fn", " @! x", ` @"s"`)
			failAtMarks(t, front+whole+" -> ", "@", "@->", "@* int", "@1", "@true")
			failAtMarks(t, front+whole+" * ", "@", "@* int", "@-> int", "@A")
			failAtMarks(t, front+"("+whole, "@", " @; int) t", " @= 1", " @unit) t", ", @) t", ", @, int) t", ",@", ", b@", ", b)@", " @]", " @| A", " @=> 1", " @of int")
		}
		failAtMarks(t, front+"(a, b) ", "@unit", "@-> c", "@* c", "@)", "@(c)", "@'c", "@A", "@true", "@= 1", "@:", "@, c", "@=> 1", "@")
		failAtMarks(t, front+"((a, b) ", "@, c) t", "@) t", "t@")
	}
}

func TestParseSyntaxOfPats(t *testing.T) {
	for _, front := range []string{"val ", "val x = fn ", "val x = case y of ", "val x = y handle ", "val x = fn y => z | ", "fun f (", "val (y, ", "val [", "val [y, ", "val x as ", "val A (", "val (z :: "} {
		if !strings.Contains(front, "::") {
			failAtMarks(t, front, "x as @", "x as @=", "x as y as @", "x : @", "x : t : @", "x : t @as y", "x : t @:: y")
		}
		failAtMarks(t, front, "@", "@~ 1", "@! x", "@'a", "@fn", "@let", "@if", "@as", "@:", "@::", "@=", "@=>", "@,", "@|", "@+ 1", "@val")
		failAtMarks(t, front, "op@", "op @x", "op @:", "op @+", "op @op", "op @A", "op @(", "op @nil")
		failAtMarks(t, front, "x @y", "x @1", "x @A", "x @(y)", "x @[]", "x @_", "x @op ::", "x @+ 1", "x @-> y", "1 @x", `"s" @x`, "_ @x", "() @x", "(x) @y", "[] @x", "(x, y) @z")
		failAtMarks(t, front, "A B @x", "A x @y", "A x @B", "A 1 @2", "A () @()", "A _ @_", "A op :: @x", "op :: x @y", "op :: op :: @op ::", "nil x @y", "true nil @nil", "A (B x) @y", "A [] @[]", "A @~ 1", "A @! x")
		failAtMarks(t, front, "x :: @", "x :: @:: y", "x :: @: t", "x :: y :: @=", "x :: y @z", "x :: A y @z", "x :: y @as z", "A x @as y", "(x) @as y", "1 @as x", "_ @as x", "A @as x", "() @as x", "nil @as x")
		failAtMarks(t, front+"(", "@", "x@", "x @; y)", "x,@", "x, @)", "x, @, y)", "x, y@", "x, y @]", "@, x)", "@= x)", "x @y)", "x as @)", "x :: @)", "x : @)")
		failAtMarks(t, front+"[", "@", "x@", "x @; y]", "x,@", "x, @]", "x, @, y]", "x, y@", "x, y @)", "@, x]", "@= x]", "@)", "x @y]", "x as @]")
	}
}

func TestParseSyntaxOfExps(t *testing.T) {
	for _, front := range []string{"val x = ", "fun f x = ", "val x = ( ", "val x = (y, ", "val x = (y; ", "val x = [", "val x = [y, ", "val x = fn y => ", "val x = if ", "val x = raise ", "val x = let val y = 1 in ", "val x = let val y = ", "val x = let val y = 1 in z; ", "val x = case y of z => ", "val x = y handle z => "} {
		failAtMarks(t, front, "@", "@=", "@_", "@'a", "@,", "@;", "@|", "@=>", "@->", "@+ 1", "@- 1", "@* 1", "@^ 1", "@:: y", "@:= y", "@: t", "@andalso y", "@orelse y", "@handle", "@then", "@else", "@do", "@of", "@as", "@in", "@and", "@val", "@fun", "@type", "@end")
		failAtMarks(t, front, "op@", "op @y", "op @:", "op @+", "op @op", "op @A", "op @(", "op @nil")
		failAtMarks(t, front, "y @fn z => z", "y @if z then u else v", "y @case z of u => v", "y @while z do u", "y @raise z", "y @_", "y @'a", "y @as z", "y @->", "y op @z")
		failAtMarks(t, front, "!@", "! @fn z => z", "! @if", "~ @raise z", "! @+", "! @=", "! @)", "! @_", "~ ~ @* z")
		for op := range levels {
			failAtMarks(t, front+"y "+op+" ", "@", "@fn z => z", "@if z then u else v", "@case z of u => v", "@while z do u", "@raise z", "@= z", "@:: z", "@)", "@]", "@_", "@'a", "@handle", "@;", "@:", "@andalso z", "@orelse z", "@* z")
		}
		failAtMarks(t, front+"(", "@", "y@", "y,@", "y;@", "y, @)", "y; @)", "y, z@", "y, z @; u)", "y; z @, u)", "y; z@", "y @]", "y @=> z", "y @| z", "@]", "@, y)", "@; y)", "y, z @]", "y; z @]", "y; z; @; u", "y @end", "y @val")
		failAtMarks(t, front+"[", "@", "y@", "y,@", "y, @]", "y @; z]", "y, z@", "y, z @)", "@)", "@, y]", "y @=> z", "y @| z")
	}
}

func TestParseSyntaxOfWords(t *testing.T) {
	failAtMarks(t, "val x = if ", "@", "@then", "y@", "y @else z", "y @do z", "y @)", "y @val", "y @of", "y then @", "y then @else", "y then z@", "y then z @)", "y then z @then", "y then z @val u = 1", "y then z else @", "y then z else @val", "y then z else u @else v", "y then z else u @then")
	failAtMarks(t, "val x = while ", "@", "@do", "y@", "y @then z", "y @of z", "y @val", "y do @", "y do @do", "y do z @do u", "y do @val")
	failAtMarks(t, "val x = case ", "@", "@of", "y@", "y @then z", "y @=> z", "y @| z => u", "y of @", "y of @| z => u", "y of z@", "y of z @= u", "y of z @-> u", "y of z @| u => v", "y of z => @", "y of z => u @=> v", "y of z => u | @", "y of z => u | @| v => w", "y of z => u | v@", "y of z => u | v @= w", "y of z => @| u => v", "y of z => u @of v")
	failAtMarks(t, "val x = fn ", "@", "@=> y", "y@", "y @z => u", "y @= z", "y @-> z", "y @, z => u", "y => @", "y => z @=> u", "y => z | @", "y => z | u@", "y => z | u @| v => w", "y => @| u => v")
	failAtMarks(t, "val x = raise ", "@", "@)", "@val", "@handle", "@then")
	failAtMarks(t, "val x = y handle ", "@", "@=> y", "y@", "y @= z", "y @handle", "y => @", "y => @handle", "y => z @=> u", "y => z | @", "y => z | u@")
	failAtMarks(t, "val x = 1 handle y => 2 handle z => 3 ", "@=> 4", "| @handle", "| u @handle", "| u => 4 @=> 5", "handle @handle")
}

func TestParseSyntaxOfLets(t *testing.T) {
	failAtMarks(t, "val x = let ", "@", "@in 1 end", "@datatype t = A in 1 end", "@type t = int in 1 end", "@exception E in 1 end", "@y", "@end", "@let", "@1", "@and")
	failAtMarks(t, "val x = let val y = 1 ", "@", "@end", "@datatype t = A in 1 end", "@type t = int in 1 end", "@exception E in 1 end", "@and z = 2 in 1 end", "@; val z = 2", "@)", "@then")
	failAtMarks(t, "val x = let fun f y = 1 ", "@", "@end", "@datatype", "@type", "@exception", "@; val z = 2")
	failAtMarks(t, "val x = let val y = 1 in ", "@", "@end", "@in", "@val", "@;", "z@", "z @in", "z @, u end", "z @val u = 1", "z @fun f y = 1", "z; @end", "z; @; u end", "z; u @, v", "z; u@", "z @)", "z; u; v@")
	failAtMarks(t, "val x = let val y = 1 in z end ", "@end", "@in", "@; u", "@)", "@, u")
}

// A clause is at fault at its Name or at its "=", unless a token in front of these cannot stand there.
func TestParseClauses(t *testing.T) {
	for _, front := range []string{"", "val x = let ", "fun g x y z = 1 and h x = 1 ", "fun g x = 1 | g y = 2 "} {
		fun := front + "fun f x y = 1 | "
		if strings.HasPrefix(front, "fun") {
			fun = front + "and f x y = 1 | "
		}
		for _, marked := range []string{
			"@g x y = 2", "@g", "@g x = 2", "@g x y z = 2", "@g = =", "@unit x y = 2", "@f' x y = 2", "@ff x y = 2", "@_f x y = 2",
			"f x @= 2", "f x @=", "f x @= =", "f x y z @= 2", "f A @= 2", "f (x, y) @= 2", "f op :: x y @= 2", "f A x y @= 2", "f [x, y] @= 2", "f () @= 2",
			"f x y = 2 | @g x y = 3", "f x y = 2 | f x @= 3", "f x y = 2 | f x y z @= 3", "f x y = 2 | @x",
			"f x y = (2 = 3) | f x @= 3", "f x y = 2 and k x = 1 | @f x = 2", "f x y = 2 and k x = 1 | k x y @= 2",
		} {
			failsAtMark(t, fun+marked, impl.ParseClause)
		}
		for _, marked := range []string{
			"f @= 2", "f@", "f x@", "f x @=> 2", "f x y z@", "f x y z @: t = 2", "f x @| g x = 2", "@F x y = 2", "@true x y = 2", "@1 x y = 2", "f x ( @= 2", "f x y z @)", "@", "@| f x = 2", "f x y = @", "f x y = @| g x y = 3",
			"f A B (C D @E) = 2", "f x y = 2 3 @then",
		} {
			failsAtMark(t, fun+marked, impl.ParseSyntax)
		}
	}
	failsAtMark(t, "fun f x = 1 | @g x = 2 fun f x = 1 | f x y = 2", impl.ParseClause)
	failsAtMark(t, "val x = @= 1 fun f x = 1 | g x = 2", impl.ParseSyntax)
	failsAtMark(t, "fun f x = 1 | @g x = 2 val x = = 1", impl.ParseClause)
	failsAtMark(t, "fun f x = let fun g x = 1 | g x y @= 2 in 1 end | h x = 2", impl.ParseClause)
	failsAtMark(t, "fun f x = let fun g x = 1 in g end | @g x = 2", impl.ParseClause)
	decsAre(t, "fun f x = let fun g x y = 1 | g x z = 2 in 1 end | f x = 2",
		"DFun(FBind f(FClause(x, ELet(DFun(FBind g(FClause(x, y, 1), FClause(x, z, 2))), 1)), FClause(x, 2)))")
}

func TestParseCodesOfScan(t *testing.T) {
	for _, front := range []string{"", "val x = 1 ", "val = = ", "fun f x = 1 | g x = 2 ", "datatype ('a,'b,'c,'d,'e,'f,'g,'h,'i) t = A "} {
		failsAtMark(t, front+"@# val", impl.LexChar)
		failsAtMark(t, front+"@1x = =", impl.LexInt)
		failsAtMark(t, front+"@9223372036854775808", impl.LexInt)
		failsAtMark(t, front+`@"abc`, impl.LexStr)
		failsAtMark(t, front+"@(* (* *)", impl.LexNote)
		failsAtMark(t, front+"@'A", impl.LexChar)
		parseFails(t, front+"$"+strings.Repeat(" ", impl.MaxSource), impl.LexLong, 0)
	}
	parseFails(t, strings.Repeat(" ", impl.MaxSource+1), impl.LexLong, 0)
	if got := parsed(t, strings.Repeat(" ", impl.MaxSource)); !slices.Equal(got, []impl.Node{{Kind: impl.KProgram, At: impl.MaxSource}}) {
		t.Errorf("only spaces: %v", got)
	}
}

func TestParseTooDeep(t *testing.T) {
	// Behind each front come so many of the middle, each one deeper; least is how deep it is without.
	for _, c := range []struct {
		front, middle, last, behind, end string
		least, each                      int
	}{
		{"val x = ", "! ", "1", "", "", 3, 1},
		{"val x = ", "raise ", "1", "", "", 3, 1},
		{"val x = ", "fn a => ", "1", "", "", 3, 2},
		{"val x = ", "1 :: ", "1", "", "", 3, 2},
		{"val x = ", "[", "1", "]", "", 3, 2},
		{"val x = ", "(1, ", "1", ")", "", 3, 1},
		{"val x = ", "", "1", " + 1", "", 3, 1},
		{"val x = ", "", "1", " 1", "", 3, 1},
		{"val x = ", "", "1", " : t", "", 3, 1},
		{"val x = ", "let val x = 1 in ", "1", " end", "", 4, 1},
		{"val x = ", "let val x = ", "1", " in 1 end", "", 3, 2},
		{"val ", "x as ", "x", "", " = 1", 3, 1},
		{"val ", "A (", "x", ")", " = 1", 3, 1},
		{"val ", "x :: ", "x", "", " = 1", 3, 2},
		{"val ", "[", "x", "]", " = 1", 3, 2},
		{"val ", "(x, ", "x", ")", " = 1", 3, 1},
		{"val ", "", "x", " : t", " = 1", 3, 1},
		{"exception E of ", "(int * ", "int", ")", "", 3, 1},
		{"exception E of ", "(int, ", "int", ") t", "", 3, 1},
		{"exception E of ", "int -> ", "int", "", "", 3, 1},
		{"exception E of ", "", "int", " list", "", 3, 1},
	} {
		most := (impl.MaxDeep - c.least) / c.each
		for _, n := range []int{1, most - 1, most, most + 1, most + 2, 2 * most} {
			src := c.front + strings.Repeat(c.middle, n) + c.last + strings.Repeat(c.behind, n) + c.end
			if n > most {
				parseFails(t, src, impl.ParseLarge, 0)
				failsAtMark(t, src+" @)", impl.ParseSyntax)
			} else if deep := impl.Deep(parsed(t, src)); deep != c.least+n*c.each {
				t.Errorf("%.60s: %d deep, want %d", src, deep, c.least+n*c.each)
			}
		}
	}
}

func TestParseTooManyNodes(t *testing.T) {
	// Three nodes for each dec, and one for the program.
	most := strings.Repeat("val a=1 ", 1999)
	for behind, nodes := range map[string]int{"": 5998, "exception E": 5999, "exception E exception E": 6000, "exception E of t": 6000} {
		if got := parsed(t, most+behind); len(got) != nodes {
			t.Errorf("%q behind: %d nodes, want %d", behind, len(got), nodes)
		}
	}
	for _, behind := range []string{"val a=1", "val a=1 val a=1", "exception E of t exception E", "exception E of t list", "val a=[]exception E"} {
		parseFails(t, most+behind, impl.ParseLarge, 0)
		failsAtMark(t, most+behind+"@)", impl.ParseSyntax)
		failsAtMark(t, most+behind+" fun f x = 1 | @g x = 1", impl.ParseClause)
	}
	// One node for each element of a tuple, and four around them.
	elements := strings.Repeat("1,", 5995)
	if got := parsed(t, "val a=("+elements+"1)"); len(got) != 6000 {
		t.Errorf("a tuple of 5996: %d nodes", len(got))
	}
	parseFails(t, "val a=("+elements+"1,1)", impl.ParseLarge, 0)
	parseFails(t, "val a=["+elements+"1]", impl.ParseLarge, 0)
}

func TestParseParams(t *testing.T) {
	for n := 1; n <= 12; n++ {
		vars := []string{}
		for i := range n {
			vars = append(vars, "'a"+strconv.Itoa(i))
		}
		params := "(" + strings.Join(vars, ", ") + ") t = "
		if n > 8 {
			parseFails(t, "datatype "+params+"A", impl.ParseLarge, 0)
			parseFails(t, "val x = 1 datatype u = A and "+params+"A val y = 1", impl.ParseLarge, 0)
			parseFails(t, "type "+params+"int", impl.ParseLarge, 0)
			failsAtMark(t, "type "+params+"int @)", impl.ParseSyntax)
			failsAtMark(t, "type "+params+"int fun f x = 1 | @g x = 1", impl.ParseClause)
			continue
		}
		kids := strings.Join(vars, ", ")
		decsAre(t, "datatype "+params+"A", "DData(TBind t "+strconv.Itoa(n)+"("+kids+", CBind A()))")
		decsAre(t, "type "+params+"int", "DType t "+strconv.Itoa(n)+"("+kids+", int)")
	}
	types := strings.Repeat("int, ", 20) + "int"
	typeIs(t, "("+types+") t", "TCon t("+types+")")
}

// answersWell holds of every source: what stands beside each code, and the same answer twice.
func answersWell(t *testing.T, src string) int {
	t.Helper()
	got, code, place := impl.Parse(src)
	again, codeAgain, placeAgain := impl.Parse(src)
	if !slices.Equal(got, again) || code != codeAgain || place != placeAgain {
		t.Errorf("%.60q: answers differ", src)
	}
	_, lexCode, lexPlace := impl.Scan(src)
	switch {
	case lexCode != impl.LexOk:
		if code != lexCode || place != lexPlace || len(got) > 0 {
			t.Errorf("%.60q: code %d at %d, %d nodes, but Scan has %d at %d", src, code, place, len(got), lexCode, lexPlace)
		}
	case code == impl.ParseOk:
		if place != 0 || impl.SortOf(got) != impl.SortProgram {
			t.Errorf("%.60q: place %d, sort %d", src, place, impl.SortOf(got))
		}
	case code == impl.ParseLarge:
		if place != 0 || len(got) > 0 {
			t.Errorf("%.60q: too large, place %d, %d nodes", src, place, len(got))
		}
	case code == impl.ParseSyntax || code == impl.ParseClause:
		if place < 0 || place > len(src) || len(got) > 0 {
			t.Errorf("%.60q: code %d at %d, %d nodes", src, code, place, len(got))
		}
	default:
		t.Errorf("%.60q: code %d", src, code)
	}
	return code
}

func TestParseAnyBytes(t *testing.T) {
	rnd := rand.New(rand.NewSource(6))
	for n := range 2000 {
		any := make([]byte, n%300)
		rnd.Read(any)
		answersWell(t, string(any))
	}
	all := tokensOfAllSorts()
	for n := range 3000 {
		toks := []impl.Token{}
		for range n % 40 {
			toks = append(toks, all[rnd.Intn(len(all))])
		}
		src, _ := written(toks)
		answersWell(t, "val x = "+src)
		answersWell(t, src)
	}
	for b := range 256 {
		one := string([]byte{byte(b)})
		for _, src := range []string{one, "val x = " + one, "val " + one + " = 1", "fun f x = 1 " + one, "val x : " + one, one + "val x = 1"} {
			answersWell(t, src)
		}
	}
	for _, size := range []int{19999, 20000, 20001, 50000} {
		answersWell(t, strings.Repeat("\xff", size))
		answersWell(t, strings.Repeat("v", size))
		answersWell(t, strings.Repeat("val ", size/4))
	}
}

// fill repeats a text as often as a source has room for, behind a front and with something at the end.
func fill(front string, middle string, last string, behind string, end string) string {
	n := (impl.MaxSource - len(front) - len(last) - len(end)) / (len(middle) + len(behind))
	return front + strings.Repeat(middle, n) + last + strings.Repeat(behind, n) + end
}

func TestParseNestedDeeply(t *testing.T) {
	for _, c := range [][4]string{{"val x=", "a", "", "val x = a"}, {"val ", "a", "=1", "val a = 1"}, {"type t=", "a", "", "type t = a"}, {"val x=a:", "a", "", "val x = a : a"}} {
		src := fill(c[0], "(", c[1], ")", c[2])
		if got, want := parsed(t, src), parsed(t, c[3]); !impl.Same(got, want) || len(src) < impl.MaxSource-1 {
			t.Errorf("%s in parentheses: %v", c[3], got)
		}
	}
	for _, c := range []struct{ front, middle, last, behind string }{
		{"val x=", "[", "a", "]"}, {"val x=", "!", "a", ""}, {"val x=", "~ ", "a", ""}, {"val x=", "a::", "a", ""}, {"val x=", "(", "a", "::a)"},
		{"val x=", "(", "a", ",a)"}, {"val x=", "(a;", "a", ")"}, {"val x=", "f(", "a", ")"}, {"val x=", "", "a", " a"}, {"val x=", "", "a", "+a"}, {"val x=", "", "a", ":t"},
		{"val x=", "if a then a else ", "a", ""}, {"val x=", "if ", "a", " then a else a"}, {"val x=", "while ", "a", " do a"}, {"val x=", "raise ", "a", ""},
		{"val x=", "fn a=>", "a", ""}, {"val x=", "case a of a=>", "a", ""}, {"val x=", "case ", "a", " of a=>a"}, {"val x=", "a handle a=>", "a", ""},
		{"val x=", "let val x=a in ", "a", " end"}, {"val x=", "let val x=", "a", " in a end"}, {"val x=", "let fun f a=", "a", " in a end"},
		{"type t=", "a->", "a", ""}, {"type t=", "(a*", "a", ")"}, {"type t=", "", "a", " a"}, {"type t=", "(a,", "a", ")a"}, {"val x=fn ", "a as ", "a=>a", ""},
	} {
		if code := answersWell(t, fill(c.front, c.middle, c.last, c.behind, "")); code != impl.ParseLarge {
			t.Errorf("%q %q: code %d", c.middle, c.behind, code)
		}
		if c.middle != "" {
			open := fill(c.front, c.middle, "", "", "")
			parseFails(t, open, impl.ParseSyntax, len(open))
		}
		cut := fill(c.front, c.middle, c.last, c.behind, "")
		answersWell(t, cut[:len(cut)-1])
		answersWell(t, cut+")")
		answersWell(t, cut[:len(cut)*3/4])
	}
	for _, front := range []string{"val ", "fun f ", "val x=fn ", "type t=", "type t=a ", "val x=a:"} {
		for _, middle := range []string{"(", "[", "A(", "(a,", "[a,", "a::", "a as ", "op::(", "a->", "a*"} {
			answersWell(t, fill(front, middle, "", "", ""))
		}
	}
}

func TestParseAnswersShareNothing(t *testing.T) {
	for _, src := range append(programsOfAllRules(), "val x = [1, 2] :: a :: b") {
		first, _, _ := impl.Parse(src)
		second, _, _ := impl.Parse(src)
		kept := slices.Clone(second)
		spoil(first)
		if !slices.Equal(second, kept) {
			t.Errorf("%s: two answers share memory", src)
		}
		third, _, _ := impl.Parse(src)
		if !slices.Equal(third, kept) {
			t.Errorf("%s: an answer that was written into changes the next", src)
		}
	}
}
