package tests

import (
	"slices"
	"strconv"
	"strings"
	"testing"

	"loop.example/s02665/impl"
)

// typeSized is the text of a type with so many nodes: of one, of two, and of three and more.
func typeSized(n int) string {
	switch n {
	case 1:
		return "int"
	case 2:
		return "int list"
	}
	return "(int" + strings.Repeat(" * int", n-2) + ")"
}

// sizedPlaces are sources with a "$" where a type is asked for its size.
func sizedPlaces() []string {
	return []string{
		"type t = $", "type 'a t = $", "type ('a, 'b) t = $", "datatype t = A of $", "datatype t = Z | A of $ | B", "datatype 'a t = A of $ | B",
		"datatype s = Z and t = A of $", "exception E of $", "val x : $ = 1", "val (x, y as (_ : $)) = 1", "fun f 1 (x : $) = 1 | f x 2 = 3",
		"val x = (1 : $)", "val x = fn x : $ => x", "fun f x = let val y : $ = x in (y; y) end", "val x = case 1 of (x : $) :: _ => 1",
		"val x = raise Div handle (y : $) => 1", "val x = [1, (2 : $), 3]", "val x = if true then 1 else while false do (1 : $)",
	}
}

// rootOfSize is the index of the root of the first tuple type with so many nodes.
func rootOfSize(t *testing.T, program []impl.Node, size int) int {
	t.Helper()
	for i, n := range program {
		if n.Kind == impl.TTuple && len(impl.Part(program, i)) == size {
			return i
		}
	}
	t.Fatalf("%.200s: no type of size %d", impl.Print(program), size)
	return 0
}

func TestLargeAtEveryPlace(t *testing.T) {
	for _, place := range sizedPlaces() {
		for _, size := range []int{1, 2, 3, 10, impl.MaxType - 1, impl.MaxType} {
			noneWrong(t, strings.ReplaceAll(place, "$", typeSized(size)))
		}
		for _, size := range []int{impl.MaxType + 1, impl.MaxType + 2, 2 * impl.MaxType, 3000} {
			program := resolved(t, strings.ReplaceAll(place, "$", typeSized(size)))
			declareFails(t, program, impl.DtLarge, rootOfSize(t, program, size))
		}
	}
}

// The size of the plain type counts, the node is told as the source has it.
func TestLargeByAbbreviations(t *testing.T) {
	front := "type big = " + typeSized(impl.MaxType-1) + " type 'a some = 'a * 'a * int "
	half := typeSized(impl.MaxType/2 - 1)
	for _, place := range sizedPlaces() {
		noneWrong(t, front+strings.ReplaceAll(place, "$", "big"), front+strings.ReplaceAll(place, "$", "big ref"),
			front+strings.ReplaceAll(place, "$", half+" some"))
		largeAt(t, front+strings.ReplaceAll(place, "$", "big ref list"), impl.TCon, "list", 1)
		largeAt(t, front+strings.ReplaceAll(place, "$", "int -> big"), impl.TArrow, "", 1)
		largeAt(t, front+strings.ReplaceAll(place, "$", "(int * "+half+") some"), impl.TCon, "some", 1)
		largeAt(t, front+strings.ReplaceAll(place, "$", "big some"), impl.TCon, "some", 1)
	}
}

func TestLargeVars(t *testing.T) {
	wide := func(n int) string { return "('a" + strings.Repeat(" * 'b", n-2) + ")" }
	other := func(n int) string { return "(" + strings.Join(numberedNames("'a", n-1), " * ") + ")" }
	for _, place := range []string{"val x : $ = 1", "val x = (1 : $)", "type ('a, 'b) t = $", "datatype ('a, 'b) t = A of $"} {
		noneWrong(t, strings.ReplaceAll(place, "$", wide(impl.MaxType)), strings.ReplaceAll(place, "$", "'a"))
		program := resolved(t, strings.ReplaceAll(place, "$", wide(impl.MaxType+1)))
		declareFails(t, program, impl.DtLarge, rootOfSize(t, program, impl.MaxType+1))
	}
	for _, place := range []string{"val x : $ = 1", "val x = (1 : $)"} {
		noneWrong(t, strings.ReplaceAll(place, "$", other(impl.MaxType)))
		program := resolved(t, strings.ReplaceAll(place, "$", other(impl.MaxType+1)))
		declareFails(t, program, impl.DtLarge, rootOfSize(t, program, impl.MaxType+1))
	}
	noneWrong(t, "type 'a d = 'a * 'a val x : 'a d d d d d d d = 1")
	largeAt(t, "type 'a d = 'a * 'a val x : 'a d d d d d d d d = 1", impl.TCon, "d", 8)
	largeAt(t, "type 'a d = 'a * 'a val x = (1 : ('a d d d d d d d) d)", impl.TCon, "d", 8)
}

// Seven doublings of one node are 255, and eight are more than there may be.
func TestLargeDoubled(t *testing.T) {
	chain := []string{"type 'a d0 = 'a"}
	for i := range 200 {
		chain = append(chain, "type 'a d"+strconv.Itoa(i+1)+" = 'a d"+strconv.Itoa(i)+" * 'a d"+strconv.Itoa(i))
		src := strings.Join(chain, " ")
		if i+1 <= 7 {
			noneWrong(t, src, src+" datatype t = A of int d"+strconv.Itoa(i+1))
			continue
		}
		// The first that is too large is told, whatever comes behind it.
		program := resolved(t, src)
		declareFails(t, program, impl.DtLarge, nodeOf(t, program, impl.DType, "d8", 1)-1)
	}
}

// Doubled to just so many nodes as there may be, to one fewer, and to one more.
func TestLargeDoubledToTheLimit(t *testing.T) {
	front := "type 'a two = 'a * 'a type 'a more = 'a two list "
	for _, place := range sizedPlaces() {
		noneWrong(t, front+strings.ReplaceAll(place, "$", typeSized(149)+" two"), front+strings.ReplaceAll(place, "$", typeSized(149)+" more"))
		largeAt(t, front+strings.ReplaceAll(place, "$", typeSized(150)+" two"), impl.TCon, "two", 2)
		largeAt(t, front+strings.ReplaceAll(place, "$", typeSized(149)+" more list"), impl.TCon, "list", 2)
		largeAt(t, front+strings.ReplaceAll(place, "$", "int"+strings.Repeat(" two", 8)), impl.TCon, "two", 9)
	}
}

func TestLargeSquared(t *testing.T) {
	// Each is the one before it, twice: 1, 2, 4, 8 doublings and so on, so 3, 7, 31, 511 nodes.
	front := "type 'a a = 'a * 'a type 'a b = 'a a a type 'a c = 'a b b "
	noneWrong(t, front+"val x : int c = 1")
	largeAt(t, front+"type 'a d = 'a c c type 'a e = 'a d d type 'a f = 'a e e", impl.TCon, "c", 2)
	largeAt(t, front+"val x : int c c c c c c c c = 1", impl.TCon, "c", 8)
	noneWrong(t, front+"type 'a drop = int val x : int c c c c c c c c drop = 1")
}

func TestLargeDropped(t *testing.T) {
	front := "type ('a, 'b) k = 'a type 'a no = unit type 'a d = 'a * 'a * 'a * 'a "
	big := "int" + strings.Repeat(" d", 100)
	noneWrong(t,
		front+"val x : "+big+" no = 1",
		front+"val x : (int, "+big+") k = 1",
		front+"val x : ("+typeSized(impl.MaxType)+", "+big+") k = 1",
		front+"val x : "+typeSized(3000)+" no = 1",
		front+"val x : ((int, "+big+") k, "+big+") k d = 1",
		front+"type t = "+big+" no no no datatype u = A of t | B of (u, "+big+") k",
		front+"exception E of "+big+" no list val x = (1 : "+big+" no * "+big+" no)",
	)
	consAre(t, front+"exception E of (int, "+big+") k exception F of "+typeSized(3000)+" no", "E exn 0 of int", "F exn 0 of ()")
	largeAt(t, front+"val x : ("+big+", int) k = 1", impl.TCon, "k", 1)
	largeAt(t, front+"val x : (int, "+big+") k d d d d d = 1", impl.TCon, "d", 105)
	largeAt(t, front+"val x : ("+big+" no * "+big+") no * "+big+" = 1", impl.TTuple, "", 4)
	// A param that is dropped further on only.
	noneWrong(t, front+"type ('a, 'b) l = ('a, 'b * 'b) k type 'a m = (int, 'a) l val x : "+big+" m = 1")
}

func TestLargeFirstOfSeveral(t *testing.T) {
	much := typeSized(impl.MaxType + 1)
	for _, src := range []string{
		"val x : " + much + " = 1 val y : " + much + " = 1", "type t = " + much + " type u = t", "exception E of " + much + " datatype t = A of t",
		"datatype t = A of " + much + " | B of t and u = C of " + much, "val x = fn (y : " + much + ") => (1 : " + much + ")",
	} {
		program := resolved(t, src)
		declareFails(t, program, impl.DtLarge, rootOfSize(t, program, impl.MaxType+1))
	}
}

// tbinds are so many TBinds with values, each of two nodes.
func tbinds(front string, n int) []string {
	out := []string{}
	for i := range n {
		out = append(out, front+strconv.Itoa(i)+" = A"+front+strconv.Itoa(i))
	}
	return out
}

func TestLargeNumberOfDatatypes(t *testing.T) {
	many := func(binds ...string) string { return "datatype " + strings.Join(binds, " and ") }
	apart := func(binds ...string) string { return "datatype " + strings.Join(binds, " datatype ") }
	for _, put := range []func(...string) string{many, apart} {
		for _, n := range []int{1, impl.MaxData - 1, impl.MaxData} {
			noneWrong(t, put(tbinds("t", n)...))
		}
		for _, n := range []int{impl.MaxData + 1, impl.MaxData + 2, 600} {
			program := resolved(t, put(tbinds("t", n)...))
			declareFails(t, program, impl.DtLarge, nodeOf(t, program, impl.TBind, "t200", 1))
		}
		// With just so many DtEmpty is looked for, with one more it is not, wherever the empty one stands.
		for _, place := range []int{0, 1, 100, 198, 199} {
			binds := slices.Insert(tbinds("t", impl.MaxData-1), place, "empty = E of empty")
			emptyAt(t, put(binds...), "empty")
			program := resolved(t, put(append(binds, "more = More")...))
			declareFails(t, program, impl.DtLarge, nodeOf(t, program, impl.TBind, "more", 1))
		}
		program := resolved(t, put(append(tbinds("t", impl.MaxData), "empty = E of empty")...))
		declareFails(t, program, impl.DtLarge, nodeOf(t, program, impl.TBind, "empty", 1))
	}
	// Other decs do not count.
	noneWrong(t, apart(tbinds("t", impl.MaxData)...)+" type a = int type b = int exception C exception D of a val x = 1")
}

func TestLargeTypesAndManyDatatypes(t *testing.T) {
	much := typeSized(impl.MaxType + 1)
	binds := tbinds("t", impl.MaxData+1)
	program := resolved(t, "datatype "+strings.Join(binds, " and ")+" val x : "+much+" = 1")
	declareFails(t, program, impl.DtLarge, nodeOf(t, program, impl.TBind, "t200", 1))
	for _, place := range []int{0, 1, 100, 199, 200} {
		changed := slices.Clone(binds)
		changed[place] += " of " + much
		program := resolved(t, "datatype "+strings.Join(changed, " and "))
		declareFails(t, program, impl.DtLarge, rootOfSize(t, program, impl.MaxType+1))
	}
}
