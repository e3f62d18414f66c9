package tests

import (
	"slices"
	"strings"
	"testing"

	"loop.example/s02665/impl"
)

// oneDeeper puts an exp, a pattern or a type below others in every way in which it can stand there.
func oneDeeper() map[int][]func([]impl.Node) []impl.Node {
	e, p, y, dec := evar("e"), pvar("p"), tcon("y"), made(impl.DVal, 0, "", pvar("v"), evar("w"))
	rule := func(exp []impl.Node) []impl.Node { return made(impl.Rule, 0, "", p, exp) }
	over := func(kind int, text string, front [][]impl.Node, behind ...[]impl.Node) func([]impl.Node) []impl.Node {
		return func(it []impl.Node) []impl.Node {
			return made(kind, 0, text, slices.Concat(front, [][]impl.Node{it}, behind)...)
		}
	}
	none, e1, p1, y1 := [][]impl.Node{}, [][]impl.Node{e}, [][]impl.Node{p}, [][]impl.Node{y}
	exps := []func([]impl.Node) []impl.Node{
		over(impl.ERaise, "", none), over(impl.EUn, "~", none), over(impl.EUn, "!", none),
		over(impl.EApp, "", none, e), over(impl.EApp, "", e1), over(impl.EType, "", none, y),
		over(impl.ETuple, "", none, e), over(impl.ETuple, "", e1), over(impl.ESeq, "", none, e), over(impl.ESeq, "", e1),
		over(impl.EIf, "", none, e, e), over(impl.EIf, "", e1, e), over(impl.EIf, "", [][]impl.Node{e, e}),
		over(impl.EWhile, "", none, e), over(impl.EWhile, "", e1), over(impl.ELet, "", [][]impl.Node{dec}),
		over(impl.ECase, "", none, rule(e)), over(impl.EHandle, "", none, rule(e)),
		over(impl.EOr, "", none, e), over(impl.EOr, "", e1), over(impl.EAnd, "", none, e), over(impl.EAnd, "", e1),
		func(it []impl.Node) []impl.Node { return made(impl.EFn, 0, "", rule(it)) },
		func(it []impl.Node) []impl.Node { return made(impl.EFn, 0, "", rule(it), rule(e)) },
		func(it []impl.Node) []impl.Node { return made(impl.ECase, 0, "", e, rule(e), rule(it)) },
		func(it []impl.Node) []impl.Node { return made(impl.EHandle, 0, "", e, rule(it), rule(e)) },
		func(it []impl.Node) []impl.Node { return consExp(0, it, e) },
		func(it []impl.Node) []impl.Node { return consExp(0, e, it) },
		func(it []impl.Node) []impl.Node { return made(impl.ELet, 0, "", made(impl.DVal, 0, "", p, it), e) },
	}
	for _, op := range []string{":=", "<=", "-", "/"} {
		exps = append(exps, over(impl.EBin, op, none, e), over(impl.EBin, op, e1))
	}
	return map[int][]func([]impl.Node) []impl.Node{
		impl.SortExp: exps,
		impl.SortPat: {
			over(impl.PAs, "x", none), over(impl.PType, "", none, y), over(impl.PCon, "A", none), over(impl.PCon, "::", none),
			over(impl.PTuple, "", none, p), over(impl.PTuple, "", p1),
			func(it []impl.Node) []impl.Node { return consPat(0, it, p) },
			func(it []impl.Node) []impl.Node { return consPat(0, p, it) },
		},
		impl.SortType: {
			over(impl.TArrow, "", none, y), over(impl.TArrow, "", y1), over(impl.TTuple, "", none, y), over(impl.TTuple, "", y1),
			over(impl.TCon, "t", none), over(impl.TCon, "t", none, y), over(impl.TCon, "t", y1),
		},
	}
}

// deepest goes on with a way of going deeper as long as a term stays of a sort where it stands, which
// can be asked late, since no way goes more than three nodes deeper.
func deepest(it []impl.Node, deeper func([]impl.Node) []impl.Node, fits func([]impl.Node) bool) []impl.Node {
	for {
		next := deeper(it)
		if impl.Deep(next) > impl.MaxDeep-8 && !fits(next) || !impl.Good(next) {
			return it
		}
		it = next
	}
}

func TestPrintDeepest(t *testing.T) {
	leaves := map[int][]impl.Node{impl.SortExp: evar("a"), impl.SortPat: pvar("a"), impl.SortType: tcon("a")}
	alone := func(it []impl.Node) bool { return impl.SortOf(it) != impl.SortNone }
	inside := func(it []impl.Node) bool {
		program, _, _ := inProgram(it)
		return impl.SortOf(program) == impl.SortProgram
	}
	for sort, ways := range oneDeeper() {
		for i, way := range ways {
			fits := inside
			if i%4 == 0 {
				fits = alone
			}
			it := deepest(leaves[sort], way, fits)
			if impl.Deep(it) < impl.MaxDeep-5 {
				t.Fatalf("%s is only %d deep", shown(way(leaves[sort])), impl.Deep(it))
			}
			checkPrinted(t, it)
		}
	}
}

func TestPrintLargest(t *testing.T) {
	n := impl.MaxNodes - 1
	alone(t, wide(impl.ESeq, 'e', n), "("+strings.Repeat("y; ", n-1)+"y)")
	alone(t, wide(impl.ETuple, 'e', n), "("+strings.Repeat("y, ", n-1)+"y)")
	alone(t, wide(impl.PTuple, 'p', n), "("+strings.Repeat("x, ", n-1)+"x)")
	alone(t, wide(impl.TTuple, 't', n), strings.Repeat("int * ", n-1)+"int")
	alone(t, wide(impl.KProgram, 'd', n), strings.Repeat("exception Exn\n", n))
	alone(t, wide(impl.EFn, 'r', n/3), "fn "+strings.Repeat("x => y | ", n/3-1)+"x => y")
	alone(t, wide(impl.DFun, 'f', n/4), "fun "+strings.Repeat("f x = y and ", n/4-1)+"f x = y")
	alone(t, wide(impl.DData, 'b', n/2), "datatype "+strings.Repeat("b = K and ", n/2-1)+"b = K")
	// As many decs as a source has room for.
	few := impl.MaxSource / len("exception Exn\n")
	isReadBack(t, wide(impl.KProgram, 'd', few))
	isReadBack(t, wide(impl.KProgram, 'd', few+1))
}

// Texts that are far too long to be read again are printed all the same.
func TestPrintLongest(t *testing.T) {
	n := impl.MaxNodes - 1
	for _, one := range []string{"\x00", "\n", "s"} {
		text := strings.Repeat(one, impl.MaxString)
		strs := slices.Repeat([][]impl.Node{made(impl.EStr, 0, text)}, n)
		want := quoted(text)
		if got := impl.Print(made(impl.ETuple, 0, "", strs...)); got != "("+strings.Repeat(want+", ", n-1)+want+")" {
			t.Errorf("%d strings of %q: %d bytes", n, one, len(got))
		}
	}
	long := strings.Repeat("n", impl.MaxSource)
	names := slices.Repeat([][]impl.Node{evar(long)}, 50)
	if got := impl.Print(made(impl.ESeq, 0, "", names...)); got != "("+strings.Repeat(long+"; ", 49)+long+")" {
		t.Errorf("names of %d bytes: %d bytes", len(long), len(got))
	}
	// One that just fits, and one that is a byte too long.
	for _, size := range []int{impl.MaxSource - len("exception E\n") + 1, impl.MaxSource - len("exception E\n") + 2} {
		isReadBack(t, made(impl.KProgram, 0, "", made(impl.DExn, 0, "E"+strings.Repeat("e", size-1))))
	}
}

func TestPrintWritesNothing(t *testing.T) {
	for _, it := range [][]impl.Node{largeProgram(), raised(5, made(impl.EVar, 0, "X")), raised(5, evar("x")), fan(20), {{Kids: 1}}} {
		behind := slices.Concat(it, leaf("behind"))
		before := slices.Clone(behind)
		first := impl.Print(behind[:len(it)])
		if !slices.Equal(behind, before) {
			t.Errorf("Print wrote into %v", before)
		}
		if again := impl.Print(it); again != first {
			t.Errorf("printed %q, and again %q", first, again)
		}
	}
}
