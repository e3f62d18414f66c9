package tests

import (
	"slices"
	"strconv"
	"strings"
	"testing"

	"loop.example/s02665/impl"
)

// hasNoCode wants a code and nothing beside it.
func hasNoCode(t *testing.T, name string, program []impl.Node, want int) {
	t.Helper()
	soon(t, name, func() {
		if c, code := impl.Elaborate(program); code != want || len(c) > 0 {
			t.Errorf("%s: code %d with %d nodes, want %d", name, code, len(c), want)
		}
	})
}

// Each code of Infer, and lists that are no programs.
func TestElaborateNoProgram(t *testing.T) {
	lists := badLists()
	for name, it := range goodTerms() {
		lists[name] = it
	}
	for name, src := range map[string]string{
		"a clash":                  "val x = 1 1",
		"a clash behind":           "val x = 1 fun f y = y y",
		"too large a type":         "val a = " + ones(impl.MaxType+1),
		"too large a use":          "fun id x = x val _ = id " + ones(impl.MaxType+1),
		"too many kinds of a type": "val a = (1 : string)",
	} {
		lists[name] = resolved(t, src)
	}
	for name, src := range map[string]string{
		"not resolved":         "val x = 1",
		"names":                "val x = y",
		"no values":            "datatype t = A of t",
		"a large abbreviation": "type s = " + typeSized(impl.MaxType+1),
	} {
		lists[name] = parsed(t, src)
	}
	lists["a dec"] = oneDec(t, "val x = 1")
	lists["an exp"] = made(impl.EInt, 1, "")
	lists["a let with no decs"] = programOf(made(impl.DVal, 0, "", made(impl.PWild, 0, ""), made(impl.ELet, 0, "", made(impl.EInt, 1, ""))))
	lists["code"] = unplaced(impl.CInt, 1, "")
	lists["other numbers"] = resolved(t, "fun f x = x")
	lists["other numbers"][0].Num = 3
	for name, it := range lists {
		if impl.Infer(it).Code == impl.TyOk {
			t.Fatalf("%s has types", name)
		}
		hasNoCode(t, name, it, impl.CoProgram)
	}
	// Both too large for code and wrong: it is no program.
	hasNoCode(t, "large and wrong", resolved(t, largeCode(250)+"val _ = 1 1"), impl.CoProgram)
}

// largeCode has a type of MaxType nodes so many times.
func largeCode(times int) string {
	return "val x = " + ones(impl.MaxType) + strings.Repeat(" val y = x", times-1) + " "
}

func TestElaborateMostCode(t *testing.T) {
	max := impl.MaxCode
	many := strings.Join(numberedNames("x", 140), ", ")
	for name, src := range map[string]string{
		"lets":             largeCode(197),
		"variables":        "fun f (" + many + ") = 1 " + strings.Repeat(" fun g x = (f, x)", 64),
		"functions":        "fun " + strings.Join(numberedNames("f", 150), " x = 1 and ") + " x = 1 ",
		"constructors":     "datatype ('a, 'b, 'c, 'd, 'e, 'f) t = A | B of 'a * 'b * 'c * 'd * 'e * 'f val x = " + ones(impl.MaxType) + strings.Repeat(" val _ = (B (x, x, x, x, x, x); 1)", 32),
		"names in a rule":  "val x = " + ones(290) + strings.Repeat(" val _ = case x of z as w => 1", 100),
		"raises":           "val x = " + ones(impl.MaxType) + strings.Repeat(" val _ = (raise Div) = x", 193),
		"types at the end": "val x = " + ones(impl.MaxType) + " val _ = ((raise Div) = x" + strings.Repeat(", (raise Div) = x", 193) + ")",
		"references":       "val x = " + ones(impl.MaxType-1) + strings.Repeat(" val _ = ref x", 194),
		"parameters":       "val x = " + ones(impl.MaxType) + strings.Repeat(" val _ = (fn _ => 1) x", 190),
	} {
		// A tuple in front, which nobody looks at, fills the code up.
		program := func(n int) []impl.Node { return resolved(t, "val _ = ("+ones(n+1)+"; 1) "+src) }
		base := len(elaboratedAgain(program(2)))
		if base > max-10 || base < max-2500 {
			t.Fatalf("%s: %d nodes", name, base)
		}
		for size, want := range map[int]int{max - 1: impl.CoOk, max: impl.CoOk, max + 1: impl.CoLarge, max + 2: impl.CoLarge, max + 100: impl.CoLarge, max + 250: impl.CoLarge} {
			c, code := impl.Elaborate(program(2 + size - base))
			if code != want || len(c) != size*isOk(code) {
				t.Errorf("%s with %d nodes: code %d and %d nodes", name, size, code, len(c))
			}
		}
		checkCode(t, program(2+max-base))
	}
}

func isOk(code int) int {
	if code == impl.CoOk {
		return 1
	}
	return 0
}

// typesWritten is how many nodes the types have that stand in the code of a program.
func typesWritten(program []impl.Node) int {
	typed, size := impl.Infer(program), 0
	for _, b := range typed.Binders {
		size += len(b.Type) + 2*b.Count
	}
	for _, use := range typed.Uses {
		if isOneOf(program[use.Node].Kind, impl.PCon, impl.DVal) {
			continue
		}
		for _, ty := range use.Types {
			size += len(ty)
		}
	}
	return size
}

// Much too large, in each of the ways in which types are written many times.
func TestElaborateTooLarge(t *testing.T) {
	params := "('a, 'b, 'c, 'd, 'e, 'f, 'g, 'h)"
	bind := func(name string) []impl.Node {
		return made(impl.FBind, 0, name, made(impl.FClause, 0, "", pvar("x"), evar("x")))
	}
	call := made(impl.EApp, 0, "", evar("f7"), made(impl.EInt, 1, ""))
	names := numberedNames("f", 600)
	many := made(impl.DVal, 0, "", made(impl.PWild, 0, ""), made(impl.ESeq, 0, "", slices.Repeat([][]impl.Node{call}, 1000)...))
	for name, program := range map[string][]impl.Node{
		"lets":             resolved(t, largeCode(1500)),
		"constructors":     resolved(t, "datatype "+params+" t = C | D of 'a * 'b * 'c * 'd * 'e * 'f * 'g * 'h val x = "+ones(impl.MaxType)+" val _ = (D (x, x, x, x, x, x, x, x)"+" = C"+strings.Repeat("; D (x, x, x, x, x, x, x, x) = C", 250)+")"),
		"functions":        resolvedTerm(t, programOf(made(impl.DFun, 0, "", each(names, bind)...))),
		"uses of one":      resolvedTerm(t, programOf(made(impl.DFun, 0, "", each(names, bind)...), many)),
		"few, used often":  resolvedTerm(t, programOf(made(impl.DFun, 0, "", each(names[:100], bind)...), many)),
		"names in a rule":  resolved(t, "val x = "+ones(impl.MaxType)+" fun f y = 1"+strings.Repeat(" val _ = case x of (y as z) => 1", 500)),
		"raises":           resolved(t, "val x = "+ones(impl.MaxType)+strings.Repeat(" val _ = (raise Div) = x", 500)),
		"large parameters": resolved(t, "val x = "+ones(impl.MaxType)+strings.Repeat(" val _ = (fn _ => 1) x", 500)),
	} {
		if typesWritten(program) <= impl.MaxCode {
			t.Fatalf("%s is not large", name)
		}
		hasNoCode(t, name, program, impl.CoLarge)
	}
}

// A list of variables may be longer than that of a scheme in form: the rules say what the code is.
func TestElaborateMoreVariables(t *testing.T) {
	params := strings.Join(numberedNames("x", 290), ", ")
	for n, want := range map[int]bool{2: true, 3: true, 4: false} {
		program := resolved(t, "fun "+strings.Join(numberedNames("f", n), " ("+params+") = 1 and ")+" ("+params+") = 1")
		c, code := impl.Elaborate(program)
		if code != impl.CoOk || !slices.Equal(c, elaboratedAgain(program)) || impl.Form(c) != want {
			t.Errorf("%d variables: code %d, %d nodes, in form: %s", 290*n, code, len(c), strconv.FormatBool(impl.Form(c)))
		}
	}
}
