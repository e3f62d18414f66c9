package tests

import (
	"slices"
	"testing"

	"loop.example/s02665/impl"
)

// wrongMatch wants MtArgs of Missing and of Useless, and nothing beside it.
func wrongMatch(t *testing.T, name string, program []impl.Node, pats [][]impl.Node) {
	t.Helper()
	p, code := impl.Missing(program, pats)
	indexes, uselessCode := impl.Useless(program, pats)
	if missingShown(p, code) != "MtArgs" || uselessShown(indexes, uselessCode) != "MtArgs" {
		t.Errorf("%s: %s, %s", name, missingShown(p, code), uselessShown(indexes, uselessCode))
	}
}

func rightMatch(t *testing.T, name string, program []impl.Node, pats [][]impl.Node) {
	t.Helper()
	p, code := impl.Missing(program, pats)
	indexes, uselessCode := impl.Useless(program, pats)
	if code == impl.MtArgs || uselessCode == impl.MtArgs {
		t.Errorf("%s: %s, %s", name, missingShown(p, code), uselessShown(indexes, uselessCode))
	}
}

// Programs for which Declare has a code.
func TestMatchWrongPrograms(t *testing.T) {
	programs := badLists()
	for name, src := range map[string]string{
		"a name that means nothing": "val x = y",
		"a datatype without values": "datatype t = A of t",
		"a type that is too large":  "type s = " + typeSized(impl.MaxType+1),
	} {
		program, _, _ := impl.Parse(src)
		if resolved, code, _ := impl.Resolve(program); code == impl.ScOk {
			program = resolved
		}
		programs[name] = program
	}
	programs["not resolved"] = parsed(t, "val x = 1")
	programs["no program"] = made(impl.EInt, 1, "")
	programs["a dec alone"] = oneDec(t, "val x = 1")
	programs["a pattern"] = wildPat
	for name, program := range programs {
		if _, code, _ := impl.Declare(program); code == impl.DtOk {
			t.Fatalf("%s has constructors", name)
		}
		wrongMatch(t, name, program, nil)
		wrongMatch(t, name, program, [][]impl.Node{wildPat})
		wrongMatch(t, name, program, [][]impl.Node{nil})
	}
	// What has no types has constructors all the same.
	rightMatch(t, "no types", resolved(t, "val x = 1 1"), patsOf(t, "true", "1", `"a"`))
}

// houses are patterns with a pattern somewhere inside.
func houses(p []impl.Node) [][]impl.Node {
	one, typ := made(impl.PInt, 1, ""), tcon("int")
	return [][]impl.Node{
		p,
		made(impl.PTuple, 0, "", one, p),
		made(impl.PTuple, 0, "", p, one),
		made(impl.PCon, 0, "Some", p),
		made(impl.PCon, 0, "::", made(impl.PTuple, 0, "", one, p)),
		made(impl.PCon, 0, "Stop", p),
		made(impl.PAs, 3, "x", p),
		made(impl.PType, 0, "", p, typ),
		made(impl.PCon, 0, "Some", made(impl.PAs, 3, "x", made(impl.PType, 0, "", made(impl.PTuple, 0, "", one, one, p), typ))),
	}
}

// eachPlace hands out lists of patterns with one of them at each place.
func eachPlace(p []impl.Node, each func(pats [][]impl.Node)) {
	one := made(impl.PInt, 1, "")
	for before := range 3 {
		for behind := range 3 {
			each(slices.Concat(slices.Repeat([][]impl.Node{one}, before), [][]impl.Node{p}, slices.Repeat([][]impl.Node{one}, behind)))
		}
	}
}

func TestMatchWrongPatterns(t *testing.T) {
	program := resolved(t, matchFront+"val x = 1 datatype later = Later of int")
	wrong := badLists()
	for name, it := range map[string][]impl.Node{
		"an exp":               made(impl.EInt, 1, ""),
		"a type":               tcon("int"),
		"a dec":                oneDec(t, "val x = 1"),
		"a program":            parsed(t, "val x = 1"),
		"a rule":               made(impl.Rule, 0, "", wildPat, made(impl.EInt, 1, "")),
		"a tuple of one":       made(impl.PTuple, 0, "", wildPat),
		"an exp in a tuple":    made(impl.PTuple, 0, "", wildPat, made(impl.EInt, 1, "")),
		"two":                  slices.Concat(wildPat, wildPat),
		"a name for a con":     made(impl.PCon, 0, "none"),
		"a con for a name":     made(impl.PVar, 0, "None"),
		"a number with a text": made(impl.PInt, 1, "a"),
		"a text with a number": made(impl.PStr, 1, "a"),
		"a long text":          made(impl.PStr, 0, string(make([]byte, impl.MaxString+1))),
		"too deep":             raised(impl.MaxDeep, wildPat),
		"too long":             made(impl.PTuple, 0, "", wilds(impl.MaxNodes)...),
	} {
		wrong[name] = it
	}
	for name, it := range wrong {
		if impl.SortOf(it) == impl.SortPat {
			t.Fatalf("%s is a pattern", name)
		}
		eachPlace(it, func(pats [][]impl.Node) { wrongMatch(t, name, program, pats) })
	}
	for _, name := range []string{"Foo", "Somme", "Nil", "True", "Later'", "Opt"} {
		for _, p := range slices.Concat(houses(made(impl.PCon, 0, name)), houses(made(impl.PCon, 0, name, wildPat))) {
			eachPlace(p, func(pats [][]impl.Node) { wrongMatch(t, "no constructor "+name, program, pats) })
		}
	}
	cons, _, _ := impl.Declare(program)
	for _, con := range cons {
		right, other := made(impl.PCon, 0, con.Name), made(impl.PCon, 0, con.Name, wildPat)
		if con.Has {
			right, other = other, right
		}
		for _, p := range houses(right) {
			eachPlace(p, func(pats [][]impl.Node) { rightMatch(t, con.Name, program, pats) })
		}
		for _, p := range houses(other) {
			eachPlace(p, func(pats [][]impl.Node) { wrongMatch(t, "argument of "+con.Name, program, pats) })
		}
	}
	// Names and types are not looked at: whatever they mean in the program.
	rightMatch(t, "types", program, patsOf(t, "x : nowhere", "(x, x)", "(y : (int, int) list)", "x as x"))
}

func TestMatchMostRows(t *testing.T) {
	program := resolved(t, matchFront)
	for _, p := range patsOf(t, "_", "1", "(1, _)", "Some 1", "Div", "x as 1", `"a"`) {
		most := slices.Repeat([][]impl.Node{p}, impl.MaxRows)
		indexes, code := impl.Useless(program, most)
		if code != impl.MtWhole || len(indexes) != impl.MaxRows-1 || indexes[0] != 1 || indexes[len(indexes)-1] != impl.MaxRows-1 {
			t.Errorf("%s so often: %s", impl.Print(p), uselessShown(indexes, code))
		}
		rightMatch(t, "MaxRows", program, most)
		wrongMatch(t, "more than MaxRows", program, append(most, p))
		wrongMatch(t, "many more than MaxRows", program, slices.Repeat(most, 3))
	}
	wrongMatch(t, "more than MaxRows of nothing", program, make([][]impl.Node, impl.MaxRows+1))
}
