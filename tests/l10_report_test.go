package tests

import (
	"slices"
	"strconv"
	"strings"
	"testing"

	"loop.example/s02665/impl"
)

func matchShown(m impl.Match) string {
	return "node " + strconv.Itoa(m.Node) + " " + missingShown(m.Missing, m.Code) + " useless" + strings.TrimPrefix(uselessShown(m.Useless, 0), "MtWhole")
}

func reportShown(matches []impl.Match) string {
	out := []string{}
	for _, m := range matches {
		out = append(out, matchShown(m))
	}
	return strings.Join(out, "\n")
}

// patsAt are the patterns of a node, by the tree; nil if it has no match.
func patsAt(u tree, program []impl.Node, i int) [][]impl.Node {
	rules := u.kids[i]
	switch program[i].Kind {
	case impl.DVal:
		return [][]impl.Node{impl.Part(program, u.kids[i][0])}
	case impl.ECase, impl.EHandle:
		rules = rules[1:]
	case impl.EFn, impl.FBind:
	default:
		return nil
	}
	out := [][]impl.Node{}
	for _, rule := range rules {
		pats := [][]impl.Node{}
		for _, kid := range u.kids[rule][:len(u.kids[rule])-1] {
			pats = append(pats, impl.Part(program, kid))
		}
		if len(pats) == 1 {
			out = append(out, pats[0])
		} else {
			out = append(out, unplaced(impl.PTuple, 0, "", pats...))
		}
	}
	return out
}

func reportAgain(program []impl.Node) []impl.Match {
	out := []impl.Match{}
	if impl.Infer(program).Code != impl.TyOk {
		return out
	}
	u := treeOf(program)
	for i, n := range program {
		pats := patsAt(u, program, i)
		if pats == nil {
			continue
		}
		m := impl.Match{Node: i, Code: impl.MtHard}
		if len(pats) <= impl.MaxRows {
			m.Missing, m.Code = missingAgain(program, pats)
			m.Useless, _ = uselessAgain(program, pats)
			if n.Kind == impl.EHandle {
				m.Missing, m.Code = nil, impl.MtWhole
			}
		}
		out = append(out, m)
	}
	return out
}

func checkReport(t *testing.T, program []impl.Node) []impl.Match {
	t.Helper()
	got := impl.Report(program)
	if want := reportShown(reportAgain(program)); reportShown(got) != want {
		t.Fatalf("%s\n%s\nwant\n%s", impl.Print(program), reportShown(got), want)
	}
	return got
}

// reportIs wants of each match its kind, what is missing and what is useless.
func reportIs(t *testing.T, src string, want ...string) {
	t.Helper()
	program := resolved(t, matchFront+src)
	got := []string{}
	for _, m := range checkReport(t, program) {
		line := kindName(program[m.Node].Kind) + " " + matchCode(m.Code)
		if len(m.Missing) > 0 {
			line += " " + impl.Print(m.Missing)
		}
		for _, i := range m.Useless {
			line += " " + strconv.Itoa(i)
		}
		got = append(got, line)
	}
	if !slices.Equal(got, want) {
		t.Errorf("%s\n%q\nwant\n%q", src, got, want)
	}
}

func TestReportNodes(t *testing.T) {
	reportIs(t, "")
	reportIs(t, "val x = 1", "DVal MtWhole")
	reportIs(t, "val Some x = None", "DVal MtMissing None")
	reportIs(t, "val (x, 1) = (1, 2)", "DVal MtMissing (_, 0)")
	reportIs(t, "val x = fn true => 1", "EFn MtMissing false", "DVal MtWhole")
	reportIs(t, "val x = fn true => 1 | true => 2 | false => 3 | _ => 4", "EFn MtWhole 1 3", "DVal MtWhole")
	reportIs(t, "val x = case 1 of 1 => 2 | 0 => 1 | 1 => 2", "ECase MtMissing 2 2", "DVal MtWhole")
	reportIs(t, "val x = 1 handle Div => 2", "EHandle MtWhole", "DVal MtWhole")
	reportIs(t, "val x = 1 handle Div => 2 | Stop _ => 3 | Stop 1 => 4 | Div => 5", "EHandle MtWhole 2 3", "DVal MtWhole")
	reportIs(t, "val x = 1 handle _ => 2 | Div => 5", "EHandle MtWhole 1", "DVal MtWhole")
	reportIs(t, "fun f x = 1", "FBind MtWhole")
	reportIs(t, "fun f true = 1", "FBind MtMissing false")
	reportIs(t, "fun f x y = 1", "FBind MtWhole")
	reportIs(t, "fun f true 1 = 1 | f _ 1 = 2 | f true 1 = 3", "FBind MtMissing (false, 0) 2")
	reportIs(t, "fun f None 1 = 1 | f _ _ = 2", "FBind MtWhole")
	reportIs(t, "fun f (x, true) = 1 | f (1, y) = 2", "FBind MtMissing (0, false)")
	reportIs(t, "fun f nil _ A = 1 | f (x :: _) () A = 1", "FBind MtMissing (nil, _, B _)")
	reportIs(t, "fun f 1 = g false and g true = 1 | g false = 2 | g _ = 3 and h () = 2", "FBind MtMissing 0", "FBind MtWhole 2", "FBind MtWhole")
	// Other nodes have none.
	reportIs(t, "val x = (if true then 1 else 2; let val 1 = 2 in while false do () end; (1 : int, true andalso false))", "DVal MtMissing 0", "DVal MtWhole")
}

// In the order of the list: what is inside comes first.
func TestReportOrder(t *testing.T) {
	reportIs(t, "val 1 = case (fn 2 => 3) 4 of 5 => 6 handle Div => (fn 7 => 8) 9",
		"EFn MtMissing 0", "EFn MtMissing 0", "EHandle MtWhole", "ECase MtMissing 0", "DVal MtMissing 0")
	reportIs(t, "fun f 1 = let fun g 2 = 3 val 4 = 5 in fn 6 => 7 end | f 0 = (fn 8 => 9)",
		"FBind MtMissing 0", "DVal MtMissing 0", "EFn MtMissing 0", "EFn MtMissing 0", "FBind MtMissing 2")
	program := resolved(t, "val a = fn x => fn y => x val b = a")
	nodes := []int{}
	for _, m := range impl.Report(program) {
		nodes = append(nodes, m.Node)
	}
	want := []int{nodeOf(t, program, impl.EFn, "", 1), nodeOf(t, program, impl.EFn, "", 2), nodeOf(t, program, impl.DVal, "", 1), nodeOf(t, program, impl.DVal, "", 2)}
	if !slices.Equal(nodes, want) {
		t.Errorf("nodes %v, want %v", nodes, want)
	}
}

func TestReportNoTypes(t *testing.T) {
	lists := badLists()
	lists["no types"] = resolved(t, "val true = false val x = 1 1")
	lists["not resolved"] = parsed(t, "val x = 1")
	lists["no values"] = parsed(t, "datatype t = A of t")
	lists["a dec"] = oneDec(t, "val x = 1")
	lists["too large"] = resolved(t, "val a = "+ones(impl.MaxType+1))
	for name, it := range lists {
		if got := impl.Report(it); len(got) != 0 {
			t.Errorf("%s: %s", name, reportShown(got))
		}
	}
}

// rulesOf are so many rules, whatever the number of each is.
func rulesOf(n int, pat func(i int) string) string {
	rules := []string{}
	for i := range n {
		rules = append(rules, pat(i)+" => 1")
	}
	return strings.Join(rules, " | ")
}

func TestReportMostRows(t *testing.T) {
	number := func(i int) string { return strconv.Itoa(i) }
	most := strconv.Itoa(impl.MaxRows)
	for _, src := range []string{"val f = fn §", "val f = case 1 of §", "fun ¶"} {
		in := func(n int) string {
			clauses := strings.ReplaceAll(strings.ReplaceAll("f "+rulesOf(n, number), "| ", "| f "), "=>", "=")
			return strings.ReplaceAll(strings.ReplaceAll(src, "§", rulesOf(n, number)), "¶", clauses)
		}
		for n, want := range map[int]string{impl.MaxRows: "MtMissing " + most, impl.MaxRows + 1: "MtHard", impl.MaxRows + 150: "MtHard"} {
			program := resolved(t, in(n))
			m := checkReport(t, program)[0]
			got := matchCode(m.Code)
			if len(m.Missing) > 0 {
				got += " " + impl.Print(m.Missing)
			}
			if got != want || len(m.Useless) > 0 {
				t.Errorf("%.40s with %d rules: %s, %v", src, n, got, m.Useless)
			}
		}
	}
	for n, want := range map[int]string{impl.MaxRows: "EHandle MtWhole 1", impl.MaxRows + 1: "EHandle MtHard"} {
		pat := func(i int) string {
			if i < 2 {
				return "Div"
			}
			return "Stop " + strconv.Itoa(i)
		}
		reportIs(t, "val x = 1 handle "+rulesOf(n, pat), want, "DVal MtWhole")
	}
	// Only the node itself is too hard.
	reportIs(t, "val f = fn "+rulesOf(impl.MaxRows+1, number)+" val 1 = 2", "EFn MtHard", "DVal MtWhole", "DVal MtMissing 0")
}

// Where too many steps are needed for one of both, the other is told all the same.
func TestReportTooHard(t *testing.T) {
	const columns = 12
	pats := []string{}
	for i := range columns {
		kids := slices.Repeat([]string{"_"}, columns)
		kids[i] = "true"
		pats = append(pats, "("+strings.Join(kids, ", ")+")")
	}
	rules := func(pats ...string) string { return rulesOf(len(pats), func(i int) string { return pats[i] }) }
	all := func(text string) string {
		return "(" + strings.Join(slices.Repeat([]string{text}, columns), ", ") + ")"
	}
	reportIs(t, "val f = fn "+rules(append(pats, all("false"))...), "EFn MtHard", "DVal MtWhole")
	reportIs(t, "val f = fn "+rules(append(pats, all("false"), all("true"))...), "EFn MtHard 13", "DVal MtWhole")
	// All that is missing is found at once here, but it takes long to see that the last one is useless.
	reportIs(t, "val f = fn "+rules(append(pats, pats[0])...), "EFn MtMissing "+all("false"), "DVal MtWhole")
	reportIs(t, "val f = fn "+rules(append(pats, all("true"))...), "EFn MtMissing "+all("false")+" 12", "DVal MtWhole")
}

func TestReportMadeUpPrograms(t *testing.T) {
	codes, kinds, useless := map[int]int{}, map[int]int{}, 0
	codedPrograms(t, 600, func(c *coder, src string, program []impl.Node) {
		for _, m := range checkReport(t, program) {
			codes[m.Code]++
			kinds[program[m.Node].Kind]++
			useless += len(m.Useless)
		}
	})
	if codes[impl.MtWhole] < 500 || codes[impl.MtMissing] < 500 || useless < 100 {
		t.Errorf("codes %v, %d useless ones", codes, useless)
	}
	for _, kind := range []int{impl.ECase, impl.EFn, impl.EHandle, impl.FBind, impl.DVal} {
		if kinds[kind] < 50 {
			t.Errorf("%d matches of kind %s", kinds[kind], kindName(kind))
		}
	}
}

// Matches of drawn patterns: those with a type stand in an ECase.
func TestReportDrawnPatterns(t *testing.T) {
	matches := 0
	drawnPats(600, func(d patDrawer, ty []impl.Node, pats [][]impl.Node) {
		if ty == nil || len(pats) == 0 {
			return
		}
		rules := [][]impl.Node{}
		for _, p := range pats {
			rules = append(rules, made(impl.Rule, 0, "", bare(p), made(impl.EInt, 1, "")))
		}
		decs := append(decsOf(t, matchFront), made(impl.DVal, 0, "", pvar("f"), made(impl.EFn, 0, "", rules...)))
		matches += len(checkReport(t, resolvedTerm(t, made(impl.KProgram, 0, "", decs...))))
	})
	if matches < 600 {
		t.Errorf("%d matches", matches)
	}
}
