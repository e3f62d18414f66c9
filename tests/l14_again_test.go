package tests

import (
	"maps"
	"slices"
	"strconv"
	"strings"
	"testing"

	"loop.example/s02665/impl"
)

// lessTeller tells Less again in two rounds over whole terms: first what is used on the way down,
// which looks at nothing but the code itself, then what is used on the way up.
type lessTeller struct {
	binders map[int64]int
	vars    map[int64]int
	rules   [6]int // how often each was used
}

func knownAgain(c []impl.Node) bool {
	return plainFormAgain(c) && isKnownPart(c)
}

func isKnownPart(c []impl.Node) bool {
	parts := partsOfTerm(c)
	switch rootOf(c).Kind {
	case impl.CInt, impl.CStr, impl.CCon:
		return true
	case impl.CApp:
		return rootOf(parts[0]).Kind == impl.CCon && isKnownPart(parts[1])
	case impl.CTuple:
		return !slices.ContainsFunc(parts, func(part []impl.Node) bool { return !isKnownPart(part) })
	}
	return false
}

// lessAgain is what Less is to answer.
func lessAgain(c []impl.Node) []impl.Node {
	less, _ := lessByRules(c)
	return less
}

// lessByRules answers how often each rule was used, too.
func lessByRules(c []impl.Node) ([]impl.Node, [6]int) {
	if !plainFormAgain(c) {
		return nil, [6]int{}
	}
	l := &lessTeller{binders: map[int64]int{}, vars: map[int64]int{}}
	for _, n := range c {
		switch {
		case isOneOf(n.Kind, impl.CLam, impl.CLet, impl.CBnd, impl.QVar, impl.QAs):
			l.binders[n.Num]++
		case n.Kind == impl.CVar:
			l.vars[n.Num]++
		}
	}
	return l.up(l.down(treeOf(c), len(c)-1, map[int64]impl.Node{})), l.rules
}

func (l *lessTeller) isSingle(num int64) bool {
	return 1 <= num && num <= impl.MaxNum && l.binders[num] == 1
}

// down has rule 3 used everywhere, and nothing else.
func (l *lessTeller) down(u tree, i int, put map[int64]impl.Node) []impl.Node {
	n, kids := u.t[i], u.kids[i]
	if it, is := put[n.Num]; is && n.Kind == impl.CVar {
		return []impl.Node{it}
	}
	if n.Kind == impl.CLet && l.isSingle(n.Num) {
		first := u.t[kids[0]]
		if isOneOf(first.Kind, impl.CInt, impl.CStr, impl.CCon, impl.CGiven) || first.Kind == impl.CVar && l.isSingle(first.Num) {
			l.rules[3]++
			inside := maps.Clone(put)
			inside[n.Num] = l.down(u, kids[0], put)[0]
			return l.down(u, kids[1], inside)
		}
	}
	parts := [][]impl.Node{}
	for _, kid := range kids {
		parts = append(parts, l.down(u, kid, put))
	}
	return impl.Join(n, parts)
}

func (l *lessTeller) up(c []impl.Node) []impl.Node {
	parts := [][]impl.Node{}
	for _, part := range partsOfTerm(c) {
		parts = append(parts, l.up(part))
	}
	for number, rule := range map[int]func(impl.Node, [][]impl.Node) []impl.Node{1: l.first, 2: l.second, 4: l.fourth, 5: l.fifth} {
		if less := rule(rootOf(c), parts); less != nil {
			l.rules[number]++
			return less
		}
	}
	return impl.Join(rootOf(c), parts)
}

func (l *lessTeller) first(n impl.Node, parts [][]impl.Node) []impl.Node {
	values := []*toldValue{}
	for _, part := range parts {
		switch leaf := rootOf(part); leaf.Kind {
		case impl.CInt:
			values = append(values, toldInt(leaf.Num))
		case impl.CStr:
			values = append(values, toldStr(leaf.Text))
		default:
			return nil
		}
	}
	if !isOneOf(n.Kind, impl.CBin, impl.CUn) || n.Kind == impl.CBin && isOneOf(n.Text, "=", "<>") {
		return nil
	}
	// What Run has a value for is what is computed here, but for comparisons.
	end := (&runTeller{}).done(n, values)
	if end.kind != impl.RunValue {
		return nil
	}
	switch end.its.sort {
	case "int":
		return unplaced(impl.CInt, end.its.num, "")
	case "string":
		return unplaced(impl.CStr, 0, end.its.text)
	}
	return unplaced(impl.CCon, 0, end.its.text)
}

func (l *lessTeller) second(n impl.Node, parts [][]impl.Node) []impl.Node {
	if n.Kind != impl.CCase || !isKnownPart(parts[0]) {
		return nil
	}
	its := (&runTeller{u: treeOf(parts[0]), left: impl.MaxFuel}).eval(len(parts[0])-1, nil).its
	for _, rule := range parts[1:] {
		sides := partsOfTerm(rule)
		pat, code := sides[0], sides[1]
		if _, fits := (&runTeller{u: treeOf(pat)}).fits(len(pat)-1, its, nil); !fits {
			continue
		}
		names := slices.ContainsFunc(pat, func(n impl.Node) bool { return isOneOf(n.Kind, impl.QVar, impl.QAs) })
		switch {
		case !names:
			return code
		case rootOf(pat).Kind == impl.QVar:
			return unplaced(impl.CLet, rootOf(pat).Num, "", parts[0], code)
		}
		return nil
	}
	return nil
}

func (l *lessTeller) fourth(n impl.Node, parts [][]impl.Node) []impl.Node {
	if n.Kind == impl.CLet && n.Num <= impl.MaxNum && l.vars[n.Num] == 0 && (isKnownPart(parts[0]) || isOneOf(rootOf(parts[0]).Kind, impl.CLam, impl.CGiven)) {
		return parts[1]
	}
	return nil
}

func (l *lessTeller) fifth(n impl.Node, parts [][]impl.Node) []impl.Node {
	if n.Kind == impl.CApp && rootOf(parts[0]).Kind == impl.CLam {
		return unplaced(impl.CLet, rootOf(parts[0]).Num, "", parts[1], parts[0][:len(parts[0])-1])
	}
	return nil
}

func simplifiedAgain(c []impl.Node) []impl.Node {
	for range impl.MaxPass {
		less := lessAgain(c)
		if slices.Equal(less, c) {
			break
		}
		c = less
	}
	return c
}

// checkLess holds Known, Less and Simplify against the chapter told again.
func checkLess(t *testing.T, c []impl.Node) []impl.Node {
	t.Helper()
	if got, want := impl.Known(c), knownAgain(c); got != want {
		t.Fatalf("%s\nknown: %v", codeShown(c), got)
	}
	less := impl.Less(c)
	if want := lessAgain(c); !slices.Equal(less, want) {
		t.Fatalf("%s\nbecomes %s\nwant    %s", codeShown(c), codeShown(less), codeShown(want))
	}
	simple := impl.Simplify(c)
	if want := simplifiedAgain(c); !slices.Equal(simple, want) {
		t.Fatalf("%s\nin the end becomes %s\nwant    %s", codeShown(c), codeShown(simple), codeShown(want))
	}
	return less
}

// placeAgain counts byte by byte.
func placeAgain(src string, at int) (int, int) {
	if at < 0 || at > len(src) {
		return 0, 0
	}
	line, col := 1, 1
	for _, b := range []byte(src[:at]) {
		col++
		if b == '\n' {
			line, col = line+1, 1
		}
	}
	return line, col
}

// toldVar is the name of an unknown: all letters in turn, with the round behind from the second on.
func toldVar(num int64) string {
	letter := "abcdefghijklmnopqrstuvwxyz"[(num-1)%26:][:1]
	if num <= 26 {
		return "'" + letter
	}
	return "'" + letter + strconv.FormatInt((num-1)/26, 10)
}

// typeTextAgain is what TypeText is to answer: parentheses by what stands where.
func typeTextAgain(ty []impl.Node) string {
	unfit := func(n impl.Node) bool { return n.Kind == impl.TCon && !textFits(impl.TCon, n.Text) }
	if len(impl.Canon(ty)) == 0 || slices.ContainsFunc(ty, unfit) {
		return ""
	}
	return toldType14(ty, "")
}

// toldType14 is told what is around: nothing, the left of an arrow, a tuple, or one argument.
func toldType14(ty []impl.Node, around string) string {
	n, kids := rootOf(ty), partsOfTerm(ty)
	in := func(around string, kids ...[]impl.Node) []string {
		out := []string{}
		for _, kid := range kids {
			out = append(out, toldType14(kid, around))
		}
		return out
	}
	out, loose := "", ""
	switch {
	case n.Kind == impl.TMeta:
		return toldVar(n.Num)
	case n.Kind == impl.TNum:
		return "'t" + strconv.FormatInt(n.Num, 10)
	case n.Kind == impl.TArrow:
		out, loose = toldType14(kids[0], "left")+" -> "+toldType14(kids[1], ""), "left tuple argument"
	case n.Kind == impl.TTuple && len(kids) == 0:
		return "unit"
	case n.Kind == impl.TTuple:
		out, loose = strings.Join(in("tuple", kids...), " * "), "tuple argument"
	case len(kids) == 0:
		return n.Text
	case len(kids) == 1:
		return toldType14(kids[0], "argument") + " " + n.Text
	default:
		return "(" + strings.Join(in("", kids...), ", ") + ") " + n.Text
	}
	if around != "" && strings.Contains(loose, around) {
		return "(" + out + ")"
	}
	return out
}

// buildAgain asks the chapters one after the other.
func buildAgain(src string) impl.Built {
	fails := func(stage int, code int, at int) impl.Built {
		line, col := placeAgain(src, at)
		return impl.Built{Stage: stage, Code: code, Line: line, Col: col}
	}
	it, code, at := impl.Parse(src)
	if code != impl.ParseOk {
		return fails(impl.StSyntax, code, at)
	}
	program, code, node := impl.Resolve(it)
	if code != impl.ScOk {
		return fails(impl.StNames, code, it[node].At)
	}
	if _, code, node := impl.Declare(program); code != impl.DtOk {
		return fails(impl.StData, code, it[node].At)
	}
	typed := impl.Infer(program)
	if typed.Code != impl.TyOk {
		return fails(impl.StTypes, typed.Code, it[typed.Node].At)
	}
	plain, code := impl.Desugar(program)
	if code != impl.CoOk {
		return fails(impl.StCode, code, 0)
	}
	built := impl.Built{Plain: plain}
	outer := outerAgain(program)
	for _, node := range outer[max(0, len(outer)-impl.MaxShown):] {
		b := typed.Binders[program[node].Num-1]
		built.Shown = append(built.Shown, impl.Shown{Name: it[node].Text, Type: typeTextAgain(impl.Scheme(b))})
	}
	for _, m := range impl.Report(program) {
		line, col := placeAgain(src, it[m.Node].At)
		if m.Code == impl.MtMissing {
			built.Notes = append(built.Notes, impl.Note{Kind: impl.NtMissing, Line: line, Col: col, Text: impl.Print(m.Missing)})
		}
		if m.Code == impl.MtHard {
			built.Notes = append(built.Notes, impl.Note{Kind: impl.NtHard, Line: line, Col: col})
		}
		for _, k := range m.Useless {
			built.Notes = append(built.Notes, impl.Note{Kind: impl.NtUseless, Line: line, Col: col, Rule: k})
		}
	}
	return built
}

// tellAgain has the lines of what was built, and of what its code does.
func tellAgain(b impl.Built, fuel int) string {
	number := strconv.Itoa
	if b.Stage != impl.StOk {
		return "error " + number(b.Stage) + " " + number(b.Code) + " at " + number(b.Line) + ":" + number(b.Col) + "\n"
	}
	lines := []string{}
	for _, n := range b.Notes {
		says := map[int]string{impl.NtMissing: "missing " + n.Text, impl.NtUseless: "rule " + number(n.Rule) + " says nothing new", impl.NtHard: "too hard"}
		lines = append(lines, number(n.Line)+":"+number(n.Col)+" "+says[n.Kind])
	}
	for _, s := range b.Shown {
		lines = append(lines, "val "+s.Name+" : "+s.Type)
	}
	o := impl.Run(impl.Simplify(b.Plain), fuel)
	ends := map[int]string{impl.RunValue: "value " + o.Text, impl.RunRaise: "raised " + o.Text, impl.RunFuel: "no fuel", impl.RunStuck: "stuck", impl.RunArgs: "no run"}
	lines = append(lines, ends[o.Kind], "output "+toldQuoted(o.Out), "")
	return strings.Join(lines, "\n")
}

// isBuilt wants of both that every field is the same.
func isBuilt(got impl.Built, want impl.Built) bool {
	return got.Stage == want.Stage && got.Code == want.Code && got.Line == want.Line && got.Col == want.Col &&
		slices.Equal(got.Shown, want.Shown) && slices.Equal(got.Notes, want.Notes) && slices.Equal(got.Plain, want.Plain)
}

// checkBuild holds Build and Tell against the chapters one after the other: promise 20.
func checkBuild(t *testing.T, src string, fuels ...int) impl.Built {
	t.Helper()
	got, want := impl.Build(src), buildAgain(src)
	if !isBuilt(got, want) {
		t.Fatalf("%.500s\nis built as %.2000v\nwant %.2000v", src, got, want)
	}
	for _, fuel := range append(fuels, 500) {
		if told, want := impl.Tell(src, fuel), tellAgain(want, fuel); told != want {
			t.Fatalf("%.500s\nwith %d tells %.2000s\nwant %.2000s", src, fuel, told, want)
		}
	}
	return got
}

// The tellers themselves, by hand.
func TestLessTeller(t *testing.T) {
	for num, want := range map[int64]string{1: "'a", 26: "'z", 27: "'a1", 52: "'z1", 53: "'a2", 261: "'a10", 260: "'z9"} {
		if got := toldVar(num); got != want {
			t.Errorf("%d: %s, want %s", num, got, want)
		}
	}
	for text, want := range map[string]string{"[[?1, ?2], [int, ?3]]": "('a -> 'b) -> int -> 'c", "list(([?1, int], (), ((?1, #2), list(int))))": "(('a -> int) * unit * (('a * 't2) * int list)) list", "t([?1, ?1], (int, int))": "('a -> 'a, int * int) t"} {
		if got := typeTextAgain(plainOf(t, text)); got != want {
			t.Errorf("%s: %s, want %s", text, got, want)
		}
	}
	line, col := placeAgain("a\n\nbc", 4)
	if line != 3 || col != 2 {
		t.Errorf("%d:%d", line, col)
	}
	for code, want := range map[string]string{
		`CLet 1(CInt 5, CLet 2(CVar 1, CBin "+"(CVar 2, CVar 1)))`:                                              "CInt 10",
		`CApp(CLam 1(CVar 1), CBin "-"(CInt 1, CInt 3))`:                                                        "CLet 1(CInt -2, CVar 1)",
		`CCase "Match"(CApp(CCon "A", CInt 1), CRule(PCon "B"(PWild), CInt 2), CRule(PCon "A"(PWild), CVar 7))`: "CVar 7",
		`CLet 1(CTuple, CCase "Bind"(CStr "a", CRule(QVar 2, CBin "^"(CStr "a", CStr "b"))))`:                   `CLet 2(CStr "a", CStr "ab")`,
	} {
		c, _ := codeOf(t, code)
		if got := codeShown(lessAgain(c)); got != want {
			t.Errorf("%s becomes %s, want %s", code, got, want)
		}
	}
}
