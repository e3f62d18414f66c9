package tests

import (
	"math/rand"
	"slices"
	"strconv"
	"strings"
	"testing"

	"loop.example/s02665/impl"
)

// matchTeller tells chapter 10 again, word for word: rows are lists of patterns that are made anew for
// each finding.
type matchTeller struct {
	cons  []impl.Con
	steps int
	most  int
}

// tooManySteps is what ends a finding.
type tooManySteps struct{}

// wayTold is a shape as a node, with as many Kids as it has parts.
type wayTold struct {
	node    impl.Node
	another bool
}

var wildPat = unplaced(impl.PWild, 0, "")

// unplaced is a term with At 0, as answers are.
func unplaced(kind int, num int64, text string, kids ...[]impl.Node) []impl.Node {
	return impl.Join(impl.Node{Kind: kind, Num: num, Text: text}, kids)
}

// bare is a pattern without what the chapter does not tell apart, and without places.
func bare(p []impl.Node) []impl.Node {
	root, kids := p[len(p)-1], impl.Kids(p)
	switch root.Kind {
	case impl.PVar:
		return wildPat
	case impl.PAs, impl.PType:
		return bare(kids[0])
	}
	for i, kid := range kids {
		kids[i] = bare(kid)
	}
	return unplaced(root.Kind, root.Num, root.Text, kids...)
}

func rootOf(p []impl.Node) impl.Node {
	return p[len(p)-1]
}

func isWild(p []impl.Node) bool {
	return rootOf(p).Kind == impl.PWild
}

func (m *matchTeller) step() {
	if m.steps++; m.steps > m.most {
		panic(tooManySteps{})
	}
}

func (m *matchTeller) con(name string) (impl.Con, bool) {
	for _, con := range m.cons {
		if con.Name == name {
			return con, true
		}
	}
	return impl.Con{}, false
}

func (m *matchTeller) isExn(n impl.Node) bool {
	con, _ := m.con(n.Text)
	return n.Kind == impl.PCon && con.Data == "exn"
}

func headAmong(rows [][][]impl.Node) (impl.Node, bool) {
	for _, row := range rows {
		if !isWild(row[0]) {
			return rootOf(row[0]), true
		}
	}
	return impl.Node{}, false
}

func (m *matchTeller) ways(head impl.Node, rows [][][]impl.Node) []wayTold {
	out := []wayTold{}
	con, _ := m.con(head.Text)
	switch {
	case head.Kind == impl.PTuple:
		return []wayTold{{node: head}}
	case head.Kind == impl.PCon && con.Data != "exn":
		for _, other := range m.cons {
			if other.Data == con.Data {
				way := wayTold{node: impl.Node{Kind: impl.PCon, Text: other.Name}}
				if other.Has {
					way.node.Kids = 1
				}
				out = append(out, way)
			}
		}
		return out
	}
	for _, row := range rows {
		way := wayTold{node: rootOf(row[0])}
		if way.node.Kind == head.Kind && m.isExn(way.node) == m.isExn(head) && !slices.Contains(out, way) {
			out = append(out, way)
		}
	}
	return append(out, wayTold{node: impl.Node{Kind: head.Kind}, another: true})
}

func wilds(n int) [][]impl.Node {
	return slices.Repeat([][]impl.Node{wildPat}, n)
}

func rowsBy(rows [][][]impl.Node, way wayTold) [][][]impl.Node {
	out := [][][]impl.Node{}
	for _, row := range rows {
		switch {
		case isWild(row[0]):
			out = append(out, slices.Concat(wilds(way.node.Kids), row[1:]))
		case !way.another && rootOf(row[0]) == way.node:
			out = append(out, slices.Concat(impl.Kids(row[0]), row[1:]))
		}
	}
	return out
}

func withoutFirst(rows [][][]impl.Node) [][][]impl.Node {
	out := [][][]impl.Node{}
	for _, row := range rows {
		out = append(out, row[1:])
	}
	return out
}

// together puts a way and its parts together, and all the rest behind it.
func together(way wayTold, rows [][][]impl.Node, parts [][]impl.Node) [][]impl.Node {
	n := way.node.Kids
	one := unplaced(way.node.Kind, way.node.Num, way.node.Text, parts[:n]...)
	if way.another {
		one = anotherThan(way.node.Kind, rows)
	}
	return slices.Concat([][]impl.Node{one}, parts[n:])
}

func anotherThan(kind int, rows [][][]impl.Node) []impl.Node {
	stands := func(n impl.Node) bool {
		return slices.ContainsFunc(rows, func(row [][]impl.Node) bool { return rootOf(row[0]) == n })
	}
	if kind == impl.PCon {
		return wildPat
	}
	for i := 0; ; i++ {
		n := impl.Node{Kind: kind, Num: int64(i)}
		if kind == impl.PStr {
			n = impl.Node{Kind: kind, Text: strings.Repeat("a", i)}
		}
		if !stands(n) {
			return []impl.Node{n}
		}
	}
}

func (m *matchTeller) missing(rows [][][]impl.Node, columns int) ([][]impl.Node, bool) {
	m.step()
	if columns == 0 {
		return nil, len(rows) == 0
	}
	head, ok := headAmong(rows)
	if !ok {
		rest, found := m.missing(withoutFirst(rows), columns-1)
		return slices.Concat(wilds(1), rest), found
	}
	for _, way := range m.ways(head, rows) {
		if parts, found := m.missing(rowsBy(rows, way), way.node.Kids+columns-1); found {
			return together(way, rows, parts), true
		}
	}
	return nil, false
}

func (m *matchTeller) saysNew(q [][]impl.Node, rows [][][]impl.Node) bool {
	m.step()
	if len(q) == 0 {
		return len(rows) == 0
	}
	if !isWild(q[0]) {
		return m.saysNew(slices.Concat(impl.Kids(q[0]), q[1:]), rowsBy(rows, wayTold{node: rootOf(q[0])}))
	}
	head, ok := headAmong(rows)
	if !ok {
		return m.saysNew(q[1:], withoutFirst(rows))
	}
	for _, way := range m.ways(head, rows) {
		if m.saysNew(slices.Concat(wilds(way.node.Kids), q[1:]), rowsBy(rows, way)) {
			return true
		}
	}
	return false
}

// counted tells how many steps something takes, and whether these are not too many.
func (m *matchTeller) counted(find func()) (ok bool) {
	m.steps = 0
	defer func() {
		if caught := recover(); caught != nil {
			if _, is := caught.(tooManySteps); !is {
				panic(caught)
			}
			ok = false
		}
	}()
	find()
	return true
}

// tellerFor is empty if the arguments are wrong.
func tellerFor(program []impl.Node, pats [][]impl.Node) (*matchTeller, [][][]impl.Node) {
	cons, code, _ := impl.Declare(program)
	if code != impl.DtOk || len(pats) > impl.MaxRows {
		return nil, nil
	}
	m := &matchTeller{cons: cons, most: impl.MaxSteps}
	rows := [][][]impl.Node{}
	for _, p := range pats {
		if impl.SortOf(p) != impl.SortPat {
			return nil, nil
		}
		for _, n := range p {
			con, known := m.con(n.Text)
			if n.Kind == impl.PCon && (!known || con.Has != (n.Kids == 1)) {
				return nil, nil
			}
		}
		rows = append(rows, [][]impl.Node{bare(p)})
	}
	return m, rows
}

func missingAgain(program []impl.Node, pats [][]impl.Node) ([]impl.Node, int) {
	m, rows := tellerFor(program, pats)
	if m == nil {
		return nil, impl.MtArgs
	}
	var parts [][]impl.Node
	var found bool
	switch ok := m.counted(func() { parts, found = m.missing(rows, 1) }); {
	case !ok:
		return nil, impl.MtHard
	case !found:
		return nil, impl.MtWhole
	}
	return parts[0], impl.MtMissing
}

func uselessAgain(program []impl.Node, pats [][]impl.Node) ([]int, int) {
	m, rows := tellerFor(program, pats)
	if m == nil {
		return nil, impl.MtArgs
	}
	out := []int{}
	for i, q := range rows {
		found := false
		if !m.counted(func() { found = m.saysNew(q, rows[:i]) }) {
			return nil, impl.MtHard
		}
		if !found {
			out = append(out, i)
		}
	}
	return out, impl.MtWhole
}

func matchCode(code int) string {
	return []string{"MtWhole", "MtMissing", "MtHard", "MtArgs"}[code]
}

func missingShown(p []impl.Node, code int) string {
	out := matchCode(code)
	for _, n := range p {
		out += " " + kindName(n.Kind) + " " + strconv.FormatInt(n.Num, 10) + " " + strconv.Quote(n.Text)
		out += " " + strconv.Itoa(n.Kids) + " " + strconv.Itoa(n.At)
	}
	return out
}

func uselessShown(indexes []int, code int) string {
	out := matchCode(code)
	for _, i := range indexes {
		out += " " + strconv.Itoa(i)
	}
	return out
}

func patsShown(pats [][]impl.Node) string {
	out := []string{}
	for _, p := range pats {
		out = append(out, impl.Print(p))
	}
	return strings.Join(out, " | ")
}

// checkMatch wants of Missing and Useless what is told again.
func checkMatch(t *testing.T, program []impl.Node, pats [][]impl.Node) ([]impl.Node, int, []int) {
	t.Helper()
	p, code := impl.Missing(program, pats)
	if want := missingShown(missingAgain(program, pats)); missingShown(p, code) != want {
		t.Fatalf("%.3000s\nmissing: %s\nwant %s", patsShown(pats), missingShown(p, code), want)
	}
	indexes, codeOfUseless := impl.Useless(program, pats)
	if want := uselessShown(uselessAgain(program, pats)); uselessShown(indexes, codeOfUseless) != want {
		t.Fatalf("%.3000s\nuseless: %s\nwant %s", patsShown(pats), uselessShown(indexes, codeOfUseless), want)
	}
	return p, code, indexes
}

const matchFront = `datatype 'a opt = None | Some of 'a
exception Stop of int
datatype t = A | B of bool * t | C
exception Halt
datatype ('a, 'b) two = Two of 'a * 'b | One of 'b | No
datatype single = Single of int * bool
`

// patDrawer draws patterns and values of the types of matchFront, and patterns without types.
type patDrawer struct {
	drawer
}

// matchType draws a type, values of which are small.
func (d patDrawer) matchType(deep int) []impl.Node {
	one := func() []impl.Node { return d.matchType(deep - 1) }
	pick := d.rnd.Intn(14)
	if deep <= 0 {
		pick %= 8
	}
	switch pick {
	case 0, 1:
		return boolType
	case 2:
		return intType
	case 3:
		return stringType
	case 4:
		return exnType
	case 5:
		return unitType
	case 6:
		return typeCon("t")
	case 7:
		return typeCon("single")
	case 8:
		return typeCon("list", one())
	case 9:
		return typeCon("opt", one())
	case 10:
		return typeCon("two", one(), one())
	case 11:
		return typeTuple(one(), one(), one())
	}
	return typeTuple(one(), one())
}

// partsOf tells for each shape of a type the types of its parts.
func partsOf(ty []impl.Node) map[impl.Node][][]impl.Node {
	kids, root := impl.Kids(ty), rootOf(ty)
	con := func(text string, n int) impl.Node { return impl.Node{Kind: impl.PCon, Text: text, Kids: n} }
	out := map[impl.Node][][]impl.Node{}
	if root.Kind == impl.TTuple {
		out[impl.Node{Kind: impl.PTuple, Kids: len(kids)}] = kids
	}
	switch root.Text {
	case "int":
		for _, num := range []int64{-1, 0, 1, 2, 4, 1 << 62} {
			out[impl.Node{Kind: impl.PInt, Num: num}] = nil
		}
	case "string":
		for _, text := range []string{"", "a", "aa", "b", "ab"} {
			out[impl.Node{Kind: impl.PStr, Text: text}] = nil
		}
	case "bool":
		out[con("true", 0)], out[con("false", 0)] = nil, nil
	case "exn":
		out[con("Stop", 1)], out[con("Halt", 0)], out[con("Div", 0)], out[con("Match", 0)] = [][]impl.Node{intType}, nil, nil, nil
	case "t":
		out[con("A", 0)], out[con("B", 1)], out[con("C", 0)] = nil, [][]impl.Node{typeTuple(boolType, ty)}, nil
	case "single":
		out[con("Single", 1)] = [][]impl.Node{typeTuple(intType, boolType)}
	case "list":
		out[con("nil", 0)], out[con("::", 1)] = nil, [][]impl.Node{typeTuple(kids[0], ty)}
	case "opt":
		out[con("None", 0)], out[con("Some", 1)] = nil, kids
	case "two":
		out[con("Two", 1)], out[con("One", 1)], out[con("No", 0)] = [][]impl.Node{typeTuple(kids...)}, kids[1:], nil
	}
	return out
}

// shapesOf are the shapes of a type, in one order always.
func shapesOf(ty []impl.Node) []impl.Node {
	out := []impl.Node{}
	for n := range partsOf(ty) {
		out = append(out, n)
	}
	slices.SortFunc(out, func(a impl.Node, b impl.Node) int {
		if a.Num != b.Num {
			return int(a.Num>>60) - int(b.Num>>60) + int(a.Num%100) - int(b.Num%100)
		}
		return strings.Compare(a.Text, b.Text)
	})
	return out
}

// typedPat draws a pattern of a type.
func (d patDrawer) typedPat(ty []impl.Node, deep int) []impl.Node {
	pick := d.rnd.Intn(14)
	switch {
	case pick < 2:
		return slices.Clone(wildPat)
	case pick == 2 || deep <= 0 && pick < 8:
		return d.node(impl.PVar, d.number(), d.name())
	case pick == 3:
		return d.node(impl.PAs, d.number(), d.name(), d.typedPat(ty, deep-1))
	case pick == 4:
		return d.node(impl.PType, 0, "", d.typedPat(ty, deep-1), d.typ(1))
	}
	shapes := shapesOf(ty)
	n := shapes[d.rnd.Intn(len(shapes))]
	kids := [][]impl.Node{}
	for _, part := range partsOf(ty)[n] {
		if deep <= 0 {
			kids = append(kids, wildPat)
		} else {
			kids = append(kids, d.typedPat(part, deep-1))
		}
	}
	return d.node(n.Kind, n.Num, n.Text, kids...)
}

// anyPat draws a pattern that need not have a type.
func (d patDrawer) anyPat(deep int) []impl.Node {
	return d.typedPat(d.matchType(0), deep)
}

// mixed draws a pattern with parts of whatever types.
func (d patDrawer) mixed(deep int) []impl.Node {
	if deep <= 0 {
		return d.anyPat(0)
	}
	switch d.rnd.Intn(6) {
	case 0:
		return d.anyPat(deep)
	case 1:
		return d.node(impl.PCon, 0, d.one("Some One Two B :: Stop Single"), d.mixed(deep-1))
	case 2:
		return d.node(impl.PCon, 0, d.one("None No A nil true Div Halt"))
	}
	kids := [][]impl.Node{}
	for range 2 + d.rnd.Intn(2) {
		kids = append(kids, d.mixed(deep-1))
	}
	return d.node(impl.PTuple, 0, "", kids...)
}

func (d patDrawer) several(most int, one func() []impl.Node) [][]impl.Node {
	out := [][]impl.Node{}
	for range d.rnd.Intn(most + 1) {
		if len(out) > 0 && d.rnd.Intn(8) == 0 {
			out = append(out, out[d.rnd.Intn(len(out))])
			continue
		}
		out = append(out, one())
	}
	return out
}

// drawnPats hands out lists of patterns, with the type that they have or nil if they need not have one.
func drawnPats(lists int64, each func(d patDrawer, ty []impl.Node, pats [][]impl.Node)) {
	for seed := range lists {
		d := patDrawer{drawer{rand.New(rand.NewSource(seed))}}
		deep := 1 + d.rnd.Intn(4)
		if seed%4 == 3 {
			each(d, nil, d.several(12, func() []impl.Node { return d.mixed(deep) }))
			continue
		}
		ty := d.matchType(1 + d.rnd.Intn(3))
		each(d, ty, d.several(14, func() []impl.Node { return d.typedPat(ty, deep) }))
	}
}

func TestMatchDrawnPatterns(t *testing.T) {
	program := resolved(t, matchFront)
	codes, sizes, kinds := map[int]int{}, map[int]int{}, map[int]int{}
	drawnPats(8000, func(d patDrawer, ty []impl.Node, pats [][]impl.Node) {
		p, code, indexes := checkMatch(t, program, pats)
		codes[code]++
		sizes[min(len(indexes), 5)]++
		for _, n := range p {
			kinds[n.Kind]++
		}
	})
	if codes[impl.MtWhole] < 1000 || codes[impl.MtMissing] < 1000 {
		t.Errorf("codes: %v", codes)
	}
	for size := range 6 {
		if sizes[size] < 50 {
			t.Errorf("%d lists with %d useless ones", sizes[size], size)
		}
	}
	for _, kind := range []int{impl.PWild, impl.PInt, impl.PStr, impl.PCon, impl.PTuple} {
		if kinds[kind] < 100 {
			t.Errorf("%d nodes of kind %s are missing", kinds[kind], kindName(kind))
		}
	}
}

// padded are patterns with columns in front of them that take a step each, beside one for the tuple.
func padded(pats [][]impl.Node, columns int) [][]impl.Node {
	out := [][]impl.Node{}
	for _, p := range pats {
		out = append(out, unplaced(impl.PTuple, 0, "", append(wilds(columns), p)...))
	}
	return out
}

// However many steps something takes, so many more columns in front make it just not too hard, and
// one more does.
func TestMatchStepsOfDrawnPatterns(t *testing.T) {
	program := resolved(t, matchFront)
	hard := 0
	drawnPats(150, func(d patDrawer, ty []impl.Node, pats [][]impl.Node) {
		if len(pats) == 0 {
			return
		}
		m, rows := tellerFor(program, pats)
		most := 0
		for i, q := range rows {
			if !m.counted(func() { m.saysNew(q, rows[:i]) }) {
				hard++
				return
			}
			most = max(most, m.steps)
		}
		want, _ := uselessAgain(program, pats)
		room := impl.MaxSteps - 1 - most
		if got, code := impl.Useless(program, padded(pats, room)); uselessShown(got, code) != uselessShown(want, impl.MtWhole) {
			t.Fatalf("%s\nuseless in %d steps: %s, want %v", patsShown(pats), most, uselessShown(got, code), want)
		}
		if got, code := impl.Useless(program, padded(pats, room+1)); uselessShown(got, code) != "MtHard" {
			t.Fatalf("%s\nuseless in one step more than %d: %s", patsShown(pats), impl.MaxSteps, uselessShown(got, code))
		}
		if !m.counted(func() { m.missing(rows, 1) }) {
			hard++
			return
		}
		missing, code := missingAgain(program, pats)
		if code == impl.MtMissing {
			missing = padded([][]impl.Node{missing}, impl.MaxSteps-1-m.steps)[0]
		}
		if got, gotCode := impl.Missing(program, padded(pats, impl.MaxSteps-1-m.steps)); gotCode != code || !slices.Equal(got, missing) {
			t.Fatalf("%s\nmissing in %d steps: %s", patsShown(pats), m.steps, matchCode(gotCode))
		}
		if got, code := impl.Missing(program, padded(pats, impl.MaxSteps-m.steps)); code != impl.MtHard || len(got) > 0 {
			t.Fatalf("%s\nmissing in one step more than %d: %s", patsShown(pats), impl.MaxSteps, matchCode(code))
		}
	})
	if hard > 15 {
		t.Errorf("%d were too hard", hard)
	}
}
