package tests

import (
	"slices"
	"strconv"
	"strings"
	"testing"

	"loop.example/s02665/impl"
)

func tvars(names ...string) [][]impl.Node {
	return each(names, func(name string) []impl.Node { return made(impl.TVar, 0, name) })
}

// dtype is a DType with these params.
func dtype(name string, params [][]impl.Node, ty []impl.Node) []impl.Node {
	return made(impl.DType, int64(len(params)), name, slices.Concat(params, [][]impl.Node{ty})...)
}

func tbind(name string, params [][]impl.Node, cons ...[]impl.Node) []impl.Node {
	return made(impl.TBind, int64(len(params)), name, slices.Concat(params, cons)...)
}

func cbind(name string, arg ...[]impl.Node) []impl.Node { return made(impl.CBind, 0, name, arg...) }

func exn(name string, arg ...[]impl.Node) []impl.Node { return made(impl.DExn, 0, name, arg...) }

func ttuple(kids ...[]impl.Node) []impl.Node { return made(impl.TTuple, 0, "", kids...) }

// answersOf wants a program that is nearly as large as can be, and what Declare answers for it.
func answersOf(t *testing.T, name string, program []impl.Node, code int, node int) []impl.Con {
	t.Helper()
	if len(program) > impl.MaxNodes || len(program) < impl.MaxNodes-40 || !impl.Resolved(program) {
		t.Fatalf("%s: %d nodes, resolved %v", name, len(program), impl.Resolved(program))
	}
	before := slices.Clone(program)
	cons, c, n := impl.Declare(program)
	if c != code || n != node || (len(cons) > 0) != (code == impl.DtOk) {
		t.Errorf("%s: %d constructors, code %d at node %d, want code %d at node %d", name, len(cons), c, n, code, node)
	}
	if _, ok := impl.Plain(program, tcon("int")); ok != (code == impl.DtOk) {
		t.Errorf("%s: Plain answers %v", name, ok)
	}
	if _, ok := impl.ConOf(program, "::"); ok != (code == impl.DtOk) {
		t.Errorf("%s: ConOf answers %v", name, ok)
	}
	if !slices.Equal(program, before) {
		t.Errorf("%s: was changed", name)
	}
	return cons
}

func TestDeclareLongestChains(t *testing.T) {
	// Each abbreviation is the one in front of it.
	decs := [][]impl.Node{dtype("s0", nil, tcon("int"))}
	for i := range impl.MaxNodes/2 - 3 {
		decs = append(decs, dtype("s"+strconv.Itoa(i+1), nil, tcon("s"+strconv.Itoa(i))))
	}
	last := "s" + strconv.Itoa(len(decs)-1)
	cons := answersOf(t, "names", programOf(append(decs, exn("E", tcon(last)))...), impl.DtOk, 0)
	if len(cons) != 12 || conShown(cons[11]) != "E exn 0 of int" {
		t.Errorf("%q", consShown(cons))
	}
	// The same with a param that is turned round each time.
	decs = [][]impl.Node{dtype("s0", tvars("a", "b"), ttuple(tvars("a", "b")...))}
	for i := range impl.MaxNodes/6 - 2 {
		decs = append(decs, dtype("s"+strconv.Itoa(i+1), tvars("a", "b"), made(impl.TCon, 0, "s"+strconv.Itoa(i), tvars("b", "a")...)))
	}
	last = "s" + strconv.Itoa(len(decs)-1)
	want := "E exn 0 of (int, bool)"
	if len(decs)%2 == 0 {
		want = "E exn 0 of (bool, int)"
	}
	cons = answersOf(t, "turned", programOf(append(decs, exn("E", made(impl.TCon, 0, last, tcon("int"), tcon("bool"))))...), impl.DtOk, 0)
	if len(cons) != 12 || conShown(cons[11]) != want {
		t.Errorf("%q, want %s", consShown(cons), want)
	}
}

// Doubled a thousand times: no number holds the size.
func TestDeclareFarTooLarge(t *testing.T) {
	a := tvars("a")
	decs := [][]impl.Node{dtype("no", a, ttuple()), dtype("d", a, ttuple(a[0], a[0]))}
	deep := tcon("int")
	for range impl.MaxDeep - 10 {
		deep = made(impl.TCon, 0, "d", deep)
	}
	drop := func(ty []impl.Node) []impl.Node { return made(impl.TCon, 0, "no", ty) }
	size := len(programOf(decs...))
	n := (impl.MaxNodes - size - 1) / (len(deep) + 2)
	exns := [][]impl.Node{}
	for i := range n {
		exns = append(exns, exn("E"+strconv.Itoa(i), drop(deep)))
	}
	rest := exn("F", drop(ttuple(slices.Repeat([][]impl.Node{tcon("int")}, impl.MaxNodes-size-n*(len(deep)+2)-5)...)))
	cons := answersOf(t, "dropped", programOf(slices.Concat(decs, exns, [][]impl.Node{rest})...), impl.DtOk, 0)
	if len(cons) != 11+n+1 || conShown(cons[len(cons)-1]) != "F exn 0 of ()" {
		t.Errorf("%d constructors", len(cons))
	}
	exns[n-1] = exn("E"+strconv.Itoa(n-1), made(impl.TCon, 0, "d", deep))
	front := len(programOf(slices.Concat(decs, exns)...))
	answersOf(t, "not dropped", programOf(slices.Concat(decs, exns, [][]impl.Node{rest})...), impl.DtLarge, front-3)
}

func TestDeclareManyConstructors(t *testing.T) {
	all := impl.MaxNodes - 1
	names := numberedNames("C", all)
	cons := answersOf(t, "exceptions", programOf(each(names, func(name string) []impl.Node { return exn(name) })...), impl.DtOk, 0)
	if len(cons) != 11+all || cons[11+all-1].Name != names[all-1] {
		t.Errorf("%d exceptions", len(cons))
	}
	binds := each(names[:all-2], func(name string) []impl.Node { return cbind(name) })
	cons = answersOf(t, "constructors", programOf(made(impl.DData, 0, "", tbind("t", nil, binds...))), impl.DtOk, 0)
	if len(cons) != 11+all-2 || cons[11+all-3].Data != "t" {
		t.Errorf("%d constructors", len(cons))
	}
	// Each has a type as large as can be.
	big := dtype("big", nil, ttuple(slices.Repeat([][]impl.Node{tcon("int")}, impl.MaxType-1)...))
	n := (all - len(big) - 2) / 2
	binds = each(names[:n], func(name string) []impl.Node { return cbind(name, tcon("big")) })
	cons = answersOf(t, "large ones", programOf(big, made(impl.DData, 0, "", tbind("t", nil, binds...))), impl.DtOk, 0)
	for _, con := range cons[11:] {
		if len(con.Arg) != impl.MaxType || !impl.Ground(con.Arg) {
			t.Fatalf("%s", conShown(con))
		}
	}
	if len(cons) != 11+n {
		t.Errorf("%d constructors", len(cons))
	}
	// More datatypes than there may be.
	data := each(numberedNames("t", all/3), func(name string) []impl.Node { return tbind(name, nil, cbind("C"+name, tcon(name))) })
	program := programOf(made(impl.DData, 0, "", data[:all/3-1]...))
	answersOf(t, "datatypes", program, impl.DtLarge, nodeOf(t, program, impl.TBind, "t200", 1))
}

// eight are the params of a datatype, from the one with this number on and round.
func eight(first int) [][]impl.Node {
	names := numberedNames("a", 8)
	return tvars(append(slices.Clone(names[first%8:]), names[:first%8]...)...)
}

// Datatypes of eight params, each giving its own to the next one in another order.
func TestDeclareEightParams(t *testing.T) {
	name := func(i int) string { return "t" + strconv.Itoa(i) }
	next := func(i int) []impl.Node { return made(impl.TCon, 0, name((i+1)%impl.MaxData), eight(i)...) }
	binds := [][]impl.Node{}
	for i := range impl.MaxData {
		binds = append(binds, tbind(name(i), eight(0), cbind("A"+strconv.Itoa(i), next(i))))
	}
	ring := programOf(made(impl.DData, 0, "", binds...))
	declareFails(t, resolvedTerm(t, ring), impl.DtEmpty, nodeOf(t, ring, impl.TBind, "t0", 1))
	// With a way out at one place, all have.
	for _, way := range [][]impl.Node{eight(0)[3], ttuple(eight(0)...), ttuple()} {
		for _, place := range []int{0, 77, impl.MaxData - 1} {
			changed := slices.Clone(binds)
			changed[place] = tbind(name(place), eight(0), cbind("A"+strconv.Itoa(place), next(place)), cbind("Out", way))
			changed = append(changed[1:], changed[0])
			if _, code, node := impl.Declare(resolvedTerm(t, programOf(made(impl.DData, 0, "", changed...)))); code != impl.DtOk {
				t.Errorf("a way out at %d: code %d at node %d", place, code, node)
			}
		}
	}
}

func resolvedTerm(t *testing.T, it []impl.Node) []impl.Node {
	t.Helper()
	got, code, node := impl.Resolve(it)
	if code != impl.ScOk {
		t.Fatalf("code %d at node %d", code, node)
	}
	return got
}

// All sets of eight params: the middle ones have values, by constructors that need four of them.
func TestDeclareAllSetsOfParams(t *testing.T) {
	cons := [][]impl.Node{}
	for set := range 256 {
		needed := [][]impl.Node{}
		for k := range 8 {
			if set>>k&1 == 1 {
				needed = append(needed, eight(0)[k])
			}
		}
		if len(needed) == 4 {
			cons = append(cons, cbind("N"+strconv.Itoa(set), ttuple(needed...)))
		}
	}
	four := made(impl.DData, 0, "", tbind("four", eight(0), cons...))
	for first := 0; first < 256; first += 10 {
		decs, wrong := [][]impl.Node{four}, 0
		for set := first; set < min(first+10, 256); set++ {
			args, having := [][]impl.Node{}, 0
			for k := range 8 {
				if set>>k&1 == 1 {
					args = append(args, tcon("int"))
					having++
				} else {
					args = append(args, tcon("u"+strconv.Itoa(set)))
				}
			}
			decs = append(decs, made(impl.DData, 0, "", tbind("u"+strconv.Itoa(set), nil, cbind("U"+strconv.Itoa(set), made(impl.TCon, 0, "four", args...)))))
			if having < 4 && wrong == 0 {
				wrong = len(programOf(decs...)) - 3
			}
		}
		want := impl.DtOk
		if wrong > 0 {
			want = impl.DtEmpty
		}
		_, code, node := impl.Declare(resolvedTerm(t, programOf(decs...)))
		if code != want || node != wrong {
			t.Errorf("from %d on: code %d at node %d, want %d at %d", first, code, node, want, wrong)
		}
	}
}

func TestDeclareDeepest(t *testing.T) {
	leaves := map[int][]impl.Node{impl.SortExp: made(impl.EInt, 1, ""), impl.SortPat: made(impl.PWild, 0, ""), impl.SortType: tcon("int")}
	fits := func(it []impl.Node) bool {
		program, _, _ := inProgram(it)
		return impl.SortOf(program) == impl.SortProgram
	}
	for sort, ways := range oneDeeper() {
		for _, way := range ways {
			it := deepest(leaves[sort], way, fits)
			program, _, _ := inProgram(it)
			checkDeclare(t, program)
			right := drawer{newDeclarer(1).rnd}.mended(program)
			got, _, _ := impl.Resolve(right)
			checkDeclare(t, got)
			if sort == impl.SortType {
				checkPlain(t, resolved(t, "type 'a t = 'a * 'a type y = int"), it)
			}
		}
	}
}

// Names as long as a source, told apart by their last byte.
func TestDeclareLongNames(t *testing.T) {
	long := strings.Repeat("n", impl.MaxSource-2)
	x, y, c := long+"x", long+"y", "C"+long
	program := programOf(dtype(x, tvars(x, y), ttuple(tvars(y, x)...)), made(impl.DData, 0, "", tbind(y, tvars(y), cbind(c, made(impl.TCon, 0, x, tvars(y)[0], tcon("int"))))))
	cons, code, _ := impl.Declare(program)
	if code != impl.DtOk || conShown(cons[11]) != c+" "+y+" 1 of (int, #1)" {
		t.Errorf("code %d", code)
	}
	if con, ok := impl.ConOf(program, c); !ok || con.Name != c {
		t.Error("the constructor is not found")
	}
	if _, ok := impl.ConOf(program, c+"x"); ok {
		t.Error("another one is found")
	}
}

// spoilCons writes over the lists of constructors but for one.
func spoilCons(cons []impl.Con, but int) {
	for i := range cons {
		if i != but {
			spoil(cons[i].Arg)
		}
	}
}

func TestDeclareMemory(t *testing.T) {
	for _, src := range []string{
		"type 'a d = 'a * 'a type i = int type 'a id = 'a datatype ('a, 'b) t = A of i | B of i | C of 'a id | D of 'a id | E of 'b d | F of ('a, 'b) t d | G exception X of i",
		"", "datatype t = A of t", "type t = " + typeSized(400),
	} {
		arg := roomy(resolved(t, src))
		before := whole(arg)
		first, _, _ := impl.Declare(arg)
		want := consShown(first)
		for k := range first {
			cons, _, _ := impl.Declare(arg)
			spoilCons(cons, k)
			if conShown(cons[k]) != want[k] {
				t.Errorf("%s shares memory", want[k])
			}
			con, ok := impl.ConOf(arg, first[k].Name)
			spoil(con.Arg)
			if !ok {
				t.Errorf("%s is not found", first[k].Name)
			}
		}
		if !slices.Equal(whole(arg), before) {
			t.Errorf("%s: was written into, or shares memory with an answer", src)
		}
		if again, _, _ := impl.Declare(arg); !slices.Equal(consShown(again), want) {
			t.Errorf("%s: answers otherwise the second time", src)
		}
		spoil(arg)
		if !slices.Equal(consShown(first), want) {
			t.Errorf("%s: the answer changes with the argument", src)
		}
	}
}

func TestPlainMemory(t *testing.T) {
	program := roomy(resolved(t, "type 'a d = 'a * 'a type i = int type 'a id = 'a datatype 'a t = A"))
	for _, src := range []string{"int", "'a", "i", "i id", "'a id", "'a d", "i t -> ('b * 'a) d", "unit", "nowhere", typeSized(400)} {
		ty := roomy(typeOf(t, src))
		before, program1 := whole(ty), whole(program)
		got, _ := impl.Plain(program, ty)
		kept := slices.Clone(got)
		spoil(got)
		again, _ := impl.Plain(program, ty)
		if !slices.Equal(whole(ty), before) || !slices.Equal(whole(program), program1) || !slices.Equal(again, kept) {
			t.Errorf("%s: an argument was written into, or an answer shares memory", src)
		}
		spoil(ty)
		if !slices.Equal(again, kept) {
			t.Errorf("%s: the answer changes with the argument", src)
		}
	}
}

// Maps are gone through in another order each time, and the answers stay.
func TestDeclareAnswersTheSame(t *testing.T) {
	for _, src := range []string{
		"datatype ('a, 'b) both = Both of 'a * 'b datatype p = P of (q, r) both and q = Q of s and r = R of q * s and s = S of int",
		"datatype t = B of u and a = A and u = C of u", "type a = int type b = a * a type c = b * a type d = c * b exception E of d",
	} {
		program := resolved(t, src)
		first, code, node := impl.Declare(program)
		for range 50 {
			again, c, n := impl.Declare(program)
			if c != code || n != node || !slices.Equal(consShown(again), consShown(first)) {
				t.Fatalf("%s: answers otherwise", src)
			}
		}
	}
}
