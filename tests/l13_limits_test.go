package tests

import (
	"runtime"
	"slices"
	"strconv"
	"strings"
	"testing"
	"time"

	"loop.example/s02665/impl"
)

// runsSoon wants an answer soon, with all the fuel.
func runsSoon(t *testing.T, name string, c []impl.Node) impl.Outcome {
	t.Helper()
	o := impl.Outcome{}
	soon(t, name, func() { o = impl.Run(c, impl.MaxFuel) })
	if o.Kind == impl.RunArgs || o.Used > impl.MaxFuel || o.Kind == impl.RunFuel && o.Used < impl.MaxFuel {
		t.Errorf("%s: %s", name, outcomeShown(o))
	}
	return o
}

// sourceRuns is what a source does with all the fuel.
func sourceRuns(t *testing.T, src string) impl.Outcome {
	t.Helper()
	return runsSoon(t, src, checkDesugar(t, resolved(t, src)))
}

// Code as long and as deep as it may be.
func TestRunLongCode(t *testing.T) {
	for name, c := range deepCodes() {
		plain, _ := impl.Erase(c.c)
		o := runsSoon(t, name, plain)
		if c.code == impl.CkOk && o.Kind == impl.RunStuck {
			t.Errorf("%s has a type, and is stuck", name)
		}
		if want := runAgain(plain, impl.MaxFuel); o != want {
			t.Errorf("%s: %s, want %s", name, outcomeShown(o), outcomeShown(want))
		}
	}
}

// Recursion that waits for itself: each kind of code that can wait.
func TestRunDeepRecursion(t *testing.T) {
	for _, h := range holedCodes() {
		if len(h.fills) > 2 {
			continue
		}
		for hole := range h.fills {
			codes := slices.Clone(h.fills)
			codes[hole] = "CApp(CVar 40, CVar 41)"
			c, _ := codeOf(t, "CFix(CBnd 40(CLam 41("+h.filled(codes)+")), CApp(CVar 40, CInt 1))")
			if o := runsSoon(t, h.code, c); o != (impl.Outcome{Kind: impl.RunFuel, Used: impl.MaxFuel}) {
				t.Errorf("%s: %+v", h.code, o)
			}
		}
	}
	// It comes back from there.
	for src, want := range map[string]string{
		"fun f n = if n = 0 then 0 else 1 + f (n - 1) val x = f 6000":                                                            "((), fn, 6000)",
		"fun f n = if n = 0 then 0 else f (n - 1) val x = f 6000":                                                                "((), fn, 0)",
		"fun f n = if n = 0 then 0 else ~ (f (n - 1)) val x = f 6000":                                                            "((), fn, 0)",
		"fun f n = n = 0 orelse not (not (f (n - 1))) val x = f 4000":                                                            "((), fn, true)",
		"fun f n = if n = 0 then (0, 0) else case f (n - 1) of (a, b) => (b, a + 1) val x = f 3000":                              "((), fn, (1500, 1500))",
		"fun f n = if n = 0 then raise Div else 1 + f (n - 1) val x = f 5000 handle Div => 7":                                    "((), fn, 7)",
		"fun f n = if n = 0 then raise Div else f (n - 1) handle Chr => 7 val x = f 5000 handle Div => 8":                        "((), fn, 8)",
		"fun f n = if n = 0 then raise Div else f (n - 1) handle x => raise x val x = f 4000 handle Div => 9":                    "((), fn, 9)",
		"fun f n = (if n = 0 then raise Div else f (n - 1)) handle Div => n val x = f 5000":                                      "((), fn, 0)",
		"val r = ref 0 fun f n = (while !r < n do r := !r + 1; !r) val x = f 4000":                                               "((), ref, fn, 4000)",
		"fun f n = fn x => if n = 0 then x else f (n - 1) (x + 1) val x = f 4000 0":                                              "((), fn, 4000)",
		"fun f g n = if n = 0 then g 0 else f (fn x => g (x + 1)) (n - 1) val x = f (fn x => x) 3000":                            "((), fn, 3000)",
		"fun ev n = if n = 0 then true else od (n - 1) and od n = if n = 0 then false else ev (n - 1) val x = (ev 5000, od 500)": "((), fn, fn, (true, false))",
	} {
		if o := sourceRuns(t, src); o.Kind != impl.RunValue || o.Text != want {
			t.Errorf("%s: %s", src, outcomeShown(o))
		}
	}
}

// What is stuck or raises below as much as can wait: tries that let it go by.
func TestRunManyTries(t *testing.T) {
	for trouble, want := range map[string]impl.Outcome{`CRaise(CCon "E")`: {Kind: impl.RunRaise, Text: "E"}, "CVar 99": {Kind: impl.RunStuck}, forEver: {Kind: impl.RunFuel}, "CInt 5": {Text: "5"}} {
		for _, rule := range []string{`CRule(PCon "Other", CInt 1)`, `CRule(PCon "E"(PWild), CInt 1)`, `CRule(QVar 3, CRaise(CVar 3))`} {
			down := `CFix(CBnd 1(CLam 2(CCase "Match"(CVar 2, CRule(PInt 0, ` + trouble + `), CRule(PWild, CTry(CApp(CVar 1, CBin "-"(CVar 2, CInt 1)), ` + rule + `))))), CApp(CVar 1, CInt 9000))`
			c, _ := codeOf(t, down)
			if o := runsSoon(t, rule, c); o.Kind != want.Kind || o.Text != want.Text {
				t.Errorf("%s: %+v", down, o)
			}
		}
		tail, _ := codeOf(t, trouble)
		other, _ := codeOf(t, `CRule(PCon "Other", CInt 1)`)
		nest := slices.Concat(tail, slices.Repeat(append(other, node(impl.CTry, 0, "", 2)), 11000))
		if o := runsSoon(t, "tries in code", nest); o.Kind != want.Kind || o.Text != want.Text {
			t.Errorf("tries around %s: %+v", trouble, o)
		}
	}
}

func TestRunLongLists(t *testing.T) {
	front := "fun up n = if n = 0 then nil else n :: up (n - 1) "
	list := func(n int) string {
		parts := []string{}
		for i := range n {
			parts = append(parts, strconv.Itoa(n-i))
		}
		return strings.Join(parts, ", ")
	}
	cut := func(n int, left int) string {
		parts := []string{}
		for i := range n {
			if i < left {
				parts = append(parts, strconv.Itoa(n-i))
			} else {
				parts = append(parts, "...")
			}
		}
		return "[" + strings.Join(parts, ", ") + "]"
	}
	for src, want := range map[string]string{
		"val l = up 200":  "((), fn, [" + list(200) + "])",
		"val l = up 296":  "((), fn, " + cut(296, 296) + ")",
		"val l = up 297":  "((), fn, " + cut(297, 296) + ")",
		"val l = up 5500": "((), fn, " + cut(5500, 296) + ")",
		"fun len nil = 0 | len (_ :: l) = 1 + len l val n = len (up 3000)":                                       "((), fn, fn, 3000)",
		"fun rev nil a = a | rev (x :: l) a = rev l (x :: a) fun hd (x :: _) = x val n = hd (rev (up 2500) nil)": "((), fn, fn, fn, 1)",
		"val l = up 1000 val b = (l = l, l = up 1000, l <> up 999)":                                              "((), fn, " + cut(1000, 296) + ", ...)",
		"val b = (up 1000 = up 1000, up 1000 = 1 :: up 1000, up 5 <> up 4)":                                      "((), fn, (true, false, true))",
		"val b = case up 5000 of _ :: _ :: x :: _ => x | _ => 0":                                                 "((), fn, 4998)",
	} {
		if o := sourceRuns(t, front+src); o.Kind != impl.RunValue || o.Text != want {
			t.Errorf("%s: %s", src, outcomeShown(o))
		}
	}
	// Lists inside one another, all of them long behind: each has its "..."s.
	o := sourceRuns(t, "datatype t = L of t list | N fun up n = if n = 0 then nil else N :: up (n - 1) val big = up 3000 fun nest n = if n = 0 then N else L (nest (n - 1) :: big) val x = (nest 140 : t)")
	if o.Kind != impl.RunValue || strings.Count(o.Text, "...") < 1000 || len(o.Text) > 1<<25 {
		t.Errorf("%d bytes: %s", len(o.Text), outcomeShown(o))
	}
	c, _ := codeOf(t, `CLet 1(CFix(CBnd 2(CLam 3(CCase "Match"(CVar 3, CRule(PInt 0, CCon "nil"), CRule(PWild, CApp(CCon "::", CTuple(CInt 1, CApp(CVar 2, CBin "-"(CVar 3, CInt 1)))))))), CApp(CVar 2, CInt 3000)),
		CFix(CBnd 2(CLam 3(CCase "Match"(CVar 3, CRule(PInt 0, CVar 1), CRule(PWild, CApp(CCon "::", CTuple(CApp(CVar 2, CBin "-"(CVar 3, CInt 1)), CVar 1)))))), CApp(CVar 2, CInt 400)))`)
	o = runsSoon(t, "lists in lists", c)
	if want := strings.Repeat("[", impl.MaxShow) + "..." + strings.Repeat(strings.Repeat(", ...", 3000)+"]", impl.MaxShow); o.Text != want {
		t.Errorf("%d bytes, want %d: %s", len(o.Text), len(want), outcomeShown(o))
	}
	// A long one that does not end with nil.
	c, _ = codeOf(t, `CFix(CBnd 2(CLam 3(CCase "Match"(CVar 3, CRule(PInt 0, CInt 7), CRule(PWild, CApp(CCon "::", CTuple(CInt 1, CApp(CVar 2, CBin "-"(CVar 3, CInt 1)))))))), CApp(CVar 2, CInt 8000))`)
	if o := runsSoon(t, "no list", c); o.Text != strings.Repeat("op :: (1, ", 100)+"..."+strings.Repeat(")", 100) {
		t.Errorf("%s", outcomeShown(o))
	}
}

// Values that are large, and shared: what is shown and compared stays within bounds.
func TestRunLargeValues(t *testing.T) {
	wide := slices.Concat(slices.Repeat(unplaced(impl.CInt, 1, ""), impl.MaxCode-1), []impl.Node{node(impl.CTuple, 0, "", impl.MaxCode-1)})
	if o := runsSoon(t, "a wide tuple", wide); o.Text != "("+strings.Repeat("1, ", 299)+strings.Repeat("..., ", impl.MaxCode-301)+"...)" || o.Used != impl.MaxCode {
		t.Errorf("%s", outcomeShown(o))
	}
	for src, want := range map[string]string{
		"datatype t = P of t * t | L fun d n x = if n = 0 then x else d (n - 1) (P (x, x)) val x = d 3000 L":           "value",
		"datatype t = P of t * t | L fun d n x = if n = 0 then x else d (n - 1) (P (x, x)) val x = d 60 L = d 60 L":    "fuel",
		"datatype t = P of t * t | L fun d n x = if n = 0 then x else d (n - 1) (P (x, x)) val x = d 1000 L = d 999 L": "value",
		"datatype t = S of t | Z fun d n x = if n = 0 then x else d (n - 1) (S x) val x = d 2000 Z = d 2000 Z":         "value",
		"fun d n x = if n = 0 then x else d (n - 1) (x ^ x) val x = d 9 \"ab\" ^ \"\"":                                 "raise",
		"datatype t = R of t ref | E val r = ref E val _ = r := R r val x = (r, !r, !r = !r, R r = !r)":                "value",
	} {
		o := sourceRuns(t, src)
		if got := []string{"value", "raise", "fuel", "stuck"}[o.Kind]; got != want {
			t.Errorf("%s: %s", src, outcomeShown(o))
		}
	}
	// A binder far outside, looked for as often as there is fuel.
	loop, _ := codeOf(t, `CFix(CBnd 1(CLam 2(CApp(CVar 1, CVar 30))), CApp(CVar 1, CInt 0))`)
	lets := slices.Concat(slices.Repeat(unplaced(impl.CInt, 1, ""), 25000), loop)
	for i := range 25000 {
		lets = append(lets, node(impl.CLet, int64(25010-i), "", 2))
	}
	if o := runsSoon(t, "many lets", lets); o.Kind != impl.RunFuel {
		t.Errorf("%+v", o)
	}
	// A CFix with many functions, made anew as often as there is fuel.
	bnd := slices.Concat(unplaced(impl.CInt, 1, ""), []impl.Node{node(impl.CLam, 9, "", 1), node(impl.CBnd, 8, "", 1)})
	many := slices.Concat(slices.Repeat(bnd, 19000), cvar(8), []impl.Node{node(impl.CFix, 0, "", 19001)})
	c := slices.Concat(unplaced(impl.CCon, 0, "true"), many, []impl.Node{node(impl.CWhile, 0, "", 2)})
	if o := runsSoon(t, "many functions", c); o.Kind != impl.RunFuel {
		t.Errorf("%+v", o)
	}
}

// Long patterns and many rules, tried again and again.
func TestRunLongPatterns(t *testing.T) {
	one, wild, rule := unplaced(impl.CInt, 1, ""), wildPat[0], node(impl.CRule, 0, "", 2)
	deep := 14000
	pat := slices.Concat(slices.Repeat([]impl.Node{wild}, deep), wildPat, slices.Repeat([]impl.Node{node(impl.PTuple, 0, "", 2), node(impl.PCon, 0, "::", 1)}, deep))
	list := slices.Concat(slices.Repeat([]impl.Node{node(impl.CCon, 0, "::", 0), one[0]}, 10), unplaced(impl.CCon, 0, "nil"), slices.Repeat([]impl.Node{node(impl.CTuple, 0, "", 2), node(impl.CApp, 0, "", 2)}, 10))
	for name, c := range map[string]struct {
		c    []impl.Node
		want string
	}{
		"a deep pattern":           {ccase("Match", list, crule(pat, one), crule(wildPat, list)), "[1, 1, 1, 1, 1, 1, 1, 1, 1, 1]"},
		"many rules":               {slices.Concat(one, slices.Repeat([]impl.Node{node(impl.PInt, 2, "", 0), one[0], rule}, 15000), crule(wildPat, list), []impl.Node{node(impl.CCase, 0, "Match", 15002)}), "[1, 1, 1, 1, 1, 1, 1, 1, 1, 1]"},
		"names inside one another": {ccase("Match", one, crule(append(wrapped(20000, []impl.Node{node(impl.QVar, 1, "", 0)}, node(impl.QAs, 1, "", 1)), node(impl.QAs, 2, "", 1)), cvar(2))), "1"},
		"a handler":                {slices.Concat(unplaced(impl.CRaise, 0, "", unplaced(impl.CCon, 0, "E")), slices.Repeat([]impl.Node{node(impl.PCon, 0, "F", 0), one[0], rule}, 15000), crule(wildPat, one), []impl.Node{node(impl.CTry, 0, "", 15002)}), "1"},
	} {
		if o := runsSoon(t, name, c.c); o.Kind != impl.RunValue || o.Text != c.want {
			t.Errorf("%s: %s", name, outcomeShown(o))
		}
	}
}

// Nothing that is handed in is changed.
func TestRunMemory(t *testing.T) {
	for _, code := range []string{
		"CInt 1", `CApp(CGiven -1, CStr "a")`, "CVar 1", `CLet 1(CApp(CGiven -8, CInt 1), CTuple(CBin ":="(CVar 1, CInt 2), CUn "!"(CVar 1)))`, `CTry(CRaise(CCon "A"), CRule(QAs 1(QVar 2), CTuple(CVar 1, CVar 2)))`, forEver,
		`CCase "Match"(CTuple(CInt 1, CInt 2), CRule(PTuple(QVar 1, QVar 1), CBin "="(CVar 1, CVar 1)))`, "CTuple(CInt 1)",
	} {
		c, _ := codeOf(t, code)
		arguments := &kept{}
		it := arguments.roomy(c)
		first := impl.Run(it, 200)
		if !arguments.stay() {
			t.Errorf("%s was written into", code)
		}
		// A call knows nothing of another.
		for range 3 {
			impl.Run(unplaced(impl.CApp, 0, "", unplaced(impl.CGiven, -1, ""), unplaced(impl.CStr, 0, "noise")), 50)
			if again := impl.Run(it, 200); again != first {
				t.Errorf("%s: %+v and %+v", code, first, again)
			}
		}
		arguments.spoil()
		if first != runAgain(c, 200) {
			t.Errorf("%s: the answer changes with the argument", code)
		}
	}
}

// Several calls at the same time do not know of each other.
func TestRunAtTheSameTime(t *testing.T) {
	codes := []string{`CWhile(CCon "true", CApp(CGiven -1, CStr "ab"))`, `CWhile(CCon "true", CApp(CGiven -1, CStr "xyz"))`, forEver, `CTuple(CApp(CGiven -1, CStr "one"), CRaise(CCon "E"))`, "CVar 1"}
	answers := make(chan bool)
	for _, code := range codes {
		c, _ := codeOf(t, code)
		want := runAgain(c, 5000)
		for range 8 {
			go func() {
				same := true
				for range 5 {
					same = same && impl.Run(c, 5000) == want
				}
				answers <- same
			}()
		}
	}
	for range 8 * len(codes) {
		if !<-answers {
			t.Error("calls at the same time answer otherwise")
		}
	}
}

// All goroutines have ended when a call answers, however it ends.
func TestRunLeavesNoGoroutine(t *testing.T) {
	before := runtime.NumGoroutine()
	for _, code := range []string{"CInt 1", `CApp(CGiven -1, CStr "a")`, "CVar 1", forEver, `CRaise(CCon "A")`, "CTuple(CInt 1)", `CTuple(CApp(CGiven -1, CStr "a"), CVar 1)`, `CTuple(CApp(CGiven -1, CStr "a"), CRaise(CCon "A"))`} {
		c, _ := codeOf(t, code)
		for fuel := range 60 {
			impl.Run(c, fuel-1)
		}
	}
	noneLeft(t, before)
}

// noneLeft wants no more goroutines than there were. One that has said that it is done may still be on
// its last way.
func noneLeft(t *testing.T, before int) {
	t.Helper()
	for range 200 {
		if runtime.NumGoroutine() <= before {
			return
		}
		time.Sleep(5 * time.Millisecond)
	}
	t.Errorf("%d goroutines, %d before", runtime.NumGoroutine(), before)
}
