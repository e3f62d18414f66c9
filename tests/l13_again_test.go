package tests

import (
	"fmt"
	"math"
	"math/big"
	"slices"
	"strconv"
	"strings"
	"testing"

	"loop.example/s02665/impl"
)

// toldValue is a value: int, string, tuple, con, closure, given or ref. A constructor with a value and
// a reference have it as their one part.
type toldValue struct {
	sort  string
	num   int64
	text  string
	parts []*toldValue
	code  int // of a closure, the node of its CLam
	env   *toldEnv
}

// toldEnv is a binder with its value, and what is around it.
type toldEnv struct {
	num int64
	its *toldValue
	up  *toldEnv
}

// toldEnd is how an evaluation ends, and with what.
type toldEnd struct {
	kind int
	its  *toldValue
}

// runTeller tells chapter 13 again: every evaluation answers how it ends, binders are looked for by
// their numbers, and nothing is thrown.
type runTeller struct {
	u    tree
	left int
	out  string
}

// runAgain is what Run is to answer.
func runAgain(c []impl.Node, fuel int) impl.Outcome {
	if fuel < 0 || fuel > impl.MaxFuel || !plainFormAgain(c) {
		return impl.Outcome{Kind: impl.RunArgs}
	}
	r := &runTeller{u: treeOf(c), left: fuel}
	end := r.eval(len(c)-1, nil)
	o := impl.Outcome{Kind: end.kind, Out: r.out, Used: fuel - r.left}
	if isOneOf(end.kind, impl.RunValue, impl.RunRaise) {
		s := &showTeller{}
		o.Text = s.show(end.its)
	}
	return o
}

func gives(its *toldValue) toldEnd {
	return toldEnd{impl.RunValue, its}
}

func raises(name string) toldEnd {
	return toldEnd{impl.RunRaise, toldCon(name)}
}

var toldStuck = toldEnd{impl.RunStuck, nil}

func toldInt(num int64) *toldValue { return &toldValue{sort: "int", num: num} }

func toldStr(text string) *toldValue { return &toldValue{sort: "string", text: text} }

func toldTuple(parts ...*toldValue) *toldValue { return &toldValue{sort: "tuple", parts: parts} }

func toldCon(name string, parts ...*toldValue) *toldValue {
	return &toldValue{sort: "con", text: name, parts: parts}
}

func toldBool(is bool) *toldValue {
	return toldCon(strconv.FormatBool(is))
}

// isTruth is whether a value is the constructor true or false.
func (v *toldValue) isTruth() bool {
	return v.sort == "con" && len(v.parts) == 0 && isOneOf(v.text, "true", "false")
}

func (r *runTeller) burn() bool {
	if r.left == 0 {
		return false
	}
	r.left--
	return true
}

// all evaluates kids from the left, up to the first that has no value.
func (r *runTeller) all(kids []int, env *toldEnv) ([]*toldValue, toldEnd) {
	out := []*toldValue{}
	for _, kid := range kids {
		end := r.eval(kid, env)
		if end.kind != impl.RunValue {
			return nil, end
		}
		out = append(out, end.its)
	}
	return out, toldEnd{}
}

func (r *runTeller) eval(i int, env *toldEnv) toldEnd {
	if !r.burn() {
		return toldEnd{impl.RunFuel, nil}
	}
	n, kids := r.u.t[i], r.u.kids[i]
	switch n.Kind {
	case impl.CVar:
		for e := env; e != nil; e = e.up {
			if e.num == n.Num {
				return gives(e.its)
			}
		}
		return toldStuck
	case impl.CGiven:
		return gives(&toldValue{sort: "given", num: n.Num})
	case impl.CInt:
		return gives(toldInt(n.Num))
	case impl.CStr:
		return gives(toldStr(n.Text))
	case impl.CCon:
		return gives(toldCon(n.Text))
	case impl.CLam:
		return gives(&toldValue{sort: "closure", code: i, env: env})
	case impl.CFix:
		return r.fix(kids, env)
	case impl.CTry:
		end := r.eval(kids[0], env)
		if end.kind != impl.RunRaise {
			return end
		}
		return r.rules(kids[1:], end.its, env, end)
	case impl.CWhile:
		return r.while(kids, env)
	}
	if isOneOf(n.Kind, impl.CLet, impl.CCase) {
		end := r.eval(kids[0], env)
		if end.kind != impl.RunValue {
			return end
		}
		if n.Kind == impl.CLet {
			return r.eval(kids[1], &toldEnv{n.Num, end.its, env})
		}
		return r.rules(kids[1:], end.its, env, raises(n.Text))
	}
	values, end := r.all(kids, env)
	if end.kind != impl.RunValue {
		return end
	}
	return r.done(n, values)
}

// done is what a code is when all its kids have values.
func (r *runTeller) done(n impl.Node, values []*toldValue) toldEnd {
	switch {
	case n.Kind == impl.CTuple:
		return gives(toldTuple(values...))
	case n.Kind == impl.CApp:
		return r.apply(values[0], values[1])
	case n.Kind == impl.CRaise && values[0].sort == "con":
		return toldEnd{impl.RunRaise, values[0]}
	case n.Kind == impl.CUn && n.Text == "~" && values[0].sort == "int":
		return gives(toldInt(wrapping(new(big.Int).Neg(big.NewInt(values[0].num)))))
	case n.Kind == impl.CUn && n.Text == "!" && values[0].sort == "ref":
		return gives(values[0].parts[0])
	case n.Kind == impl.CBin:
		return r.operator(n.Text, values[0], values[1])
	}
	return toldStuck
}

func (r *runTeller) fix(kids []int, env *toldEnv) toldEnd {
	bnds, last := kids[:len(kids)-1], kids[len(kids)-1]
	for _, bnd := range bnds {
		lam := r.u.kids[bnd][0]
		if r.u.t[lam].Kind != impl.CLam {
			return toldStuck
		}
		env = &toldEnv{r.u.t[bnd].Num, &toldValue{sort: "closure", code: lam}, env}
	}
	for e, k := env, 0; k < len(bnds); e, k = e.up, k+1 {
		e.its.env = env
	}
	return r.eval(last, env)
}

func (r *runTeller) rules(rules []int, its *toldValue, env *toldEnv, otherwise toldEnd) toldEnd {
	for _, rule := range rules {
		parts := r.u.kids[rule]
		if inside, fits := r.fits(parts[0], its, env); fits {
			return r.eval(parts[1], inside)
		}
	}
	return otherwise
}

func (r *runTeller) fits(i int, its *toldValue, env *toldEnv) (*toldEnv, bool) {
	n, kids := r.u.t[i], r.u.kids[i]
	inside := []*toldValue{}
	switch n.Kind {
	case impl.PWild:
		return env, true
	case impl.QVar, impl.QAs:
		env = &toldEnv{n.Num, its, env}
		if n.Kind == impl.QAs {
			inside = []*toldValue{its}
		}
	case impl.PInt:
		return env, its.sort == "int" && its.num == n.Num
	case impl.PStr:
		return env, its.sort == "string" && its.text == n.Text
	case impl.PTuple:
		if its.sort != "tuple" {
			return env, false
		}
		inside = its.parts
	case impl.PCon:
		if its.sort != "con" || its.text != n.Text {
			return env, false
		}
		inside = its.parts
	}
	if len(inside) != len(kids) {
		return env, false
	}
	for k, kid := range kids {
		next, fits := r.fits(kid, inside[k], env)
		if !fits {
			return env, false
		}
		env = next
	}
	return env, true
}

func (r *runTeller) while(kids []int, env *toldEnv) toldEnd {
	for {
		test := r.eval(kids[0], env)
		if test.kind != impl.RunValue {
			return test
		}
		if !test.its.isTruth() {
			return toldStuck
		}
		if test.its.text == "false" {
			return gives(toldTuple())
		}
		if end := r.eval(kids[1], env); end.kind != impl.RunValue {
			return end
		}
	}
}

// wrapping is the number of 64 bits that a whole number wraps to.
func wrapping(whole *big.Int) int64 {
	low := new(big.Int).And(whole, new(big.Int).SetUint64(math.MaxUint64))
	return int64(low.Uint64())
}

func (r *runTeller) operator(op string, a *toldValue, b *toldValue) toldEnd {
	both := func(sort string) bool { return a.sort == sort && b.sort == sort }
	x, y, z := big.NewInt(a.num), big.NewInt(b.num), new(big.Int)
	switch {
	case isOneOf(op, "=", "<>"):
		same, end := r.compare(a, b)
		if end.kind != impl.RunValue {
			return end
		}
		return gives(toldBool(same == (op == "=")))
	case op == ":=" && a.sort == "ref":
		a.parts[0] = b
		return gives(toldTuple())
	case op == "^" && both("string"):
		if len(a.text+b.text) > impl.MaxString {
			return raises("Size")
		}
		return gives(toldStr(a.text + b.text))
	case isOneOf(op, "<", "<=", ">", ">=") && both("int"):
		order := x.Cmp(y)
		return gives(toldBool(map[string]bool{"<": order < 0, "<=": order <= 0, ">": order > 0, ">=": order >= 0}[op]))
	case isOneOf(op, "/", "%") && both("int") && b.num == 0:
		return raises("Div")
	case op == "/" && both("int"):
		return gives(toldInt(wrapping(z.Quo(x, y))))
	case op == "%" && both("int"):
		return gives(toldInt(wrapping(z.Rem(x, y))))
	case op == "+" && both("int"):
		return gives(toldInt(wrapping(z.Add(x, y))))
	case op == "-" && both("int"):
		return gives(toldInt(wrapping(z.Sub(x, y))))
	case op == "*" && both("int"):
		return gives(toldInt(wrapping(z.Mul(x, y))))
	}
	return toldStuck
}

// compare answers whether both are the same, if the end is that there is a value.
func (r *runTeller) compare(a *toldValue, b *toldValue) (bool, toldEnd) {
	if !r.burn() {
		return false, toldEnd{impl.RunFuel, nil}
	}
	function := func(v *toldValue) bool { return isOneOf(v.sort, "closure", "given") }
	switch {
	case function(a) || function(b):
		return false, raises("Equal")
	case a.sort != b.sort || a.sort == "tuple" && len(a.parts) != len(b.parts):
		return false, toldStuck
	case a.sort == "ref":
		return a == b, toldEnd{}
	case a.num != b.num || a.text != b.text || len(a.parts) != len(b.parts):
		return false, toldEnd{}
	}
	for k := range a.parts {
		if same, end := r.compare(a.parts[k], b.parts[k]); !same {
			return false, end
		}
	}
	return true, toldEnd{}
}

func (r *runTeller) apply(f *toldValue, arg *toldValue) toldEnd {
	switch {
	case f.sort == "closure":
		return r.eval(r.u.kids[f.code][0], &toldEnv{r.u.t[f.code].Num, arg, f.env})
	case f.sort == "con" && len(f.parts) == 0:
		return gives(toldCon(f.text, arg))
	case f.sort == "given":
		return r.give(f.num, arg)
	}
	return toldStuck
}

func (r *runTeller) give(num int64, arg *toldValue) toldEnd {
	// sorts are those of the parts of a tuple
	sorts := ""
	if arg.sort == "tuple" {
		for _, part := range arg.parts {
			sorts += part.sort + " "
		}
	}
	switch {
	case num == -1 && arg.sort == "string":
		if len(r.out)+len(arg.text) > impl.MaxOut {
			return raises("Size")
		}
		r.out += arg.text
		return gives(toldTuple())
	case num == -2 && arg.sort == "string":
		return gives(toldInt(int64(len(arg.text))))
	case num == -3 && sorts == "string int ":
		text, i := arg.parts[0].text, arg.parts[1].num
		if i < 0 || i >= int64(len(text)) {
			return raises("Subscript")
		}
		return gives(toldInt(int64(text[i])))
	case num == -4 && sorts == "string int int ":
		text, i, n := arg.parts[0].text, arg.parts[1].num, arg.parts[2].num
		end := new(big.Int).Add(big.NewInt(i), big.NewInt(n))
		if i < 0 || n < 0 || end.Cmp(big.NewInt(int64(len(text)))) > 0 {
			return raises("Subscript")
		}
		return gives(toldStr(text[i:][:n]))
	case num == -5 && arg.sort == "int":
		if arg.num < 0 || arg.num > 255 {
			return raises("Chr")
		}
		return gives(toldStr(string([]byte{byte(arg.num)})))
	case num == -6 && arg.sort == "int":
		return gives(toldStr(toldNumber(arg.num)))
	case num == -7 && arg.isTruth():
		return gives(toldBool(arg.text == "false"))
	case num == -8:
		return gives(&toldValue{sort: "ref", parts: []*toldValue{arg}})
	}
	return toldStuck
}

func toldNumber(num int64) string {
	return strings.ReplaceAll(strconv.FormatInt(num, 10), "-", "~")
}

// showTeller shows values, and counts them.
type showTeller struct {
	count int
}

// listed are the parts of a list, and nil if a value is none.
func (v *toldValue) listed() []*toldValue {
	parts := []*toldValue{}
	for v.sort == "con" && v.text == "::" && len(v.parts) == 1 {
		pair := v.parts[0]
		if pair.sort != "tuple" || len(pair.parts) != 2 {
			return nil
		}
		parts = append(parts, pair.parts[0])
		v = pair.parts[1]
	}
	if v.sort != "con" || v.text != "nil" || len(v.parts) > 0 {
		return nil
	}
	return parts
}

func (s *showTeller) all(values []*toldValue) string {
	out := []string{}
	for _, v := range values {
		out = append(out, s.show(v))
	}
	return strings.Join(out, ", ")
}

func (s *showTeller) show(v *toldValue) string {
	if s.count == impl.MaxShow {
		return "..."
	}
	s.count++
	list := v.listed()
	switch {
	case v.sort == "int":
		return toldNumber(v.num)
	case v.sort == "string":
		return toldQuoted(v.text)
	case v.sort == "tuple":
		return "(" + s.all(v.parts) + ")"
	case v.sort == "ref":
		return "ref"
	case v.sort != "con":
		return "fn"
	case list != nil:
		return "[" + s.all(list) + "]"
	}
	name := v.text
	if name == "::" {
		name = "op ::"
	}
	if len(v.parts) == 0 {
		return name
	}
	arg := v.parts[0]
	inside := s.show(arg)
	if arg.sort == "int" && arg.num < 0 || arg.sort == "con" && len(arg.parts) == 1 && arg.listed() == nil {
		inside = "(" + inside + ")"
	}
	return name + " " + inside
}

// toldQuoted is a string as Print has it, byte by byte.
func toldQuoted(text string) string {
	out := ""
	for _, b := range []byte(text) {
		switch {
		case b == '\n':
			out += `\n`
		case b == '\t':
			out += `\t`
		case b == '"' || b == '\\':
			out += `\` + string([]byte{b})
		case b < 32 || b > 126:
			out += `\` + strconv.Itoa(int(b) + 1000)[1:]
		default:
			out += string([]byte{b})
		}
	}
	return `"` + out + `"`
}

// checkRun holds Run against the chapter told again.
func checkRun(t *testing.T, c []impl.Node, fuel int) impl.Outcome {
	t.Helper()
	got, want := impl.Run(c, fuel), runAgain(c, fuel)
	if got != want {
		t.Fatalf("%s\nwith %d: %s\nwant %s", codeShown(c), fuel, outcomeShown(got), outcomeShown(want))
	}
	return got
}

// checkEnd holds code that ends against promise 17: just as much fuel as it uses does, one less does
// not, and more changes nothing.
func checkEnd(t *testing.T, c []impl.Node) impl.Outcome {
	t.Helper()
	o := checkRun(t, c, impl.MaxFuel)
	if o.Kind == impl.RunFuel {
		return o
	}
	for _, more := range []int{0, 1, 7, 1000} {
		if got := impl.Run(c, min(o.Used+more, impl.MaxFuel)); got != o {
			t.Fatalf("%s\nwith %d and %d more: %s, want %s", codeShown(c), o.Used, more, outcomeShown(got), outcomeShown(o))
		}
	}
	less := checkRun(t, c, o.Used-1)
	if less.Kind != impl.RunFuel || less.Used != o.Used-1 || less.Text != "" || !strings.HasPrefix(o.Out, less.Out) {
		t.Fatalf("%s\nwith one less: %s", codeShown(c), outcomeShown(less))
	}
	return o
}

// endsAs wants of code that it ends so.
func endsAs(t *testing.T, code string, want impl.Outcome) {
	t.Helper()
	c, _ := codeOf(t, code)
	if !impl.PlainForm(c) {
		t.Fatalf("%s is not in plain form", code)
	}
	if got := checkEnd(t, c); got != want {
		t.Errorf("%s\n%s\nwant %s", code, outcomeShown(got), outcomeShown(want))
	}
}

// outcomeShown is an outcome without most of long texts.
func outcomeShown(o impl.Outcome) string {
	return fmt.Sprintf("kind %d, %.300q with output %.100q, used %d", o.Kind, o.Text, o.Out, o.Used)
}

func givesText(t *testing.T, code string, text string, used int) {
	t.Helper()
	endsAs(t, code, impl.Outcome{Kind: impl.RunValue, Text: text, Used: used})
}

func raisesText(t *testing.T, code string, text string, used int) {
	t.Helper()
	endsAs(t, code, impl.Outcome{Kind: impl.RunRaise, Text: text, Used: used})
}

func isStuck(t *testing.T, code string, used int) {
	t.Helper()
	endsAs(t, code, impl.Outcome{Kind: impl.RunStuck, Used: used})
}

// The teller itself, by hand.
func TestRunTeller(t *testing.T) {
	for num, want := range map[string]int64{"9223372036854775808": math.MinInt64, "-9223372036854775809": math.MaxInt64, "18446744073709551615": -1, "-5": -5, "7": 7} {
		whole, _ := new(big.Int).SetString(num, 10)
		if got := wrapping(whole); got != want {
			t.Errorf("%s wraps to %d", num, got)
		}
	}
	one, nothing := toldInt(1), toldCon("nil")
	list := toldCon("::", toldTuple(one, toldCon("::", toldTuple(toldInt(-2), nothing))))
	for text, v := range map[string]*toldValue{
		"[1, ~2]": list, "[]": nothing, "op :: 1": toldCon("::", one), "op :: (1, 1)": toldCon("::", toldTuple(one, one)), "A (B 1)": toldCon("A", toldCon("B", one)), "A [1, ~2]": toldCon("A", list),
		"A (~2)": toldCon("A", toldInt(-2)), "A B": toldCon("A", toldCon("B")), "A (1, ())": toldCon("A", toldTuple(one, toldTuple())), `"\\\"\n\t\000\255 ~"`: toldStr("\\\"\n\t\x00\xff ~"),
	} {
		if got := (&showTeller{}).show(v); got != text {
			t.Errorf("%s, want %s", got, text)
		}
	}
	if !slices.Equal(list.listed(), []*toldValue{one, list.parts[0].parts[1].parts[0].parts[0]}) {
		t.Error("the parts of a list")
	}
}
