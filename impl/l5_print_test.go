package impl

import "testing"

// What is counted beforehand is what is written then: nothing has to be moved, and nothing is left.
func TestPagesAgree(t *testing.T) {
	for _, src := range []string{
		"",
		"val x = 1",
		"val x = (a + b) * c val y = !(f ~5) ~ 5",
		"fun f (x : t) = (case x of a => b) | f y = raise \"\\001\\n\" and g () = (a; (b, c))",
		"datatype ('a, 'b) t = A of ('a -> 'b) list | B exception E of unit",
		"val (a :: b, op :: c) = let val x = 1 in (x; [1, 2, 3]) end handle _ => \"a\\\"b\"",
	} {
		term, code, at := Parse(src)
		if code != ParseOk {
			t.Fatalf("%s: code %d at %d", src, code, at)
		}
		counted, written := &counting{}, &writing{}
		printTerm(counted, term)
		printTerm(written, term)
		if counted.size != written.out.Len() || written.out.String() != Print(term) {
			t.Errorf("%s: %d bytes are counted, %q is written", src, counted.size, written.out.String())
		}
	}
}
