package tests

import (
	"strings"
	"testing"

	"loop.example/s02665/impl"
)

// leveled is a text and its level: what it has, or what the place in it, marked by "@", asks for.
type leveled struct {
	level int
	text  string
}

func atLevel(level int, texts ...string) []leveled {
	out := []leveled{}
	for _, text := range texts {
		out = append(out, leveled{level, text})
	}
	return out
}

func levelsOf(texts ...[]leveled) []leveled {
	out := []leveled{}
	for _, some := range texts {
		out = append(out, some...)
	}
	return out
}

// withOperators writes a text once for each operator, at the place of a "#".
func withOperators(operators string, texts ...string) []string {
	out := []string{}
	for _, op := range strings.Fields(operators) {
		for _, text := range texts {
			out = append(out, strings.ReplaceAll(text, "#", op))
		}
	}
	return out
}

const comparisons, sums, products = "= <> < <= > >=", "+ - ^", "* / %"

func expsByLevel() []leveled {
	return levelsOf(
		atLevel(0, "if a then b else c", "while a do b", "case a of b => c", "case a of b => c | d => e", "fn a => b", "fn a => b | c => d",
			"raise a", "raise a handle b => c", "if a then b else fn c => d", "while a do b handle c => d"),
		atLevel(1, "a handle b => c", "a handle b => c | d => e", "a orelse b handle c => d"),
		atLevel(2, "a orelse b", "a orelse b orelse c", "a orelse b andalso c"),
		atLevel(3, "a andalso b", "a andalso b andalso c"),
		atLevel(4, "a : t", "a : t : u", "a : t -> u", "a : t * u"),
		atLevel(5, "a := b", "a := b := c"),
		atLevel(6, withOperators(comparisons, "a # b", "a # b # c")...),
		atLevel(7, "a :: b", "a :: b :: c", "op :: :: op ::"),
		atLevel(8, withOperators(sums, "a # b", "a # b # c")...),
		atLevel(9, withOperators(products, "a # b", "a # b # c")...),
		atLevel(10, "a b", "a b c", "op :: a", "op :: (a, b, c)", "op :: ()", "~ a b", "A b", "~5 5"),
		atLevel(11, "~ a", "!a", "~ 5", "~ ~5", "!5", "!~5", "~ ~ a", "!!a", "~ !a", "!~ a", "~ (a b)"),
		atLevel(12, "a", "5", "~5", `"s"`, `"("`, "A", "true", "nil", "op ::", "()", "(a, b)", "(a, b, c)", "(a; b)", "(a; b; c)",
			"let val a = b in c end", "let fun f a = b in c end"),
	)
}

func expPlaces() []leveled {
	return levelsOf(
		atLevel(0, "@", "if @ then a else b", "if a then @ else b", "if a then b else @", "while @ do a", "while a do @", "raise @",
			"case @ of a => b", "case a of b => @", "case a of b => c | d => @", "fn a => @", "fn a => b | c => @", "a handle b => @", "a handle b => c | d => @",
			"(@, a)", "(a, @)", "(a, @, b)", "(@; a)", "(a; @)", "(a; @; b)", "let val a = b in @ end", "let val a = @ in b end",
			"let val a = @ val b = c in d end", "let fun f a = @ in b end", "let fun f a = b | f c = @ in d end", "let fun f a = @ and g b = c in d end"),
		atLevel(2, "case a of b => @ | c => d", "case a of b => c | d => @ | e => f", "fn a => @ | b => c", "fn a => b | c => @ | d => e",
			"a handle b => @ | c => d", "a handle b => c | d => @ | e => f", "@ handle a => b", "@ handle a => b | c => d",
			"let fun f a = @ | f b = c in d end", "let fun f a = b | f c = @ | f d = e in f end", "@ orelse a"),
		atLevel(3, "a orelse @", "@ andalso a"),
		atLevel(4, "a andalso @", "@ : t", "@ : t -> u"),
		atLevel(5, "@ := a"),
		atLevel(6, "a := @"),
		atLevel(6, withOperators(comparisons, "@ # a")...),
		atLevel(7, withOperators(comparisons, "a # @")...),
		atLevel(7, "a :: @", "a :: b :: @"),
		atLevel(8, "@ :: a", "a :: @ :: b"),
		atLevel(8, withOperators(sums, "@ # a")...),
		atLevel(9, withOperators(sums, "a # @")...),
		atLevel(9, withOperators(products, "@ # a")...),
		atLevel(10, withOperators(products, "a # @")...),
		atLevel(10, "@ a", "@ (a, b)", "@ ~5", "@ ~ 5"),
		atLevel(11, "a @", "a b @", "A @", "op :: @", "~ @", "!@", "!~ @", "a ~ @"),
	)
}

func patsByLevel() []leveled {
	return levelsOf(
		atLevel(0, "x as y", "x as y as z", "x as y : t", "x as y :: z"),
		atLevel(1, "x : t", "x : t : u", "x :: y : t", "x : t -> u", "(x as y) : t"),
		atLevel(2, "x :: y", "x :: y :: z", "A x :: B", "op :: :: nil", "(x : t) :: y"),
		atLevel(3, "A x", "op :: x", "nil x", "op :: (x, y, z)", "op :: ()", "A (B x)", "A (x, y)"),
		atLevel(4, "_", "x", "5", "~5", `"s"`, `")"`, "A", "true", "nil", "op ::", "()", "(x, y)", "(x as y, z : t, u :: v)"),
	)
}

func patPlaces() []leveled {
	return levelsOf(
		atLevel(0, "@", "x as @", "(@, x)", "(x, @)", "(x, @, y)"),
		atLevel(1, "@ : t"),
		atLevel(2, "x :: @", "x :: y :: @"),
		atLevel(3, "@ :: x", "x :: @ :: y"),
		atLevel(4, "A @", "op :: @", "true @"),
	)
}

func typesByLevel() []leveled {
	return levelsOf(
		atLevel(0, "a -> b", "a -> b -> c", "a * b -> c * d", "(a -> b) -> c"),
		atLevel(1, "a * b", "a * b * c", "(a -> b) * c", "(a * b) * unit"),
		atLevel(2, "'a", "unit", "a", "a b", "a b c", "'a b", "unit b", "(a, b) c", "(a -> b, c * d, e) f", "(a -> b) c", "(a * b) c"),
	)
}

func typePlaces() []leveled {
	return levelsOf(
		atLevel(0, "@", "a -> @", "(@, a) b", "(a, @) b", "(a, @, b) c"),
		atLevel(1, "@ -> a", "@ -> a -> b"),
		atLevel(2, "@ * a", "a * @", "a * @ * b", "@ a", "@ a b"),
	)
}

// becomesInfix is the one case in which a place looks at what stands there: op :: before a pair.
func becomesInfix(text string, place string) bool {
	return place == "op :: @" && isOneOf(text, "(a, b)", "(x, y)") || place == "@ (a, b)" && text == "op ::"
}

// checkPlaces puts every text into every place, in parentheses, and wants these to be printed where
// the text's level is below the place's. A house is a dec with a "@" where something of this sort stands.
func checkPlaces(t *testing.T, texts []leveled, places []leveled, houses ...string) {
	t.Helper()
	for _, house := range houses {
		for _, place := range places {
			for _, text := range texts {
				if becomesInfix(text.text, place.text) {
					continue
				}
				around := strings.Replace(house, "@", place.text, 1)
				inParens := strings.Replace(around, "@", "("+text.text+")", 1)
				want := inParens
				if text.level >= place.level {
					want = strings.Replace(around, "@", text.text, 1)
				}
				printsAs(t, inParens, want+"\n")
			}
		}
	}
}

func TestPrintLevelsOfExps(t *testing.T) {
	checkPlaces(t, expsByLevel(), expPlaces(), "val x = @")
	expPrints(t, "op :: ((a, b))", "a :: b")
	expPrints(t, "(op ::) (a, b)", "a :: b")
}

// In a dec only the last clause of a function leaves its exp as it is.
func TestPrintLevelsOfExpsInDecs(t *testing.T) {
	last := atLevel(0, "@")
	checkPlaces(t, expsByLevel(), last, "val x : t = @", "fun f x = @", "fun f x = a | f y = @", "fun f x = @ and g y = a", "fun f x = a and g y = @", "fun f x = a | f y = @ and g z = b")
	others := atLevel(2, "@")
	checkPlaces(t, expsByLevel(), others, "fun f x = @ | f y = a", "fun f x = a | f y = @ | f z = b", "fun f x = a and g y = @ | g z = b", "fun f x = @ | f y = a and g z = b")
}

func TestPrintLevelsOfPats(t *testing.T) {
	checkPlaces(t, patsByLevel(), patPlaces(), "val @ = 1")
	printsAs(t, "val op :: ((x, y)) = 1", "val x :: y = 1\n")
}

func TestPrintLevelsOfPatsInDecsAndMatches(t *testing.T) {
	free := atLevel(0, "@")
	checkPlaces(t, patsByLevel(), free, "val x = fn @ => a", "val x = fn @ => a | b => c", "val x = fn a => b | @ => c", "val x = case a of @ => b",
		"val x = case a of b => c | @ => d", "val x = a handle @ => b", "val x = a handle b => c | @ => d", "val x = let val @ = a in b end")
	applied := atLevel(4, "@")
	checkPlaces(t, patsByLevel(), applied, "fun f @ = a", "fun f @ a = b", "fun f a @ = b", "fun f a = b | f @ = c", "fun f a = b and g @ = c", "val x = let fun f @ = a in b end")
}

func TestPrintLevelsOfTypes(t *testing.T) {
	checkPlaces(t, typesByLevel(), typePlaces(), "type t = @", "type ('a, 'b) t = @", "exception E of @", "datatype t = A of @", "datatype t = A of @ | B of a and u = C",
		"val x : @ = 1", "val x = a : @", "val x = a : @ andalso b", "val x = fn a : @ => b", "fun f (a : @) = b", "val (a : @, b) = c")
}

// What stands at the right end of an exp may not take what stands behind it: here every exp ends a rule
// that is not the last, at the right end of every other, and each is read back as it was.
func TestPrintRightEnds(t *testing.T) {
	for _, place := range expPlaces() {
		for _, text := range expsByLevel() {
			inside := strings.Replace(place.text, "@", "("+text.text+")", 1)
			for _, house := range []string{"val x = fn p => (@) | q => r", "val x = case a of p => raise (@) | q => (@)", "fun f x = (@) | f y = (@)", "val x = (@) handle p => q"} {
				want := parsed(t, strings.ReplaceAll(house, "@", inside))
				text := impl.Print(want)
				if got := parsed(t, text); !impl.Same(got, want) {
					t.Fatalf("%s in %s is printed %s", inside, house, text)
				}
			}
		}
	}
}
