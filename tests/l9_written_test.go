package tests

import (
	"testing"

	"loop.example/s02665/impl"
)

func TestTypesWritten(t *testing.T) {
	bindersAre(t, "val x : int = 1", "x: int")
	bindersAre(t, "val (x : int, y : 'a) = (1, true)", "x: int", "y: bool")
	bindersAre(t, "fun f (x : int list) = x", "x: list(int)", "f: [list(int), list(int)]")
	bindersAre(t, "fun f x = (x : int * string -> unit)", "x: [(int, string), ()]", "f: [[(int, string), ()], [(int, string), ()]]")
	bindersAre(t, "fun f (x as (y : int)) = x", "y: int", "x: int", "f: [int, int]")
	bindersAre(t, "fun f ((x, y) : 'a * ('b -> 'a)) = (x : int)", "x: int", "y: [#1, int]", "f 1 from 1: [(int, [#1, int]), int]")
	bindersAre(t, "val f = fn x : int ref => !x", "f: [ref(int), int]", "x: ref(int)")
	// What is written tells more of a type, it never hides anything of it.
	bindersAre(t, "val x = (1 : 'a)", "x: int")
	bindersAre(t, "val x = (nil : 'a)", "x 1 from 1: list(#1)")
	bindersAre(t, "val x : 'a list = nil", "x: list(())")
	clashAt(t, "val x : int list = [true]", impl.DVal, "", 1)
	clashAt(t, "fun f (x : bool) = x + 1", impl.EBin, "+", 1)
	clashAt(t, "fun f x = (x + 1 : bool)", impl.EType, "", 1)
	clashAt(t, "val x = fn y => (y : int, y : bool)", impl.EType, "", 2)
}

func TestTypesAbbreviated(t *testing.T) {
	front := "type 'a two = 'a * 'a type num = int type ('a, 'b) turn = 'b -> 'a type 'a none = unit type deep = num two two "
	schemesAre(t, front+"fun f (x : int two) = case x of (a, 1) => a | (_, b) => b", "f", "int * int -> int")
	bindersAre(t, front+"fun f (x : 'a two, y : num) = x", "x: (#1, #1)", "y: int", "f 1 from 1: [((#1, #1), int), (#1, #1)]")
	bindersAre(t, front+"val x : deep = ((1, 2), (3, 4))", "x: ((int, int), (int, int))")
	bindersAre(t, front+"fun f (g : (num, 'b) turn) = g true", "g: [bool, int]", "f: [[bool, int], int]")
	bindersAre(t, front+"fun f (x : 'a none) = (() : 'b none)", "x: ()", "f: [(), ()]")
	bindersAre(t, front+"datatype t = A of num two fun f (A x) = x", "x: (int, int)", "f: [t, (int, int)]")
	clashAt(t, front+"val x : int two = (1, true)", impl.DVal, "", 1)
	clashAt(t, front+"val x = (1, true) : 'a two", impl.EType, "", 1)
	clashAt(t, front+"fun f (g : (num, 'b) turn) = (g true, g 1)", impl.EApp, "", 2)
	// A type that an abbreviation drops tells nothing, so its TVars are nobody's.
	bindersAre(t, front+"fun f (x : 'a none) (y : 'a) (z : 'b none) = y", "x: ()", "y: #1", "z: ()", "f 1 from 1: [(), [#1, [(), #1]]]")
}

// A type variable is the same everywhere in a dec of the program, and another in the next one.
func TestTypeVariables(t *testing.T) {
	schemesAre(t, "fun f (x : 'a) (y : 'a) = (x, y)", "f", "'a -> 'a -> 'a * 'a")
	schemesAre(t, "fun f (x : 'a) (y : 'b) = (x, y)", "f", "'a -> 'b -> 'a * 'b")
	schemesAre(t, "fun f (x : 'a) y = (x, y : 'a)", "f", "'a -> 'a -> 'a * 'a")
	schemesAre(t, "fun f (x : 'a) (y : 'b) = (x, y : 'a)", "f", "'a -> 'a -> 'a * 'a")
	schemesAre(t, "fun f (x : 'a) = x and g (y : 'a) = y", "f", "'a -> 'a", "g", "'a -> 'a")
	bindersAre(t, "fun f (x : 'a) = x and g (y : 'a) = y", "x: #1", "f 1 from 1: [#1, #1]", "y: #1", "g 1 from 1: [#1, #1]")
	bindersAre(t, "fun f (x : 'a) = 1 and g (y : 'b) = 1", "x: #1", "f 2 from 1: [#1, int]", "y: #2", "g 2 from 1: [#2, int]")
	bindersAre(t, "fun f (x : 'a) = x fun g (y : 'a) = y val a = (f 1, g true)", "x: #1", "f 1 from 1: [#1, #1]", "y: #2", "g 1 from 2: [#2, #2]", "a: (int, bool)")
	bindersAre(t, "val (x : 'a, y : 'a) = (1, 2) val (z : 'a) = true", "x: int", "y: int", "z: bool")
	clashAt(t, "val (x : 'a, y : 'a) = (1, true)", impl.DVal, "", 1)
	clashAt(t, "fun f (x : 'a) = x + 1 and g (y : 'a) = y ^ \"\"", impl.EBin, "^", 1)
	clashAt(t, "val a = (1 : 'a, true : 'a)", impl.EType, "", 2)
	// What one has become, it is everywhere.
	bindersAre(t, "fun f (x : 'a) = x + 1 and g (y : 'a) = y", "x: int", "f: [int, int]", "y: int", "g: [int, int]")
	bindersAre(t, "fun f (x : 'a) = let fun g (y : 'a) = y in g 1 end", "x: int", "y: int", "g: [int, int]", "f: [int, int]")
	bindersAre(t, "val x = (fn y => (y : 'a), 1 : 'a)", "x: ([int, int], int)", "y: int")
}

// An unknown of a type variable is generalised at its dec of the program alone.
func TestTypeVariablesInside(t *testing.T) {
	bindersAre(t, "val k = fn (z : 'a) => z val a = (k 1, k true)", "k 1 from 1: [#1, #1]", "z: #1", "a: (int, bool)")
	bindersAre(t, "fun k (z : 'a) = z val a = (k 1, k true)", "z: #1", "k 1 from 1: [#1, #1]", "a: (int, bool)")
	bindersAre(t, "val k = fn (x : 'a) => let val j = fn (z : 'b) => z in (j, x) end", "k 2 from 1: [#1, ([#2, #2], #1)]", "x: #1", "j: [#2, #2]", "z: #2")
	bindersAre(t, "val k = fn x => let val j = fn z => z in (j, x) end", "k 2 from 2: [#2, ([#3, #3], #2)]", "x: #2", "j 1 from 1: [#1, #1]", "z: #1")
	clashAt(t, "fun f x = let val k = fn (z : 'a) => z in (k 1, k true) end", impl.EApp, "", 2)
	clashAt(t, "fun f x = let fun k (z : 'a) = z in (k 1, k true) end", impl.EApp, "", 2)
	clashAt(t, "val f = fn x => let val k = fn z => (z : 'a) in (k 1, k true) end", impl.EApp, "", 2)
	schemesAre(t, "fun f x = let val k = fn z => z in (k 1, k true) end", "f", "'a -> int * bool")
	// By way of others, and told from outside.
	clashAt(t, "fun f (x : 'a) = let fun k z = [z, x] in (k 1, k true) end", impl.EApp, "", 4)
	clashAt(t, "fun f x = let fun k (z : 'a list) = z in (k [1], k [true]) end", impl.EApp, "", 4)
	clashAt(t, "fun f x = let fun k (z : 'a) = (z : 'b list) in (k [1], k [true]) end", impl.EApp, "", 4)
	bindersAre(t, "fun f () = let val u = (nil : 'a list) in let fun k z = (z : 'a) in (k, u) end end",
		"u: list(#1)", "z: #1", "k: [#1, #1]", "f 1 from 1: [(), ([#1, #1], list(#1))]")
	// Only what has to do with it is kept: the other half is generalised.
	bindersAre(t, "fun f x = let fun k (z : 'a) y = (z, y) in (k 1 2, k 1 true) end",
		"x: #2", "z: int", "y: #1", "k 1 from 1: [int, [#1, (int, #1)]]", "f 1 from 2: [#2, ((int, int), (int, bool))]")
	// A TVar that is written later is nothing to a dec in front of it.
	bindersAre(t, "fun f x = let fun k z = z in (k 1, k true, x : 'a) end", "x: #2", "z: #1", "k 1 from 1: [#1, #1]", "f 1 from 2: [#2, (int, bool, #2)]")
	bindersAre(t,
		"fun f () = (let fun k z = z in (k 1, k true) end, let fun j (z : 'a) = z in j end)",
		"z: #1", "k 1 from 1: [#1, #1]", "z: #2", "j: [#2, #2]", "f 1 from 2: [(), ((int, bool), [#2, #2])]")
	// Left over at the end of a dec that is not generalised, and told by another one.
	bindersAre(t, "val r : 'a list ref = ref nil", "r: ref(list(()))")
	bindersAre(t, "val r : 'a list ref = ref nil val a = r := [1]", "r: ref(list(int))", "a: ()")
	clashAt(t, "val r : 'a list ref = ref nil val a = r := [1] val b = r := [true]", impl.EBin, ":=", 2)
	bindersAre(t, "val r : 'a list ref = ref nil fun f (x : 'a) = x", "r: ref(list(()))", "x: #1", "f 1 from 1: [#1, #1]")
	// The types of datatypes and exceptions have TVars of their own.
	bindersAre(t, "datatype 'a t = A of 'a fun f (A x) (y : 'a) = x", "x: #1", "y: #2", "f 2 from 1: [t(#1), [#2, #1]]")
}
