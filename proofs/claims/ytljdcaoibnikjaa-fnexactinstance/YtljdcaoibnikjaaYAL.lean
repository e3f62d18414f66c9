import Derived.Test.YtljdcaoibnikjaaProg
import Derived.Test.YtljdcaoibnikjaaYAC
import Derived.Deep.Light
import Derived.Test.YtljdcaoibnikjaaYAG
import Derived.Test.YtljdcaoibnikjaaYAB
import Derived.BigQuiet
namespace Go.Proofs.Ytljdcaoibnikjaa
open Go.RowKit

set_option maxHeartbeats 400000 in
theorem bare_any (x : Nd) (w : World) :
    Calls Try.prog 66 #[.agg #[.int .i64 x.kind, .int .i64 x.num, .string x.text, .int .i64 x.kids, .int .i64 x.place]] w fun e w' =>
      e = .returned (.agg #[.int .i64 x.kind, .int .i64 x.num, .string x.text, .int .i64 x.kids, .int .i64 0]) ∧ Below w.heap.size w w' := by
  go_enter Try.func66, Try.ntmps66
  go_wp2
  refine bodyPost_ret (v := .agg #[.int .i64 x.kind, .int .i64 x.num, .string x.text, .int .i64 x.kids, .int .i64 0]) (by simp [results, Try.results66, go_sem]) rfl ⟨rfl, ?_⟩
  exact ((Below.refl _ _).alloc (Nat.le_refl _) _).alloc (by simp) _

/-- '!=' of two nodes whose places are struck, in one line. -/
theorem neqN (x y : Nd) (w : World) :
    (binOp .neq 53 (.agg #[.int .i64 x.kind, .int .i64 x.num, .string x.text, .int .i64 x.kids, .int .i64 0]) (.agg #[.int .i64 y.kind, .int .i64 y.num, .string y.text, .int .i64 y.kids, .int .i64 0])).run Try.prog w =
      .ok (.bool (!(x.sameb y))) w := by
  unfold Nd.sameb
  go_simp
  repeat' split
  all_goals simp_all

end Go.Proofs.Ytljdcaoibnikjaa

namespace Go.Proofs.Ytljdcaoibnikjaa
open Go.RowKit

/-- Block g is a row of elements of type T, of the call's own, that begins with these cells. -/
def OwnT (T : Nat) (w : World) (g : Nat) (cs : List Value) : Prop := ∃ cur rest, w.heap[g]? = some (.cells cur T (0, 0)) ∧ cur.toList = cs ++ rest

theorem OwnT.lt {T : Nat} {w : World} {g : Nat} {cs : List Value} (h : OwnT T w g cs) : g < w.heap.size := by
  obtain ⟨cur, rest, hg, _⟩ := h
  exact (Array.getElem?_eq_some_iff.1 hg).1

theorem OwnT.set {T : Nat} {w : World} {g : Nat} {cs : List Value} (h : OwnT T w g cs) (j : Nat) (v : Value) (hj : j < cs.length) : OwnT T (w.setCell ⟨g, j, none⟩ v) g (cs.set j v) := by
  obtain ⟨cur, rest, hg, hc⟩ := h
  exact ⟨_, rest, heap_setCell_same _ g _ _ T _ hg, by rw [Array.toList_setIfInBounds, hc, List.set_append_left _ _ hj]⟩

theorem OwnT.at {T : Nat} {w : World} {g : Nat} {cs : List Value} (h : OwnT T w g cs) (j : Nat) (hj : j < cs.length) : w.cell? ⟨g, j, none⟩ = cs[j]? := by
  obtain ⟨cur, rest, hg, hc⟩ := h
  rw [cell_of_row w g _ cur T (0, 0) hg, ← Array.getElem?_toList, hc, List.getElem?_append_left hj]

theorem OwnT.frozen {T : Nat} {w : World} {g : Nat} {cs : List Value} (h : OwnT T w g cs) (j : Nat) : w.frozen? ⟨g, j, none⟩ = false := by
  obtain ⟨cur, _, hg, _⟩ := h
  exact frozen_of_row w g j cur T hg

theorem OwnT.but {S : Nat → Prop} {T : Nat} {w w' : World} {g : Nat} {cs : List Value} (h : OwnT T w g cs) (hb : But S w w') (hn : ¬ S g) : OwnT T w' g cs := by
  have hlt := h.lt
  obtain ⟨cur, rest, hg, hc⟩ := h
  exact ⟨cur, rest, (hb.block g hlt hn).trans hg, hc⟩

theorem OwnT.below {T : Nat} {w w' : World} {g : Nat} {cs : List Value} (h : OwnT T w g cs) (hb : Below w.heap.size w w') : OwnT T w' g cs := by
  have hlt := h.lt
  obtain ⟨cur, rest, hg, hc⟩ := h
  exact ⟨cur, rest, (hb.block g hlt).trans hg, hc⟩

/-- Block g is a row of int64s. -/
def LRow (w : World) (g : Nat) (xs : List Int) : Prop := OwnT 2 w g (ints xs)

theorem LRow.at {w : World} {g : Nat} {xs : List Int} (h : LRow w g xs) (j : Nat) (hj : j < xs.length) : w.cell? ⟨g, j, none⟩ = some (.int .i64 xs[j]) := by
  rw [OwnT.at h j (by simp [ints]; exact hj)]
  simp [ints, List.getElem?_eq_getElem hj]

theorem LRow.put {w : World} {g : Nat} {xs : List Int} (h : LRow w g xs) (j : Nat) (hj : j < xs.length) (v : Int) : LRow (w.setCell ⟨g, j, none⟩ (.int .i64 v)) g (xs.set j v) := by
  have h9 := OwnT.set h j (.int .i64 v) (by simp [ints]; exact hj)
  have e : (ints xs).set j (.int .i64 v) = ints (xs.set j v) := by simp [ints]
  rw [e] at h9
  exact h9

theorem LRow.below {w w' : World} {g : Nat} {xs : List Int} (h : LRow w g xs) (hb : Below w.heap.size w w') : LRow w' g xs := OwnT.below h hb

theorem LRow.but {S : Nat → Prop} {w w' : World} {g : Nat} {xs : List Int} (h : LRow w g xs) (hb : But S w w') (hn : ¬ S g) : LRow w' g xs := OwnT.but h hb hn

theorem LRow.frozen {w : World} {g : Nat} {xs : List Int} (h : LRow w g xs) (j : Nat) : w.frozen? ⟨g, j, none⟩ = false := OwnT.frozen h j

theorem LRow.lt {w : World} {g : Nat} {xs : List Int} (h : LRow w g xs) : g < w.heap.size := OwnT.lt h

/-- A slice of int64s to be read. -/
def LCells (w : World) (ao : Option Addr) (xs : List Int) : Prop := ∀ i (h : i < xs.length), ∃ b o, ao = some ⟨b, o, none⟩ ∧ w.cell? ⟨b, o + i, none⟩ = some (.int .i64 xs[i])

theorem LCells.below {w w' : World} {ao : Option Addr} {xs : List Int} (h : LCells w ao xs) (hb : Below w.heap.size w w') : LCells w' ao xs := by
  intro i hi
  obtain ⟨b, o, e, hc⟩ := h i hi
  exact ⟨b, o, e, (hb.cell (p := ⟨b, o + i, none⟩) (lt_of_cell hc)).trans hc⟩

theorem LRow.cells {w : World} {g : Nat} {xs : List Int} (h : LRow w g xs) : LCells w (some ⟨g, 0, none⟩) xs := fun i hi => ⟨g, 0, rfl, by rw [Nat.zero_add]; exact h.at i hi⟩

/-- The marks that are laid, from k on. -/
def lmarks (k n : Nat) : List Int := (List.range n).map fun j => ((k + j : Nat) : Int)

theorem lmarks_length (k n : Nat) : (lmarks k n).length = n := by simp [lmarks]

theorem lmarks_get (k n j : Nat) (h : j < (lmarks k n).length) : (lmarks k n)[j] = ((k + j : Nat) : Int) := by simp [lmarks]

theorem lmarks_step (xs : List Int) (k j : Nat) (h : j < xs.length) : (lmarks k j ++ xs.drop j).set j ((k + j : Nat) : Int) = lmarks k (j + 1) ++ xs.drop (j + 1) := by
  have e : lmarks k (j + 1) = lmarks k j ++ [((k + j : Nat) : Int)] := by simp [lmarks, List.range_succ]
  have e2 : xs.drop j = xs[j] :: xs.drop (j + 1) := List.drop_eq_getElem_cons h
  rw [e, e2, List.set_append_right _ _ (by rw [lmarks_length]; exact Nat.le_refl _), lmarks_length, Nat.sub_self, List.set_cons_zero, List.append_assoc]
  rfl

/-- An answer: a slice of int64s that is empty, or a row of the call's own, from block B on. -/
def LAns (w : World) (B : Nat) (ao : Option Addr) (zs : List Int) : Prop := zs = [] ∨ ∃ g, ao = some ⟨g, 0, none⟩ ∧ B ≤ g ∧ LRow w g zs

theorem LAns.cells {w : World} {B : Nat} {ao : Option Addr} {zs : List Int} (h : LAns w B ao zs) : LCells w ao zs := by
  rcases h with rfl | ⟨g, rfl, _, hr⟩
  · exact fun i hi => by simp at hi
  · exact hr.cells

theorem LAns.below {w w' : World} {B : Nat} {ao : Option Addr} {zs : List Int} (h : LAns w B ao zs) (hb : Below w.heap.size w w') : LAns w' B ao zs := by
  rcases h with rfl | ⟨g, rfl, hB, hr⟩
  · exact Or.inl rfl
  · exact Or.inr ⟨g, rfl, hB, hr.below hb⟩

theorem LAns.but {S : Nat → Prop} {w w' : World} {B : Nat} {ao : Option Addr} {zs : List Int} (h : LAns w B ao zs) (hb : But S w w') (hS : ∀ g, ao = some ⟨g, 0, none⟩ → B ≤ g → LRow w g zs → ¬ S g) : LAns w' B ao zs := by
  rcases h with rfl | ⟨g, rfl, hB, hr⟩
  · exact Or.inl rfl
  · exact Or.inr ⟨g, rfl, hB, hr.but hb (hS g rfl hB hr)⟩

end Go.Proofs.Ytljdcaoibnikjaa
