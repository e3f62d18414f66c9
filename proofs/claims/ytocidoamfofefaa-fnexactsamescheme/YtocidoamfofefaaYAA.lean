import Derived.WalkKit
import Derived.WalkSpells
import Derived.WalkLawsBesides
import Derived.Test.YtocidoamfofefaaProg
import Derived.Deep.Light
namespace Go.Proofs.Ytocidoamfofefaa
open Go.RowKit

/-- A node, as data. -/
structure Nd where
  kind : Int
  num : Int
  text : ByteArray
  kids : Int
  place : Int

/-- All five fields alike. -/
def Nd.eqb (a b : Nd) : Bool := a.kind == b.kind && a.num == b.num && (a.text.toList == b.text.toList) && a.kids == b.kids && a.place == b.place

/-- Alike but for the place. -/
def Nd.sameb (a b : Nd) : Bool := a.kind == b.kind && a.num == b.num && (a.text.toList == b.text.toList) && a.kids == b.kids

theorem Nd.eqb_refl (a : Nd) : a.eqb a = true := by simp [Nd.eqb]

/-- Five cells of a node at an address. -/
def NodeAt (w : World) (b o : Nat) (n : Nd) : Prop :=
  w.cell? ⟨b, o, none⟩ = some (.int .i64 n.kind) ∧ w.cell? ⟨b, o + 1, none⟩ = some (.int .i64 n.num) ∧ w.cell? ⟨b, o + 2, none⟩ = some (.string n.text) ∧
    w.cell? ⟨b, o + 3, none⟩ = some (.int .i64 n.kids) ∧ w.cell? ⟨b, o + 4, none⟩ = some (.int .i64 n.place)

theorem lt_of_cell {w : World} {a : Addr} {v : Value} (h : w.cell? a = some v) : a.block < w.heap.size := by
  by_cases hb : a.block < w.heap.size
  · exact hb
  · exfalso
    simp [World.cell?, Array.getElem?_eq_none (Nat.le_of_not_lt hb)] at h

theorem NodeAt.below {w w' : World} {b o : Nat} {n : Nd} (h : NodeAt w b o n) (hb : Below w.heap.size w w') : NodeAt w' b o n := by
  have hlt : b < w.heap.size := lt_of_cell h.1
  exact ⟨(hb.cell (p := ⟨b, o, none⟩) hlt).trans h.1, (hb.cell (p := ⟨b, o + 1, none⟩) hlt).trans h.2.1, (hb.cell (p := ⟨b, o + 2, none⟩) hlt).trans h.2.2.1,
    (hb.cell (p := ⟨b, o + 3, none⟩) hlt).trans h.2.2.2.1, (hb.cell (p := ⟨b, o + 4, none⟩) hlt).trans h.2.2.2.2⟩

/-- A slice of nodes. -/
def Nodes (w : World) (ao : Option Addr) (xs : List Nd) : Prop :=
  ∀ i (h : i < xs.length), ∃ b o, ao = some ⟨b, o, none⟩ ∧ NodeAt w b (o + i * 5) xs[i]

theorem Nodes.below {w w' : World} {ao : Option Addr} {xs : List Nd} (h : Nodes w ao xs) (hb : Below w.heap.size w w') : Nodes w' ao xs := by
  intro i hi
  obtain ⟨b, o, e, hn⟩ := h i hi
  exact ⟨b, o, e, hn.below hb⟩

theorem Below.step {w a b : World} (h : Below w.heap.size w a) (k : Below a.heap.size a b) : Below w.heap.size w b :=
  h.trans (k.mono h.size)

theorem ret_bool {a b : Bool} (h : a = b) : Ending.returned (.bool a) = .returned (.bool b) := by rw [h]

end Go.Proofs.Ytocidoamfofefaa

namespace Go.Proofs.Ytocidoamfofefaa
open Go.RowKit

set_option maxHeartbeats 400000 in
theorem szNode_any (x : Nd) (left : Int) (w : World) (hs : x.text.size ≤ maxLen) (h0 : 0 ≤ left) (h1 : left ≤ 1048576) :
    Calls Try.prog 20 #[.agg #[.int .i64 x.kind, .int .i64 x.num, .string x.text, .int .i64 x.kids, .int .i64 x.place], .int .i64 left] w fun e w' =>
      e = .returned (.int .i64 (if left < x.text.size then -1 else left - x.text.size)) ∧ Below w.heap.size w w' := by
  unfold maxLen at hs
  by_cases hl : left < x.text.size
  · go_enter Try.func20, Try.ntmps20
    go_wp2
    go_ret
    exact ⟨rfl, (Below.refl _ _).alloc (Nat.le_refl _) _⟩
  · go_enter Try.func20, Try.ntmps20
    go_wp2
    go_ret
    exact ⟨rfl, (Below.refl _ _).alloc (Nat.le_refl _) _⟩

set_option maxHeartbeats 400000 in
theorem toNode_any (x : Nd) (w : World) :
    Calls Try.prog 27 #[.agg #[.int .i64 x.kind, .int .i64 x.num, .string x.text, .int .i64 x.kids, .int .i64 x.place]] w fun e w' =>
      e = .returned (.agg #[.int .i64 x.kind, .int .i64 x.num, .string x.text, .int .i64 x.kids, .int .i64 x.place]) ∧ Below w.heap.size w w' := by
  go_enter Try.func27, Try.ntmps27
  go_wp2
  refine bodyPost_ret (v := .agg #[.int .i64 x.kind, .int .i64 x.num, .string x.text, .int .i64 x.kids, .int .i64 x.place]) (by simp [results, Try.results27, go_sem]) rfl ⟨rfl, ?_⟩
  exact (((Below.refl _ _).alloc (Nat.le_refl _) _).alloc (by simp) _).alloc (by simp; omega) _

set_option maxHeartbeats 400000 in
theorem eqNode_any (x y : Nd) (w : World) :
    Calls Try.prog 31 #[.agg #[.int .i64 x.kind, .int .i64 x.num, .string x.text, .int .i64 x.kids, .int .i64 x.place], .agg #[.int .i64 y.kind, .int .i64 y.num, .string y.text, .int .i64 y.kids, .int .i64 y.place]] w fun e w' =>
      e = .returned (.bool (x.eqb y)) ∧ Below w.heap.size w w' := by
  unfold Nd.eqb
  go_enter Try.func31, Try.ntmps31
  go_wp2
  all_goals
    go_ret
    refine ⟨ret_bool ?_, ((Below.refl _ _).alloc (Nat.le_refl _) _).alloc (by simp) _⟩
    go_light
    simp_all

end Go.Proofs.Ytocidoamfofefaa
