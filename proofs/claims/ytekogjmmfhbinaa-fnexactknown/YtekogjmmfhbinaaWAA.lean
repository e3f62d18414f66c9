import Derived.WalkKit
import Derived.WalkSpells
import Derived.WalkLawsBesides
import Derived.Test.YtekogjmmfhbinaaProg
import Derived.Deep.Light
namespace Go.Proofs.Ytekogjmmfhbinaa

open Go.RowKit

/-- A node, as data. -/
structure Nd where
  kind : Int
  num : Int
  text : ByteArray
  kids : Int
  place : Int

/-- All five fields alike. -/
def Nd.eqb (a b : Nd) : Bool := a.kind == b.kind && a.num == b.num && (a.text.toList == b.text.toList) && a.kids == b.kids && a.place == b.place

theorem Nd.eqb_refl (a : Nd) : a.eqb a = true := by simp [Nd.eqb]

/-- Five cells of a node at an address. -/
def NodeAt (w : World) (b o : Nat) (n : Nd) : Prop :=
  w.cell? ⟨b, o, none⟩ = some (.int .i64 n.kind) ∧ w.cell? ⟨b, o + 1, none⟩ = some (.int .i64 n.num) ∧ w.cell? ⟨b, o + 2, none⟩ = some (.string n.text) ∧
    w.cell? ⟨b, o + 3, none⟩ = some (.int .i64 n.kids) ∧ w.cell? ⟨b, o + 4, none⟩ = some (.int .i64 n.place)

theorem lt_of_cell {w : World} {a : Addr} {v : Value} (h : w.cell? a = some v) : a.block < w.heap.size := by
  by_cases hb : a.block < w.heap.size
  · exact hb
  · exfalso
    simp [World.cell?, Array.getElem?_eq_none (Nat.le_of_not_lt hb)] at h

theorem NodeAt.below {w w' : World} {b o : Nat} {n : Nd} (h : NodeAt w b o n) (hb : Below w.heap.size w w') : NodeAt w' b o n := by
  have hlt : b < w.heap.size := lt_of_cell h.1
  exact ⟨(hb.cell (p := ⟨b, o, none⟩) hlt).trans h.1, (hb.cell (p := ⟨b, o + 1, none⟩) hlt).trans h.2.1, (hb.cell (p := ⟨b, o + 2, none⟩) hlt).trans h.2.2.1,
    (hb.cell (p := ⟨b, o + 3, none⟩) hlt).trans h.2.2.2.1, (hb.cell (p := ⟨b, o + 4, none⟩) hlt).trans h.2.2.2.2⟩

/-- A slice of nodes. -/
def Nodes (w : World) (ao : Option Addr) (xs : List Nd) : Prop :=
  ∀ i (h : i < xs.length), ∃ b o, ao = some ⟨b, o, none⟩ ∧ NodeAt w b (o + i * 5) xs[i]

theorem Nodes.below {w w' : World} {ao : Option Addr} {xs : List Nd} (h : Nodes w ao xs) (hb : Below w.heap.size w w') : Nodes w' ao xs := by
  intro i hi
  obtain ⟨b, o, e, hn⟩ := h i hi
  exact ⟨b, o, e, hn.below hb⟩

theorem Below.step {w a b : World} (h : Below w.heap.size w a) (k : Below a.heap.size a b) : Below w.heap.size w b :=
  h.trans (k.mono h.size)

theorem ret_bool {a b : Bool} (h : a = b) : Ending.returned (.bool a) = .returned (.bool b) := by rw [h]

set_option maxHeartbeats 400000 in
theorem szNode_any (x : Nd) (left : Int) (w : World) (hs : x.text.size ≤ maxLen) (h0 : 0 ≤ left) (h1 : left ≤ 1048576) :
    Calls Try.prog 14 #[.agg #[.int .i64 x.kind, .int .i64 x.num, .string x.text, .int .i64 x.kids, .int .i64 x.place], .int .i64 left] w fun e w' =>
      e = .returned (.int .i64 (if left < x.text.size then -1 else left - x.text.size)) ∧ Below w.heap.size w w' := by
  unfold maxLen at hs
  by_cases hl : left < x.text.size
  · go_enter Try.func14, Try.ntmps14
    go_wp2
    go_ret
    exact ⟨rfl, (Below.refl _ _).alloc (Nat.le_refl _) _⟩
  · go_enter Try.func14, Try.ntmps14
    go_wp2
    go_ret
    exact ⟨rfl, (Below.refl _ _).alloc (Nat.le_refl _) _⟩

set_option maxHeartbeats 400000 in
theorem toNode_any (x : Nd) (w : World) :
    Calls Try.prog 18 #[.agg #[.int .i64 x.kind, .int .i64 x.num, .string x.text, .int .i64 x.kids, .int .i64 x.place]] w fun e w' =>
      e = .returned (.agg #[.int .i64 x.kind, .int .i64 x.num, .string x.text, .int .i64 x.kids, .int .i64 x.place]) ∧ Below w.heap.size w w' := by
  go_enter Try.func18, Try.ntmps18
  go_wp2
  refine bodyPost_ret (v := .agg #[.int .i64 x.kind, .int .i64 x.num, .string x.text, .int .i64 x.kids, .int .i64 x.place]) (by simp [results, Try.results18, go_sem]) rfl ⟨rfl, ?_⟩
  exact (((Below.refl _ _).alloc (Nat.le_refl _) _).alloc (by simp) _).alloc (by simp; omega) _

set_option maxHeartbeats 400000 in
theorem eqNode_any (x y : Nd) (w : World) :
    Calls Try.prog 22 #[.agg #[.int .i64 x.kind, .int .i64 x.num, .string x.text, .int .i64 x.kids, .int .i64 x.place], .agg #[.int .i64 y.kind, .int .i64 y.num, .string y.text, .int .i64 y.kids, .int .i64 y.place]] w fun e w' =>
      e = .returned (.bool (x.eqb y)) ∧ Below w.heap.size w w' := by
  unfold Nd.eqb
  go_enter Try.func22, Try.ntmps22
  go_wp2
  all_goals
    go_ret
    refine ⟨ret_bool ?_, ((Below.refl _ _).alloc (Nat.le_refl _) _).alloc (by simp) _⟩
    go_light
    simp_all

theorem szNode_ex (x : Nd) (left : Int) (w : World) (hs : x.text.size ≤ maxLen) (h0 : 0 ≤ left) (h1 : left ≤ 1048576) :
    Calls Try.prog 14 #[.agg #[.int .i64 x.kind, .int .i64 x.num, .string x.text, .int .i64 x.kids, .int .i64 x.place], .int .i64 left] w fun e w' =>
      (∃ r : Int, e = .returned (.int .i64 r) ∧ (r = -1 ∨ (0 ≤ r ∧ r ≤ left))) ∧ Below w.heap.size w w' := by
  refine (szNode_any x left w hs h0 h1).mono ?_
  rintro e w' ⟨rfl, hb⟩
  refine ⟨⟨_, rfl, ?_⟩, hb⟩
  split
  · exact Or.inl rfl
  · right; omega

set_option maxHeartbeats 400000 in
theorem szNodeS_any (xs : List Nd) (ao : Option Addr) (cap : Nat) (left : Int) (w : World) (hx : Nodes w ao xs) (hs : ∀ x ∈ xs, x.text.size ≤ maxLen) (hlen : xs.length ≤ 9223372036854775807) (h0 : 0 ≤ left) (h1 : left ≤ 1048576) :
    Calls Try.prog 7 #[.slice ao xs.length cap, .int .i64 left] w fun e w' =>
      (∃ r : Int, e = .returned (.int .i64 r) ∧ (r = -1 ∨ (0 ≤ r ∧ r ≤ left - xs.length))) ∧ Below w.heap.size w w' := by
  by_cases hl : left < xs.length
  · go_enter Try.func7, Try.ntmps7
    go_wp2
    go_ret
    exact ⟨⟨-1, rfl, Or.inl rfl⟩, Below.refl _ _⟩
  · go_enter Try.func7, Try.ntmps7
    go_wp2
    go_loopw [1, 5] (fun l i wr => ∃ (k : Nat) (r : Int), k ≤ xs.length ∧ i = .int .i64 k ∧ l = .int .i64 r ∧ 0 ≤ r ∧ r ≤ left - xs.length ∧ Below w.heap.size w wr) (fun _ i _ => xs.length - (intOf i).toNat)
    case atStart => exact ⟨0, _, Nat.zero_le _, rfl, rfl, by omega, by omega, Below.refl _ _⟩
    case round =>
      obtain ⟨k, r, hk, rfl, rfl, hr0, hr1, hb⟩ := hrel
      by_cases hlt : k < xs.length
      · obtain ⟨b, o, rfl, hn⟩ := hx.below hb k hlt
        have hsk := hs xs[k] (List.getElem_mem hlt)
        obtain ⟨c0, c1, c2, c3, c4⟩ := hn
        clear hx hs
        go_wp2_with fail
        refine (szNode_ex xs[k] r wr hsk hr0 (by omega)).mono ?_
        rintro e w1 ⟨⟨r', rfl, hr'⟩, hb1⟩
        rcases hr' with hr' | ⟨hr2, hr3⟩
        · subst hr'
          go_wp2
          go_ret
          exact ⟨⟨-1, rfl, Or.inl rfl⟩, Below.step hb hb1⟩
        · have hbb := Below.step hb hb1
          clear hb1 hb c0 c1 c2 c3 c4
          go_wp2
          go_roundw
          case rel => exact ⟨k + 1, r', by omega, by go_num, rfl, hr2, by omega, hbb⟩
          case measure => simp [intOf]; omega
      · go_wp2
        go_ret
        exact ⟨⟨r, rfl, Or.inr ⟨hr0, hr1⟩⟩, hb⟩

end Go.Proofs.Ytekogjmmfhbinaa
