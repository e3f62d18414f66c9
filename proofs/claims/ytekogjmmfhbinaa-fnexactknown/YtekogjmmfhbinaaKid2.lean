import Derived.Test.YtekogjmmfhbinaaKid
import Derived.Deep.RegionWith
namespace Go.Proofs.Ytekogjmmfhbinaa

open Go.RowKit

theorem allFit_later (p : Nd → Bool) (v : Value) (ks : List Nd) (q : Nat) (HQ : Hid (ks.length = q)) (hq : q ≤ 60000) (ao : Option Addr) (W : World) (hx : Nodes W ao ks) (hv : FitV W v p) :
    Hid (∀ (W' : World) (cap : Nat), Below W.heap.size W W' → Calls Try.prog 86 #[.slice ao q cap, v] W' fun e w' => e = .returned (.bool (ks.all p)) ∧ Below W'.heap.size W' w') :=
  fun W' cap hb => allFit_any p v ks q HQ ao cap W' (hx.below hb) hq (hv.below hb)

theorem new_node (x : Nd) (W : World) : Below W.heap.size W (W.alloc (Obj.cells #[.int .i64 x.kind, .int .i64 x.num, .string x.text, .int .i64 x.kids, .int .i64 x.place] 39)) := (Below.refl _ _).alloc (Nat.le_refl _) _

set_option maxHeartbeats 1000000 in
theorem some1_any (x : Nd) (ks : List Nd) (q : Nat) (HQ : Hid (ks.length = q)) (hq : q ≤ 60000) (ao : Option Addr) (cap : Nat) (b1 b2 : Nat) (least : Int) (v : Value) (p : Nd → Bool) (W : World)
    (c1 : W.cell? ⟨b1, 0, none⟩ = some (.int .i64 least)) (c2 : W.cell? ⟨b2, 0, none⟩ = some v) (hx : Nodes W ao ks) (hv : FitV W v p) :
    Calls Try.prog 85 #[.agg #[.int .i64 x.kind, .int .i64 x.num, .string x.text, .int .i64 x.kids, .int .i64 x.place], .slice ao q cap, .pointer (some ⟨b1, 0, none⟩), .pointer (some ⟨b2, 0, none⟩)] W fun e w' =>
      e = .returned (.bool (decide (least ≤ (ks.length : Int)) && ks.all p)) ∧ Below W.heap.size W w' := by
  have hl2 := lt_of_cell c2
  have hl1 := lt_of_cell c1
  simp only at hl1 hl2
  have HC := allFit_later p v ks q HQ hq ao W hx hv
  obtain ⟨N, lb, rfl, -, -⟩ := hv
  rw [HQ.out]
  have hb0 := new_node x W
  by_cases h : least ≤ (q : Int)
  · have t : decide ((q : Int) ≥ least) = true := by exact decide_eq_true (by omega)
    have HB : Hid (decide (least ≤ (q : Int)) = true) := by show decide (least ≤ (q : Int)) = true; exact decide_eq_true (by omega)
    clear hx
    go_enter Try.func85, Try.ntmps85
    go_wp2_with fail
    refine (HC.out _ _ hb0).mono ?_
    rintro e w1 ⟨rfl, hb1⟩
    have hbb := Below.step hb0 hb1
    clear hb0 hb1
    go_wp2
    go_ret
    exact ⟨by rw [HB.out]; rfl, hbb⟩
  · have t : decide ((q : Int) ≥ least) = false := by exact decide_eq_false (by omega)
    have HB : Hid (decide (least ≤ (q : Int)) = false) := by show decide (least ≤ (q : Int)) = false; exact decide_eq_false (by omega)
    clear hx
    go_enter Try.func85, Try.ntmps85
    go_wp2
    go_ret
    exact ⟨by first | (rw [HB.out]; rfl) | rfl, hb0⟩

set_option maxHeartbeats 1000000 in
theorem notOne1_any (x : Nd) (ks : List Nd) (q : Nat) (HQ : Hid (ks.length = q)) (hq : q ≤ 60000) (ao : Option Addr) (cap : Nat) (b2 : Nat) (v : Value) (p : Nd → Bool) (W : World)
     (c2 : W.cell? ⟨b2, 0, none⟩ = some v) (hx : Nodes W ao ks) (hv : FitV W v p) :
    Calls Try.prog 87 #[.agg #[.int .i64 x.kind, .int .i64 x.num, .string x.text, .int .i64 x.kids, .int .i64 x.place], .slice ao q cap, .pointer (some ⟨b2, 0, none⟩)] W fun e w' =>
      e = .returned (.bool (((ks.length : Int) != 1) && ks.all p)) ∧ Below W.heap.size W w' := by
  have hl2 := lt_of_cell c2
  skip
  simp only at hl2
  have HC := allFit_later p v ks q HQ hq ao W hx hv
  obtain ⟨N, lb, rfl, -, -⟩ := hv
  rw [HQ.out]
  have hb0 := new_node x W
  by_cases h : q ≠ 1
  · have t : ((q : Int) != 1) = true := by simp; omega
    have HB : Hid (((q : Int) != 1) = true) := by show ((q : Int) != 1) = true; simp; omega
    clear hx
    go_enter Try.func87, Try.ntmps87
    go_wp2_with fail
    refine (HC.out _ _ hb0).mono ?_
    rintro e w1 ⟨rfl, hb1⟩
    have hbb := Below.step hb0 hb1
    clear hb0 hb1
    go_wp2
    go_ret
    exact ⟨by rw [HB.out]; rfl, hbb⟩
  · have t : ((q : Int) != 1) = false := by simp; omega
    have HB : Hid (((q : Int) != 1) = false) := by show ((q : Int) != 1) = false; simp; omega
    clear hx
    go_enter Try.func87, Try.ntmps87
    go_wp2
    go_ret
    exact ⟨by first | (rw [HB.out]; rfl) | rfl, hb0⟩

set_option maxHeartbeats 1000000 in
theorem atMostOne1_any (x : Nd) (ks : List Nd) (q : Nat) (HQ : Hid (ks.length = q)) (hq : q ≤ 60000) (ao : Option Addr) (cap : Nat) (b2 : Nat) (v : Value) (p : Nd → Bool) (W : World)
     (c2 : W.cell? ⟨b2, 0, none⟩ = some v) (hx : Nodes W ao ks) (hv : FitV W v p) :
    Calls Try.prog 88 #[.agg #[.int .i64 x.kind, .int .i64 x.num, .string x.text, .int .i64 x.kids, .int .i64 x.place], .slice ao q cap, .pointer (some ⟨b2, 0, none⟩)] W fun e w' =>
      e = .returned (.bool (decide ((ks.length : Int) ≤ 1) && ks.all p)) ∧ Below W.heap.size W w' := by
  have hl2 := lt_of_cell c2
  skip
  simp only at hl2
  have HC := allFit_later p v ks q HQ hq ao W hx hv
  obtain ⟨N, lb, rfl, -, -⟩ := hv
  rw [HQ.out]
  have hb0 := new_node x W
  by_cases h : q ≤ 1
  · have t : decide ((q : Int) ≤ 1) = true := by exact decide_eq_true (by omega)
    have HB : Hid (decide ((q : Int) ≤ 1) = true) := by show decide ((q : Int) ≤ 1) = true; exact decide_eq_true (by omega)
    clear hx
    go_enter Try.func88, Try.ntmps88
    go_wp2_with fail
    refine (HC.out _ _ hb0).mono ?_
    rintro e w1 ⟨rfl, hb1⟩
    have hbb := Below.step hb0 hb1
    clear hb0 hb1
    go_wp2
    go_ret
    exact ⟨by rw [HB.out]; rfl, hbb⟩
  · have t : decide ((q : Int) ≤ 1) = false := by exact decide_eq_false (by omega)
    have HB : Hid (decide ((q : Int) ≤ 1) = false) := by show decide ((q : Int) ≤ 1) = false; exact decide_eq_false (by omega)
    clear hx
    go_enter Try.func88, Try.ntmps88
    go_wp2
    go_ret
    exact ⟨by first | (rw [HB.out]; rfl) | rfl, hb0⟩

set_option maxHeartbeats 1000000 in
theorem just1_any (x : Nd) (ks : List Nd) (q : Nat) (HQ : Hid (ks.length = q)) (hq : q ≤ 60000) (ao : Option Addr) (cap : Nat) (b : Nat) (ap : Option Addr) (l cp : Nat) (ps : List (Nd → Bool)) (HL : Hid (ps.length = l)) (hl : l ≤ 60000) (W : World)
    (c1 : W.cell? ⟨b, 0, none⟩ = some (.slice ap l cp)) (hx : Nodes W ao ks) (hp : FitsAt W ap ps) :
    Calls Try.prog 77 #[.agg #[.int .i64 x.kind, .int .i64 x.num, .string x.text, .int .i64 x.kids, .int .i64 x.place], .slice ao q cap, .pointer (some ⟨b, 0, none⟩)] W fun e w' =>
      e = .returned (.bool (fitAll ps ks)) ∧ Below W.heap.size W w' := by
  have hl1 := lt_of_cell c1
  simp only at hl1
  have hb0 := new_node x W
  have HC := equalFit_any ks q HQ ps l HL ao ap cap cp _ (hx.below hb0) (hp.below hb0) hq hl
  clear hx hp
  go_enter Try.func77, Try.ntmps77
  go_wp2_with fail
  refine HC.mono ?_
  rintro e w1 ⟨rfl, hb1⟩
  have hbb := Below.step hb0 hb1
  clear hb0 hb1
  go_wp2
  go_ret
  exact ⟨rfl, hbb⟩

/-- The first as it is asked for, one or more others behind it. -/
def firstB (p0 p : Nd → Bool) (ks : List Nd) : Bool := decide (2 ≤ ks.length) && p0 (ndAt ks 0) && (ks.drop 1).all p

/-- One or more, and the last as it is asked for. -/
def lastB (p pl : Nd → Bool) (ks : List Nd) : Bool := decide (2 ≤ ks.length) && (ks.take (ks.length - 1)).all p && pl (ndAt ks (ks.length - 1))

theorem Nodes.tail {w : World} {b o : Nat} {ks : List Nd} (h : Nodes w (some ⟨b, o, none⟩) ks) : Nodes w (some ⟨b, o + 5, none⟩) (ks.drop 1) := by
  intro i hi
  obtain ⟨b', o', e, hn⟩ := h (1 + i) (by simp at hi; omega)
  simp only [Option.some.injEq, Addr.mk.injEq, and_true] at e
  obtain ⟨rfl, rfl⟩ := e
  refine ⟨b, o + 5, rfl, ?_⟩
  rw [List.getElem_drop]
  have e : o + (1 + i) * 5 = o + 5 + i * 5 := by omega
  rw [e] at hn
  exact hn

theorem Nodes.front {w : World} {ao : Option Addr} {ks : List Nd} (h : Nodes w ao ks) (m : Nat) : Nodes w ao (ks.take m) := by
  intro i hi
  obtain ⟨b', o', e, hn⟩ := h i (by simp at hi; omega)
  refine ⟨b', o', e, ?_⟩
  rw [List.getElem_take]
  exact hn

theorem FitV.later {p : Nd → Bool} {w : World} {N : Nat} {lb : Array Value} (h : FitV w (.func (.func N) #[] lb) p) :
    (∀ (args : Array Value) (w : World), (callFunc N args).run Try.prog w = .ok (.enter N args) w) ∧
    Hid (∀ (x : Nd) (W : World), Below w.heap.size w W → Calls Try.prog N (#[.agg #[.int .i64 x.kind, .int .i64 x.num, .string x.text, .int .i64 x.kids, .int .i64 x.place]] ++ lb) W fun e w' => e = .returned (.bool (p x)) ∧ Below W.heap.size W w') := by
  obtain ⟨N', lb', e, hN, HF⟩ := h
  simp only [Value.func.injEq, Fn.func.injEq, true_and] at e
  obtain ⟨rfl, rfl⟩ := e
  exact ⟨hN, HF⟩

end Go.Proofs.Ytekogjmmfhbinaa
