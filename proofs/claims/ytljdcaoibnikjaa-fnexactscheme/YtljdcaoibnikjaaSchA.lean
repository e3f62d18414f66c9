
import Derived.Test.YtljdcaoibnikjaaSz
import Derived.Test.YtljdcaoibnikjaaTo
import Derived.Test.YtljdcaoibnikjaaEq
import Derived.Test.YtljdcaoibnikjaaAns
import Derived.Test.YtljdcaoibnikjaaSCanon
namespace Go.Proofs.Ytljdcaoibnikjaa
open Go.RowKit

/-- A node of a binder's type, for people: one of its variables is an unknown. -/
def schNode (fr ct : Int) (n : Nd) : Nd := if n.kind = 60 ∧ fr ≤ n.num ∧ n.num < fr + ct then { n with kind := 61 } else n

def countb (x : Int) : Bool := decide (0 ≤ x) && decide (x ≤ 1000000)

/-- The scheme of a binder. -/
def schemeOf (fr ct : Int) (t : List Nd) : List Nd := if groundOf t && countb fr && countb ct then canonOf (t.map (schNode fr ct)) else []

theorem schemeOf_le (fr ct : Int) (t : List Nd) : (schemeOf fr ct t).length ≤ t.length := by
  unfold schemeOf
  split
  · have h : ∀ u : List Nd, (canonOf u).length ≤ u.length := by
      intro u
      unfold canonOf
      split
      · have := (canonTo_len u u.length (Nat.le_refl _)).1
        omega
      · simp
    have := h (t.map (schNode fr ct))
    simpa using this
  · simp

theorem schNode_num (fr ct : Int) (n : Nd) : (schNode fr ct n).num = n.num := by
  unfold schNode
  split <;> rfl

theorem ground_span {t : List Nd} (h : groundOf t = true) : t.length ≤ 300 := by
  simp only [groundOf, Bool.and_eq_true, decide_eq_true_eq] at h
  exact h.1.1.1

set_option maxRecDepth 100000 in
set_option maxHeartbeats 1000000 in
theorem szBinder_any (nm nd fr ct : Int) (na : ByteArray) (xs : List Nd) (ao : Option Addr) (cap : Nat) (w : World) (hna : na.size ≤ maxLen) (hx : Nodes w ao xs) (hs : ∀ x ∈ xs, x.text.size ≤ maxLen) (hlen : xs.length ≤ 9223372036854775807) :
    Calls Try.prog 14 #[.agg #[.int .i64 nm, .string na, .int .i64 nd, .int .i64 fr, .int .i64 ct, .slice ao xs.length cap], .int .i64 1048576] w fun e w' =>
      (∃ r : Int, e = .returned (.int .i64 r) ∧ (r < 0 ∨ (0 ≤ r ∧ r ≤ 1048576 - xs.length))) ∧ Below w.heap.size w w' := by
  unfold maxLen at hna
  obtain ⟨s, hsz⟩ : ∃ s, na.size = s := ⟨_, rfl⟩
  by_cases hl : (1048576 : Int) < na.size
  · go_enter Try.func14, Try.ntmps14
    clear hx hs
    go_wp2
    go_ret
    exact ⟨⟨_, rfl, Or.inl (by omega)⟩, (Below.refl _ _).alloc (Nat.le_refl _) _⟩
  · have hb := (Below.refl w.heap.size w).alloc (Nat.le_refl _) (.cells #[.int .i64 nm, .string na, .int .i64 nd, .int .i64 fr, .int .i64 ct, .slice ao xs.length cap] 35)
    go_enter Try.func14, Try.ntmps14
    go_wp2_with fail
    refine (szNodeS_any xs ao cap (1048576 - (s : Int)) _ (hx.below hb) hs hlen (by omega) (by omega)).mono ?_
    rintro e w1 ⟨⟨r, rfl, hr⟩, b1⟩
    have hb1 := Below.step hb b1
    clear hx hs hb b1
    rcases hr with hr | ⟨h0, h1⟩
    · subst hr
      go_wp2
      go_ret
      exact ⟨⟨_, rfl, Or.inl (by omega)⟩, hb1⟩
    · go_wp2
      go_ret
      exact ⟨⟨_, rfl, Or.inr ⟨h0, by omega⟩⟩, hb1⟩


set_option maxRecDepth 100000 in
set_option maxHeartbeats 1000000 in
theorem toBinder_any (nm nd fr ct : Int) (na : ByteArray) (xs : List Nd) (l : Nat) (HL : Hid (xs.length = l)) (ao : Option Addr) (cap : Nat) (w : World) (hx : Nodes w ao xs) (hlen : l ≤ 1048576) :
    Calls Try.prog 16 #[.agg #[.int .i64 nm, .string na, .int .i64 nd, .int .i64 fr, .int .i64 ct, .slice ao l cap]] w fun e w' =>
      ∃ g, e = .returned (.agg #[.int .i64 nm, .string na, .int .i64 nd, .int .i64 fr, .int .i64 ct, .slice (some ⟨g, 0, none⟩) l l]) ∧ w.heap.size ≤ g ∧ Row w' g xs ∧ Below w.heap.size w w' := by
  have TN : Hid (∀ W, Below w.heap.size w W → Calls Try.prog 7 #[.slice ao l cap] W fun e w' => ∃ g, e = .returned (.slice (some ⟨g, 0, none⟩) l l) ∧ W.heap.size ≤ g ∧ Row w' g xs ∧ Below W.heap.size W w') := by
    intro W hW
    have h9 := toNodeS_any xs ao cap W (hx.below hW) (by have := HL.out; omega)
    rw [HL.out] at h9
    exact h9
  clear hx
  go_enter Try.func16, Try.ntmps16
  go_wp2_with fail
  refine (TN.out _ ((((Below.refl _ _).alloc (Nat.le_refl _) _).alloc (by simp) _).alloc (by simp; omega) _)).mono ?_
  rintro e w1 ⟨g, rfl, hg, hr, hb⟩
  have hz : w.heap.size + 3 ≤ w1.heap.size := by have := hb.size; simp at this; omega
  have k1 : w1.heap[w.heap.size + 1]? = some (.cells #[.int .i64 0, .string ⟨#[]⟩, .int .i64 0, .int .i64 0, .int .i64 0, .slice none 0 0] 39 (0, 0)) := by
    rw [hb.block _ (by simp), heap_alloc_old _ _ (by simp)]
    have h9 := heap_alloc_new (w.alloc (.cells #[.int .i64 nm, .string na, .int .i64 nd, .int .i64 fr, .int .i64 ct, .slice ao l cap] 35)) (.cells #[.int .i64 0, .string ⟨#[]⟩, .int .i64 0, .int .i64 0, .int .i64 0, .slice none 0 0] 39)
    simpa using h9
  have k2 : w1.heap[w.heap.size + 1 + 1]? = some (.cells #[.int .i64 nm, .string na, .int .i64 nd, .int .i64 fr, .int .i64 ct, .slice none 0 0] 39 (0, 0)) := by
    rw [hb.block _ (by simp)]
    have h9 := heap_alloc_new ((w.alloc (.cells #[.int .i64 nm, .string na, .int .i64 nd, .int .i64 fr, .int .i64 ct, .slice ao l cap] 35)).alloc (.cells #[.int .i64 0, .string ⟨#[]⟩, .int .i64 0, .int .i64 0, .int .i64 0, .slice none 0 0] 39)) (.cells #[.int .i64 nm, .string na, .int .i64 nd, .int .i64 fr, .int .i64 ct, .slice none 0 0] 39)
    simpa using h9
  have f1 : ∀ o, w1.frozen? ⟨w.heap.size + 1, o, none⟩ = false := fun o => frozen_of_row w1 _ o _ 39 k1
  have f2 : ∀ o, w1.frozen? ⟨w.heap.size + 1 + 1, o, none⟩ = false := fun o => frozen_of_row w1 _ o _ 39 k2
  have c0 : w1.cell? ⟨w.heap.size + 1 + 1, 0, none⟩ = some (.int .i64 nm) := by rw [cell_of_row _ _ _ _ 39 (0, 0) k2]; rfl
  have c1 : w1.cell? ⟨w.heap.size + 1 + 1, 1, none⟩ = some (.string na) := by rw [cell_of_row _ _ _ _ 39 (0, 0) k2]; rfl
  have c2 : w1.cell? ⟨w.heap.size + 1 + 1, 2, none⟩ = some (.int .i64 nd) := by rw [cell_of_row _ _ _ _ 39 (0, 0) k2]; rfl
  have c3 : w1.cell? ⟨w.heap.size + 1 + 1, 3, none⟩ = some (.int .i64 fr) := by rw [cell_of_row _ _ _ _ 39 (0, 0) k2]; rfl
  have c4 : w1.cell? ⟨w.heap.size + 1 + 1, 4, none⟩ = some (.int .i64 ct) := by rw [cell_of_row _ _ _ _ 39 (0, 0) k2]; rfl
  have c5 : w1.cell? ⟨w.heap.size + 1 + 1, 5, none⟩ = some (.slice none 0 0) := by rw [cell_of_row _ _ _ _ 39 (0, 0) k2]; rfl
  have d0 : w1.cell? ⟨w.heap.size + 1, 0, none⟩ = some (.int .i64 0) := by rw [cell_of_row _ _ _ _ 39 (0, 0) k1]; rfl
  have d1 : w1.cell? ⟨w.heap.size + 1, 1, none⟩ = some (.string ⟨#[]⟩) := by rw [cell_of_row _ _ _ _ 39 (0, 0) k1]; rfl
  have d2 : w1.cell? ⟨w.heap.size + 1, 2, none⟩ = some (.int .i64 0) := by rw [cell_of_row _ _ _ _ 39 (0, 0) k1]; rfl
  have d3 : w1.cell? ⟨w.heap.size + 1, 3, none⟩ = some (.int .i64 0) := by rw [cell_of_row _ _ _ _ 39 (0, 0) k1]; rfl
  have d4 : w1.cell? ⟨w.heap.size + 1, 4, none⟩ = some (.int .i64 0) := by rw [cell_of_row _ _ _ _ 39 (0, 0) k1]; rfl
  have d5 : w1.cell? ⟨w.heap.size + 1, 5, none⟩ = some (.slice none 0 0) := by rw [cell_of_row _ _ _ _ 39 (0, 0) k1]; rfl
  have hbb := Below.step ((((Below.refl w.heap.size w).alloc (Nat.le_refl _) _).alloc (by simp) _).alloc (by simp; omega) _) hb
  have hgs : w.heap.size + 3 ≤ g := by simpa using hg
  have hbu : But (fun q => q = w.heap.size + 1 + 1 ∨ q = w.heap.size + 1) w1 (((((((w1.setCell ⟨w.heap.size + 1 + 1, 5, none⟩ (.slice (some ⟨g, 0, none⟩) l l)).setCell ⟨w.heap.size + 1, 0, none⟩ (.int .i64 nm)).setCell ⟨w.heap.size + 1, 1, none⟩ (.string na)).setCell ⟨w.heap.size + 1, 2, none⟩ (.int .i64 nd)).setCell ⟨w.heap.size + 1, 3, none⟩ (.int .i64 fr)).setCell ⟨w.heap.size + 1, 4, none⟩ (.int .i64 ct)).setCell ⟨w.heap.size + 1, 5, none⟩ (.slice (some ⟨g, 0, none⟩) l l)) :=
    (((((((But.refl (fun q => q = w.heap.size + 1 + 1 ∨ q = w.heap.size + 1) w1).setCell (p := ⟨w.heap.size + 1 + 1, 5, none⟩) (Or.inl rfl) _).setCell (p := ⟨w.heap.size + 1, 0, none⟩) (Or.inr rfl) _).setCell (p := ⟨w.heap.size + 1, 1, none⟩) (Or.inr rfl) _).setCell (p := ⟨w.heap.size + 1, 2, none⟩) (Or.inr rfl) _).setCell (p := ⟨w.heap.size + 1, 3, none⟩) (Or.inr rfl) _).setCell (p := ⟨w.heap.size + 1, 4, none⟩) (Or.inr rfl) _).setCell (p := ⟨w.heap.size + 1, 5, none⟩) (Or.inr rfl) _
  have HR : Hid (Row (((((((w1.setCell ⟨w.heap.size + 1 + 1, 5, none⟩ (.slice (some ⟨g, 0, none⟩) l l)).setCell ⟨w.heap.size + 1, 0, none⟩ (.int .i64 nm)).setCell ⟨w.heap.size + 1, 1, none⟩ (.string na)).setCell ⟨w.heap.size + 1, 2, none⟩ (.int .i64 nd)).setCell ⟨w.heap.size + 1, 3, none⟩ (.int .i64 fr)).setCell ⟨w.heap.size + 1, 4, none⟩ (.int .i64 ct)).setCell ⟨w.heap.size + 1, 5, none⟩ (.slice (some ⟨g, 0, none⟩) l l)) g xs) := hbu.row hr (by omega)
  have HB : Hid (Below w.heap.size w (((((((w1.setCell ⟨w.heap.size + 1 + 1, 5, none⟩ (.slice (some ⟨g, 0, none⟩) l l)).setCell ⟨w.heap.size + 1, 0, none⟩ (.int .i64 nm)).setCell ⟨w.heap.size + 1, 1, none⟩ (.string na)).setCell ⟨w.heap.size + 1, 2, none⟩ (.int .i64 nd)).setCell ⟨w.heap.size + 1, 3, none⟩ (.int .i64 fr)).setCell ⟨w.heap.size + 1, 4, none⟩ (.int .i64 ct)).setCell ⟨w.heap.size + 1, 5, none⟩ (.slice (some ⟨g, 0, none⟩) l l))) := hbb.trans (hbu.below hbb.size (fun q hq => by omega))
  clear TN k1 k2 hbu hbb hb hr hg
  go_wp2
  refine bodyPost_ret (v := .agg #[.int .i64 nm, .string na, .int .i64 nd, .int .i64 fr, .int .i64 ct, .slice (some ⟨g, 0, none⟩) l l]) ?_ rfl ⟨g, rfl, by omega, HR.out, HB.out⟩
  simp only [results, Try.results16]
  simp [go_sem, d0, d1, d2, d3, d4, d5]

set_option maxHeartbeats 1000000 in
theorem eqBinder_same (nm nd fr ct : Int) (na : ByteArray) (ks : List Nd) (l : Nat) (HL : Hid (ks.length = l)) (ai bi : Option Addr) (ci di : Nat) (w : World) (hn : Nodes w ai ks) (hn' : Nodes w bi ks) (hlen : l ≤ 1048576) :
    Calls Try.prog 18 #[.agg #[.int .i64 nm, .string na, .int .i64 nd, .int .i64 fr, .int .i64 ct, .slice ai l ci], .agg #[.int .i64 nm, .string na, .int .i64 nd, .int .i64 fr, .int .i64 ct, .slice bi l di]] w fun e w' => e = .returned (.bool true) ∧ Below w.heap.size w w' := by
  have hA : Below w.heap.size w (w.alloc (.cells #[.int .i64 nm, .string na, .int .i64 nd, .int .i64 fr, .int .i64 ct, .slice ai l ci] 39)) := (Below.refl _ w).alloc (Nat.le_refl _) _
  have hB := hA.alloc hA.size (.cells #[.int .i64 nm, .string na, .int .i64 nd, .int .i64 fr, .int .i64 ct, .slice bi l di] 39)
  have t1 : (nm != nm) = false := by simp
  have t2 : (nd != nd) = false := by simp
  have t3 : (fr != fr) = false := by simp
  have t4 : (ct != ct) = false := by simp
  go_enter Try.func18, Try.ntmps18
  go_wp2_with fail
  refine (eqNodeS_any ks ks l l HL HL ai bi ci di _ (hn.below hB) (hn'.below hB) (by omega) (by omega)).mono ?_
  rintro e w1 ⟨⟨r, rfl, hr⟩, hb1⟩
  have hr1 : r = true := hr.2 ⟨rfl, fun _ _ _ => Nd.eqb_refl _⟩
  subst hr1
  have hbb := Below.step hB hb1
  clear hA hB hb1 hn hn' hr
  go_wp2
  go_ret
  exact ⟨rfl, hbb⟩

set_option maxHeartbeats 1000000 in
theorem markBinder_any (nm nd fr ct : Int) (na : ByteArray) (ys : List Nd) (n : Nat) (HN : Hid (ys.length = n)) (g cap k : Nat) (w : World) (hr : Row w g ys) (hn : n ≤ 1048577) (hk : k ≤ 100000000) (hk0 : 0 < k) :
    Calls Try.prog 19 #[.agg #[.int .i64 nm, .string na, .int .i64 nd, .int .i64 fr, .int .i64 ct, .slice (some ⟨g, 0, none⟩) n cap], .int .i64 k] w fun e w' =>
      e = .returned (.int .i64 (k + 5 * n : Nat)) ∧ But (· = g) w w' := by
  have hA : Below w.heap.size w (w.alloc (.cells #[.int .i64 nm, .string na, .int .i64 nd, .int .i64 fr, .int .i64 ct, .slice (some ⟨g, 0, none⟩) n cap] 39)) := (Below.refl _ w).alloc (Nat.le_refl _) _
  go_enter Try.func19, Try.ntmps19
  go_wp2_with fail
  refine (markNodeS_any ys n g cap k _ HN (hr.below hA) hn hk hk0).mono ?_
  rintro e w1 ⟨rfl, _, hb1⟩
  have hbb := (But.ofBelow (S := (· = g)) hA).trans hb1
  clear hA hb1 hr
  go_wp2
  go_ret
  exact ⟨rfl, hbb⟩

end Go.Proofs.Ytljdcaoibnikjaa
