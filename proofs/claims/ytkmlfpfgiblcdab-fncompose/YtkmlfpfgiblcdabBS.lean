
import Derived.Test.YtkmlfpfgiblcdabSS
import Derived.Test.YtkmlfpfgiblcdabSz
import Derived.Test.YtkmlfpfgiblcdabTo
import Derived.Test.YtkmlfpfgiblcdabEq
import Derived.Test.YtkmlfpfgiblcdabLong
import Derived.Deep.OwnRows
namespace Go.Proofs.Ytkmlfpfgiblcdab
open Go.RowKit

/-- Cells two by two. -/
def cells2 (ps : List (Value × Value)) : List Value := ps.flatMap fun p => [p.1, p.2]

theorem cells2_length (ps : List (Value × Value)) : (cells2 ps).length = ps.length * 2 := by
  induction ps with
  | nil => rfl
  | cons m ms ih => simp only [cells2, List.flatMap_cons, List.length_append, List.length_cons, List.length_nil] at *; omega

theorem cells2_append (a b : List (Value × Value)) : cells2 (a ++ b) = cells2 a ++ cells2 b := by simp [cells2]

theorem cells2_get (ps : List (Value × Value)) (i : Nat) (h : i < ps.length) : (cells2 ps)[i * 2]? = some ps[i].1 ∧ (cells2 ps)[i * 2 + 1]? = some ps[i].2 := by
  induction ps generalizing i with
  | nil => simp at h
  | cons m ms ih =>
    cases i with
    | zero => simp [cells2]
    | succ i =>
      have e1 : (i + 1) * 2 = i * 2 + 1 + 1 := by omega
      have h9 := ih i (by simpa using h)
      rw [e1]
      simpa [cells2] using h9

theorem cells2_set (ps : List (Value × Value)) (j : Nat) (p : Value × Value) : ((cells2 ps).set (j * 2) p.1).set (j * 2 + 1) p.2 = cells2 (ps.set j p) := by
  induction ps generalizing j with
  | nil => simp [cells2]
  | cons m ms ih =>
    cases j with
    | zero => simp [cells2]
    | succ j =>
      have e1 : (j + 1) * 2 = j * 2 + 1 + 1 := by omega
      have h9 := ih j
      rw [e1]
      simp only [cells2, List.flatMap_cons, List.cons_append, List.nil_append, List.set_cons_succ] at h9 ⊢
      rw [h9]

/-- A slice of Binds. -/
def Binds (w : World) (ao : Option Addr) (bs : List (Int × List Nd)) : Prop :=
  ∀ i (h : i < bs.length), ∃ b o ai ci, ao = some ⟨b, o, none⟩ ∧ w.cell? ⟨b, o + i * 2, none⟩ = some (.int .i64 bs[i].1) ∧ w.cell? ⟨b, o + i * 2 + 1, none⟩ = some (.slice ai bs[i].2.length ci) ∧ Nodes w ai bs[i].2

theorem Binds.below {w w' : World} {ao : Option Addr} {bs : List (Int × List Nd)} (h : Binds w ao bs) (hb : Below w.heap.size w w') : Binds w' ao bs := by
  intro i hi
  obtain ⟨b, o, ai, ci, e, h0, hc, hn⟩ := h i hi
  exact ⟨b, o, ai, ci, e, (hb.cell (p := ⟨b, o + i * 2, none⟩) (lt_of_cell h0)).trans h0, (hb.cell (p := ⟨b, o + i * 2 + 1, none⟩) (lt_of_cell hc)).trans hc, hn.below hb⟩

/-- The types of Binds. -/
def tys (bs : List (Int × List Nd)) : List (List Nd) := bs.map Prod.snd

set_option maxHeartbeats 400000 in
theorem szBind_any (x : Int) (ks : List Nd) (l : Nat) (HL : Hid (ks.length = l)) (ai : Option Addr) (ci : Nat) (left : Int) (w : World) (hn : Nodes w ai ks) (hs : ∀ x ∈ ks, x.text.size ≤ maxLen) (hlen : l ≤ 9223372036854775807) (h0 : 0 ≤ left) (h1 : left ≤ 1048576) :
    Calls Try.prog 51 #[.agg #[.int .i64 x, .slice ai l ci], .int .i64 left] w fun e w' =>
      (∃ r : Int, e = .returned (.int .i64 r) ∧ (r = -1 ∨ (0 ≤ r ∧ r ≤ left - l))) ∧ Below w.heap.size w w' := by
  have hz := szNodeS_any ks ai ci left
  rw [HL.out] at hz
  have HZ : Hid (∀ (w : World), Nodes w ai ks → (∀ x ∈ ks, x.text.size ≤ maxLen) → l ≤ 9223372036854775807 → 0 ≤ left → left ≤ 1048576 → Calls Try.prog 9 #[.slice ai l ci, .int .i64 left] w fun e w' => (∃ r : Int, e = .returned (.int .i64 r) ∧ (r = -1 ∨ (0 ≤ r ∧ r ≤ left - l))) ∧ Below w.heap.size w w') := hz
  clear hz
  have HN : Hid (Nodes w ai ks) := hn
  have HS : Hid (∀ x ∈ ks, x.text.size ≤ maxLen) := hs
  clear hn hs
  go_enter Try.func51, Try.ntmps51
  go_wp2_with fail
  have hbA : Below w.heap.size w (w.alloc (.cells #[.int .i64 x, .slice ai l ci] 69)) := (Below.refl _ w).alloc (Nat.le_refl _) _
  refine (HZ.out _ (HN.out.below hbA) HS.out hlen h0 h1).mono ?_
  rintro e w1 ⟨⟨r, rfl, hr⟩, hb1⟩
  have hbb := Below.step hbA hb1
  clear hbA hb1
  rcases hr with hr | ⟨hr2, hr3⟩
  · subst hr
    go_wp2
    go_ret
    exact ⟨⟨-1, rfl, Or.inl rfl⟩, hbb⟩
  · have tr : decide (r < 0) = false := decide_eq_false (by omega)
    go_wp2
    go_ret
    exact ⟨⟨r, rfl, Or.inr ⟨hr2, hr3⟩⟩, hbb⟩

set_option maxHeartbeats 400000 in
theorem toBind_any (x : Int) (ks : List Nd) (l : Nat) (HL : Hid (ks.length = l)) (ai : Option Addr) (ci : Nat) (w : World) (hn : Nodes w ai ks) (hlen : l ≤ 1048576) :
    Calls Try.prog 54 #[.agg #[.int .i64 x, .slice ai l ci]] w fun e w' =>
      ∃ g, e = .returned (.agg #[.int .i64 x, .slice (some ⟨g, 0, none⟩) l l]) ∧ w.heap.size ≤ g ∧ Row w' g ks ∧ Below w.heap.size w w' := by
  have hz := toNodeS_any ks ai ci
  rw [HL.out] at hz
  have HZ : Hid (∀ (w : World), Nodes w ai ks → l ≤ 1048576 → Calls Try.prog 11 #[.slice ai l ci] w fun e w' => ∃ g, e = .returned (.slice (some ⟨g, 0, none⟩) l l) ∧ w.heap.size ≤ g ∧ Row w' g ks ∧ Below w.heap.size w w') := hz
  clear hz
  have HN : Hid (Nodes w ai ks) := hn
  clear hn
  go_enter Try.func54, Try.ntmps54
  go_wp2_with fail
  have hA : Below w.heap.size w (w.alloc (.cells #[.int .i64 x, .slice ai l ci] 69)) := (Below.refl _ w).alloc (Nat.le_refl _) _
  have hB := hA.alloc hA.size (.cells #[.int .i64 0, .slice none 0 0] 71)
  have hC := hB.alloc hB.size (.cells #[.int .i64 x, .slice none 0 0] 71)
  have hox : OwnT 71 (((w.alloc (.cells #[.int .i64 x, .slice ai l ci] 69)).alloc (.cells #[.int .i64 0, .slice none 0 0] 71)).alloc (.cells #[.int .i64 x, .slice none 0 0] 71)) (w.heap.size + 1 + 1) [.int .i64 x, .slice none 0 0] := by
    refine ⟨#[.int .i64 x, .slice none 0 0], [], ?_, rfl⟩
    have h9 := heap_alloc_new ((w.alloc (.cells #[.int .i64 x, .slice ai l ci] 69)).alloc (.cells #[.int .i64 0, .slice none 0 0] 71)) (.cells #[.int .i64 x, .slice none 0 0] 71)
    simpa using h9
  have hoy : OwnT 71 (((w.alloc (.cells #[.int .i64 x, .slice ai l ci] 69)).alloc (.cells #[.int .i64 0, .slice none 0 0] 71)).alloc (.cells #[.int .i64 x, .slice none 0 0] 71)) (w.heap.size + 1) [.int .i64 0, .slice none 0 0] := by
    have h9 : OwnT 71 ((w.alloc (.cells #[.int .i64 x, .slice ai l ci] 69)).alloc (.cells #[.int .i64 0, .slice none 0 0] 71)) (w.heap.size + 1) [.int .i64 0, .slice none 0 0] := by
      refine ⟨#[.int .i64 0, .slice none 0 0], [], ?_, rfl⟩
      have h8 := heap_alloc_new (w.alloc (.cells #[.int .i64 x, .slice ai l ci] 69)) (.cells #[.int .i64 0, .slice none 0 0] 71)
      simpa using h8
    exact h9.below ((Below.refl _ _).alloc (Nat.le_refl _) _)
  refine (HZ.out _ (HN.out.below hC) hlen).mono ?_
  rintro e w1 ⟨g, rfl, hg, hr, hb1⟩
  have hox1 := hox.below hb1
  have o0 := hox1.at 0 (by simp)
  have o1 := hox1.at 1 (by simp)
  have fz := hox1.frozen 1
  have hlt := hox1.lt
  simp only [List.getElem?_cons_zero, List.getElem?_cons_succ] at o0 o1
  have hbb := Below.step hC hb1
  have hgs : w.heap.size + 3 ≤ g := by simpa using hg
  have hoy1 := hoy.below hb1
  have y0 := hoy1.at 0 (by simp)
  have y1 := hoy1.at 1 (by simp)
  have fy0 := hoy1.frozen 0
  have fy1 := hoy1.frozen 1
  simp only [List.getElem?_cons_zero, List.getElem?_cons_succ] at y0 y1
  have hbu : But (fun q => q = w.heap.size + 1 + 1 ∨ q = w.heap.size + 1) w1 (((w1.setCell ⟨w.heap.size + 1 + 1, 1, none⟩ (.slice (some ⟨g, 0, none⟩) l l)).setCell ⟨w.heap.size + 1, 0, none⟩ (.int .i64 x)).setCell ⟨w.heap.size + 1, 1, none⟩ (.slice (some ⟨g, 0, none⟩) l l)) :=
    (((But.refl (fun q => q = w.heap.size + 1 + 1 ∨ q = w.heap.size + 1) w1).setCell (p := ⟨w.heap.size + 1 + 1, 1, none⟩) (Or.inl rfl) _).setCell (p := ⟨w.heap.size + 1, 0, none⟩) (Or.inr rfl) _).setCell (p := ⟨w.heap.size + 1, 1, none⟩) (Or.inr rfl) _
  have hr2 : Row (((w1.setCell ⟨w.heap.size + 1 + 1, 1, none⟩ (.slice (some ⟨g, 0, none⟩) l l)).setCell ⟨w.heap.size + 1, 0, none⟩ (.int .i64 x)).setCell ⟨w.heap.size + 1, 1, none⟩ (.slice (some ⟨g, 0, none⟩) l l)) g ks := hbu.row hr (by omega)
  have hb2 : Below w.heap.size w (((w1.setCell ⟨w.heap.size + 1 + 1, 1, none⟩ (.slice (some ⟨g, 0, none⟩) l l)).setCell ⟨w.heap.size + 1, 0, none⟩ (.int .i64 x)).setCell ⟨w.heap.size + 1, 1, none⟩ (.slice (some ⟨g, 0, none⟩) l l)) := hbb.trans (hbu.below hbb.size (fun q hq => by omega))
  have HR : Hid (Row (((w1.setCell ⟨w.heap.size + 1 + 1, 1, none⟩ (.slice (some ⟨g, 0, none⟩) l l)).setCell ⟨w.heap.size + 1, 0, none⟩ (.int .i64 x)).setCell ⟨w.heap.size + 1, 1, none⟩ (.slice (some ⟨g, 0, none⟩) l l)) g ks) := hr2
  have HB : Hid (Below w.heap.size w (((w1.setCell ⟨w.heap.size + 1 + 1, 1, none⟩ (.slice (some ⟨g, 0, none⟩) l l)).setCell ⟨w.heap.size + 1, 0, none⟩ (.int .i64 x)).setCell ⟨w.heap.size + 1, 1, none⟩ (.slice (some ⟨g, 0, none⟩) l l))) := hb2
  clear hA hB hC hox hox1 hb1 hr hbb hg hoy hoy1 hbu hr2 hb2
  go_wp2
  refine bodyPost_ret (v := .agg #[.int .i64 x, .slice (some ⟨g, 0, none⟩) l l]) ?_ rfl ⟨g, rfl, by omega, HR.out, HB.out⟩
  simp only [results, Try.results54]
  simp [go_sem, y0, y1]

set_option maxHeartbeats 400000 in
theorem eqBind_same (x : Int) (ks : List Nd) (l : Nat) (HL : Hid (ks.length = l)) (ai bi : Option Addr) (ci di : Nat) (w : World) (hn : Nodes w ai ks) (hn' : Nodes w bi ks) (hlen : l ≤ 1048576) :
    Calls Try.prog 58 #[.agg #[.int .i64 x, .slice ai l ci], .agg #[.int .i64 x, .slice bi l di]] w fun e w' => e = .returned (.bool true) ∧ Below w.heap.size w w' := by
  have tx : (x != x) = false := by simp
  go_enter Try.func58, Try.ntmps58
  go_wp2_with fail
  have hA : Below w.heap.size w (w.alloc (.cells #[.int .i64 x, .slice ai l ci] 71)) := (Below.refl _ w).alloc (Nat.le_refl _) _
  have hB := hA.alloc hA.size (.cells #[.int .i64 x, .slice bi l di] 71)
  refine (eqNodeS_any ks ks l l HL HL ai bi ci di _ (hn.below hB) (hn'.below hB) (by omega) (by omega)).mono ?_
  rintro e w1 ⟨⟨r, rfl, hr⟩, hb1⟩
  have hr1 : r = true := hr.2 ⟨rfl, fun _ _ _ => Nd.eqb_refl _⟩
  subst hr1
  have hbb := Below.step hB hb1
  clear hA hB hb1 hn hn' hr
  go_wp2
  go_ret
  exact ⟨rfl, hbb⟩

end Go.Proofs.Ytkmlfpfgiblcdab
