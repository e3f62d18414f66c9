import Derived.Test.YtedlofpgddjpgaaGreatWBW
import Derived.Test.YtedlofpgddjpgaaGreatWBT
import Derived.Test.YtedlofpgddjpgaaGreatLPt
namespace Go.Proofs.YtedlofpgddjpgaaGreat
open Go.RowKit Go.Maps
structure LesN (L : LesAt) (t : List Nd) (w : World) (k n1 n2 : Nat) : Prop where
  c0 : w.cell? ⟨L.lb, 0, none⟩ = some (.map (some L.m1))
  c1 : w.cell? ⟨L.lb, 1, none⟩ = some (.map (some L.m2))
  c2 : w.cell? ⟨L.lb, 2, none⟩ = some (.map (some L.m3))
  mb : CntN w L.m1 n1 (cntK bndK (t.take k))
  mu : CntN w L.m2 n2 (cntK (· == 70) (t.take k))
  ma : w.ownsMap Tryz.prog 2 heldPL L.m3 0 (.map [])
  apart : L.lb ≠ L.m1 ∧ L.lb ≠ L.m2 ∧ L.lb ≠ L.m3 ∧ L.m1 ≠ L.m2 ∧ L.m1 ≠ L.m3 ∧ L.m2 ≠ L.m3
  n1k : n1 ≤ k
  n2k : n2 ≤ k
theorem LesN.les {L : LesAt} {t : List Nd} {w : World} {n1 n2 : Nat} (h : LesN L t w t.length n1 n2) {A : Nat → Prop} (hA : ∀ q, A q → q ≠ L.m3) : LesS L (cntK bndK t) (cntK (· == 70) t) w A 0 (fun _ => none) := by
  have h1 := h.mb.cnt
  have h2 := h.mu.cnt
  rw [List.take_length] at h1 h2
  obtain ⟨a1, a2, a3, a4, a5, a6⟩ := h.apart
  exact ⟨h.c0, h.c1, h.c2, h1, h2, ⟨.map [], fun _ => none, h.ma, tidy_empty, fun x => ⟨rfl, rfl, fun T b h9 => by cases h9⟩⟩, ⟨a3, a5, a6⟩, hA⟩
theorem LesN.under {L : LesAt} {t : List Nd} {w w' : World} {k n1 n2 : Nat} (h : LesN L t w k n1 n2) (hb : Below w.heap.size w w') : LesN L t w' k n1 n2 := by
  have hbt := But.ofBelow (S := fun _ => False) hb
  exact ⟨hbt.cellL h.c0 (fun h => h), hbt.cellL h.c1 (fun h => h), hbt.cellL h.c2 (fun h => h), h.mb.but hbt (fun h => h), h.mu.but hbt (fun h => h), ownsL_but h.ma hbt (fun h => h), h.apart, h.n1k, h.n2k⟩
theorem CntN.congr {w : World} {b n : Nat} {f f' : Int → Nat} (h : CntN w b n f) (e : ∀ x, 1 ≤ x → f x = f' x) : CntN w b n f' := by
  obtain ⟨D, h1, h2, h3⟩ := h
  exact ⟨D, h1, h2, fun x hx => by rw [h3 x hx, e x hx]⟩
theorem LesN.bound {L : LesAt} {t : List Nd} {w : World} {k n1 n2 : Nat} (h : LesN L t w k n1 n2) (hk : k < t.length) (hl : t.length ≤ 1048576) (hb : bndK t[k].kind = true) (h1 : 1 ≤ t[k].num) (hx : (Lit.int .i64 t[k].num).wf = true) :
    ∃ w', (Instr.mapUpdate 37 (.map (some L.m1)) (.int .i64 t[k].num) (.int .i64 ((cntK bndK (t.take k) t[k].num : Int) + 1))).run Tryz.prog w = .ok () w' ∧ LesN L t w' (k + 1) (n1 + 1) n2 ∧ But (fun p => p = L.m1) w w' := by
  have hn1 := h.n1k
  have hn2 := h.n2k
  have hc := cntK_le bndK (t.take k) t[k].num
  have hc2 : (t.take k).length ≤ t.length := by rw [List.length_take]; omega
  obtain ⟨w', hr, hm, hbt⟩ := h.mb.inc (by unfold maxLen; omega) hx (by simp only [Lit.wf, Bool.and_eq_true, decide_eq_true_eq]; exact ⟨by show (-9223372036854775808 : Int) ≤ _; omega, by show _ ≤ (9223372036854775807 : Int); omega⟩)
  have ek : t.take (k + 1) = t.take k ++ [t[k]] := by rw [List.take_append_getElem hk]
  obtain ⟨a1, a2, a3, a4, a5, a6⟩ := h.apart
  have h70 : (t[k].kind == 70) = false := by
    rw [beq_eq_false_iff_ne]
    intro e
    rw [e] at hb
    cases hb
  refine ⟨w', hr, ⟨hbt.cellL h.c0 a1, hbt.cellL h.c1 a1, hbt.cellL h.c2 a1, ?_, ?_, ownsL_but h.ma hbt (fun e => a5 e.symm), h.apart, by omega, by omega⟩, hbt⟩
  · refine hm.congr (fun x h9 => ?_)
    rw [ek, cntK_push]
    by_cases e : x = t[k].num
    · subst e
      simp [hb, h1]
    · have e2 : ¬ t[k].num = x := fun h => e h.symm
      simp [e, e2]
  · refine (h.mu.but hbt (fun e => a4 e.symm)).congr (fun x h9 => ?_)
    rw [ek, cntK_push]
    simp [h70]
theorem LesN.used {L : LesAt} {t : List Nd} {w : World} {k n1 n2 : Nat} (h : LesN L t w k n1 n2) (hk : k < t.length) (hl : t.length ≤ 1048576) (hb : t[k].kind = 70) (h1 : 1 ≤ t[k].num) (hx : (Lit.int .i64 t[k].num).wf = true) :
    ∃ w', (Instr.mapUpdate 37 (.map (some L.m2)) (.int .i64 t[k].num) (.int .i64 ((cntK (· == 70) (t.take k) t[k].num : Int) + 1))).run Tryz.prog w = .ok () w' ∧ LesN L t w' (k + 1) n1 (n2 + 1) ∧ But (fun p => p = L.m2) w w' := by
  have hn1 := h.n1k
  have hn2 := h.n2k
  have hc := cntK_le (· == 70) (t.take k) t[k].num
  have hc2 : (t.take k).length ≤ t.length := by rw [List.length_take]; omega
  obtain ⟨w', hr, hm, hbt⟩ := h.mu.inc (by unfold maxLen; omega) hx (by simp only [Lit.wf, Bool.and_eq_true, decide_eq_true_eq]; exact ⟨by show (-9223372036854775808 : Int) ≤ _; omega, by show _ ≤ (9223372036854775807 : Int); omega⟩)
  have ek : t.take (k + 1) = t.take k ++ [t[k]] := by rw [List.take_append_getElem hk]
  obtain ⟨a1, a2, a3, a4, a5, a6⟩ := h.apart
  have hnb : bndK t[k].kind = false := by rw [hb]; rfl
  refine ⟨w', hr, ⟨hbt.cellL h.c0 a2, hbt.cellL h.c1 a2, hbt.cellL h.c2 a2, ?_, ?_, ownsL_but h.ma hbt (fun e => a6 e.symm), h.apart, by omega, by omega⟩, hbt⟩
  · refine (h.mb.but hbt (fun e => a4 e)).congr (fun x h9 => ?_)
    rw [ek, cntK_push]
    simp [hnb]
  · refine hm.congr (fun x h9 => ?_)
    rw [ek, cntK_push]
    by_cases e : x = t[k].num
    · subst e
      simp [hb, h1]
    · have e2 : ¬ t[k].num = x := fun h => e h.symm
      simp [e, e2]
theorem LesN.skip {L : LesAt} {t : List Nd} {w : World} {k n1 n2 : Nat} (h : LesN L t w k n1 n2) (hk : k < t.length) (hb : bndK t[k].kind = false) (h7 : t[k].kind ≠ 70) : LesN L t w (k + 1) n1 n2 := by
  have hn1 := h.n1k
  have hn2 := h.n2k
  have ek : t.take (k + 1) = t.take k ++ [t[k]] := by rw [List.take_append_getElem hk]
  have h70 : (t[k].kind == 70) = false := beq_eq_false_iff_ne.2 h7
  refine ⟨h.c0, h.c1, h.c2, h.mb.congr (fun x h9 => ?_), h.mu.congr (fun x h9 => ?_), h.ma, h.apart, by omega, by omega⟩
  · rw [ek, cntK_push]
    simp [hb]
  · rw [ek, cntK_push]
    simp [h70]
end Go.Proofs.YtedlofpgddjpgaaGreat

namespace Go.Proofs.YtedlofpgddjpgaaGreat
open Go.RowKit Go.Maps
theorem LesN.start (w : World) (t : List Nd) : LesN ⟨w.heap.size + 3, w.heap.size, w.heap.size + 1, w.heap.size + 2⟩ t ((((w.alloc (.map #[] 0)).alloc (.map #[] 0)).alloc (.map #[] 0)).alloc (.cells #[.map (some w.heap.size), .map (some (w.heap.size + 1)), .map (some (w.heap.size + 2))] 40)) 0 0 0 := by
  have r := heap_alloc_new (((w.alloc (.map #[] 0)).alloc (.map #[] 0)).alloc (.map #[] 0)) (.cells #[.map (some w.heap.size), .map (some (w.heap.size + 1)), .map (some (w.heap.size + 2))] 40)
  simp only [World.size_alloc] at r
  have z0 : ∀ (p : Int → Bool) (x : Int), cntK p (t.take 0) x = 0 := fun p x => by unfold cntK; split <;> simp
  have m0 : ∀ W : World, (W.alloc (.map #[] 0)).ownsMap Tryz.prog 2 (plainElem (H := Unit) Tryz.prog 3) W.heap.size 0 (.map []) := fun W => World.ownsMap_made _ _ _ _
  have m1 : ∀ W : World, (W.alloc (.map #[] 0)).ownsMap Tryz.prog 2 heldPL W.heap.size 0 (.map []) := fun W => World.ownsMap_made _ _ _ _
  have up : ∀ {H : Type} {W : World} {R : Value → Option (DataW H × List MemPlace)} {b : Nat} {D : DataW H} (o : Obj), W.ownsMap Tryz.prog 2 R b 0 D → (W.alloc o).ownsMap Tryz.prog 2 R b 0 D := fun o h => ownsL_but h (But.ofBelow (S := fun _ => False) ((Below.refl _ _).alloc (Nat.le_refl _) o)) (fun h => h)
  have a1 := up (.cells #[.map (some w.heap.size), .map (some (w.heap.size + 1)), .map (some (w.heap.size + 2))] 40) (up (.map #[] 0) (up (.map #[] 0) (m0 w)))
  have a2 := up (.cells #[.map (some w.heap.size), .map (some (w.heap.size + 1)), .map (some (w.heap.size + 2))] 40) (up (.map #[] 0) (m0 (w.alloc (.map #[] 0))))
  have a3 := up (.cells #[.map (some w.heap.size), .map (some (w.heap.size + 1)), .map (some (w.heap.size + 2))] 40) (m1 ((w.alloc (.map #[] 0)).alloc (.map #[] 0)))
  simp only [World.size_alloc] at a2 a3
  refine ⟨by rw [cell_of_row _ _ _ _ _ _ r]; rfl, by rw [cell_of_row _ _ _ _ _ _ r]; rfl, by rw [cell_of_row _ _ _ _ _ _ r]; rfl, ⟨.map [], a1, tidy_empty, fun x _ => by rw [z0]; rfl⟩, ⟨.map [], a2, tidy_empty, fun x _ => by rw [z0]; rfl⟩, a3, ⟨by simp, by simp, by simp, by simp, by simp, by simp⟩, by omega, by omega⟩
end Go.Proofs.YtedlofpgddjpgaaGreat

namespace Go.Proofs.YtedlofpgddjpgaaGreat
open Go.RowKit Go.Maps
theorem Tryz.mk37 (W : World) : (Instr.makeMap 37 none).run Tryz.prog W = .ok (.map (some W.heap.size)) (W.alloc (.map #[] 0)) := by kernel_rfl
theorem Tryz.mk38 (W : World) : (Instr.makeMap 38 none).run Tryz.prog W = .ok (.map (some W.heap.size)) (W.alloc (.map #[] 0)) := by kernel_rfl
end Go.Proofs.YtedlofpgddjpgaaGreat

namespace Go.Proofs.YtedlofpgddjpgaaGreat
open Go.RowKit
theorem OwnN.baseL {w : World} {B B' g c l : Nat} {zs : List Nd} (h : OwnN w B g c l zs) (hb : B' ≤ B) : OwnN w B' g c l zs := by
  obtain ⟨h1, h2, h3⟩ := h
  refine ⟨h1, h2, ?_⟩
  rcases h3 with h3 | ⟨g', cap, cur, e, h4, h5⟩
  · exact Or.inl h3
  · exact Or.inr ⟨g', cap, cur, e, by omega, h5⟩
def LessS (t l : List Nd) : Prop := (PlainS t ∧ l = lessL t t.length) ∨ (¬ PlainS t ∧ l = [])
theorem LessS.same {t l l' : List Nd} (h : LessS t l) (h' : LessS t l') : l = l' := by
  rcases h with ⟨h1, rfl⟩ | ⟨h1, rfl⟩ <;> rcases h' with ⟨h2, rfl⟩ | ⟨h2, rfl⟩
  · rfl
  · exact absurd h1 h2
  · exact absurd h2 h1
  · rfl
theorem plain_pass (t : List Nd) (m : Nat) (HM : Hid (t.length = m)) (hP : PlainS t) (htx : ∀ x ∈ t, x.text.size ≤ 1048576 ∧ (Lit.int .i64 x.num).wf = true) (ao : Option Addr) (cap : Nat) (w : World) (hx : Nodes w ao t) :
    Calls Tryz.prog 16 #[.slice ao m cap] w fun e w' => ∃ g c l, e = .returned (.slice (some ⟨g, 0, none⟩) l c) ∧ OwnN w' w.heap.size g c l (lessL t m) ∧ Below w.heap.size w w' := by
  obtain ⟨h0, S, ys, hA, hS⟩ := one_of_raw hP.2.1
  rw [HM.out] at hA
  have hm6 : m ≤ 60000 := by have := hP.1; have := HM.out; omega
  have hm0 : 0 < m := by have := HM.out; omega
  obtain ⟨b, o, e, -⟩ := hx 0 h0
  subst e
  exact pass_any t m HM hm6 hm0 S ys hA hS (plain_tree HM.out hA hP htx) b o cap w hx
set_option maxRecDepth 20000 in
set_option maxHeartbeats 1000000 in
theorem specLess_any (t : List Nd) (m : Nat) (HM : Hid (t.length = m)) (hm : m ≤ 1048576) (htx : ∀ x ∈ t, x.text.size ≤ 1048576 ∧ (Lit.int .i64 x.num).wf = true) (ao : Option Addr) (cap : Nat) (w : World) (hx : Nodes w ao t) :
    Calls Tryz.prog 6 #[.slice ao m cap] w fun e w' => ∃ g c l zs, e = .returned (.slice (some ⟨g, 0, none⟩) l c) ∧ OwnN w' w.heap.size g c l zs ∧ LessS t zs ∧ Below w.heap.size w w' := by
  have HP := specPlain_any t m HM hm ao cap w hx
  have HX : Hid (Nodes w ao t) := hx
  have HT : Hid (∀ x ∈ t, x.text.size ≤ 1048576 ∧ (Lit.int .i64 x.num).wf = true) := htx
  clear hx htx
  go_enter Tryz.func6, Tryz.ntmps6
  go_wp2_with fail
  refine HP.mono ?_
  rintro e w1 ⟨⟨b, rfl, hb⟩, b1⟩
  clear HP
  cases b
  · have HF : Hid (LessS t []) := .inr ⟨fun h => (by have := hb.2 h; cases this), rfl⟩
    have hO := OwnN.empty (w := w1) (B := w.heap.size) b1.size
    have hB := b1.alloc b1.size (.cells #[] 34)
    have HO : Hid _ := hO
    have HB : Hid _ := hB
    clear hb hO hB b1
    go_wp2
    go_ret
    exact ⟨_, _, _, [], rfl, HO.out, HF.out, HB.out⟩
  · have HPS : Hid (PlainS t) := hb.1 rfl
    have hN := plain_pass t m HM HPS.out HT.out ao cap w1 (HX.out.below b1)
    have HS1 := b1.size
    have HB1 : Hid _ := b1
    clear hb b1
    go_wp2_with fail
    refine hN.mono ?_
    rintro e w2 ⟨g, c, l, rfl, hO, hb2⟩
    have HO : Hid (OwnN w2 w.heap.size g c l (lessL t m)) := hO.baseL HS1
    have HB : Hid (Below w.heap.size w w2) := Below.step HB1.out hb2
    have HL : Hid (LessS t (lessL t m)) := .inl ⟨HPS.out, by rw [HM.out]⟩
    clear hN hO hb2
    go_wp2
    go_ret
    exact ⟨g, c, l, _, rfl, HO.out, HL.out, HB.out⟩
end Go.Proofs.YtedlofpgddjpgaaGreat

namespace Go.Proofs.YtedlofpgddjpgaaGreat
open Go.RowKit Go.Maps
theorem OwnN.lift {w : World} {B g c l : Nat} {zs : List Nd} (h : OwnN w 0 g c l zs) (hb : B ≤ g) : OwnN w B g c l zs := by
  obtain ⟨h1, h2, h3⟩ := h
  refine ⟨h1, h2, ?_⟩
  rcases h3 with h3 | ⟨g', cap, cur, e, h4, h5⟩
  · exact Or.inl h3
  · have e2 : g = g' := by
      simp only [Value.slice.injEq, Option.some.injEq, Addr.mk.injEq, and_true] at e
      exact e.1
    exact Or.inr ⟨g', cap, cur, e, by omega, h5⟩
theorem lesTree (t : List Nd) (m : Nat) (HM : Hid (t.length = m)) (hP : PlainS t) (htx : ∀ x ∈ t, x.text.size ≤ 1048576 ∧ (Lit.int .i64 x.num).wf = true) (ao : Option Addr) (cap : Nat) (W : World) (hx : Nodes W ao t) :
    Calls Tryz.prog 20 #[.slice ao m cap] W fun e w' => ∃ b, e = .returned (.pointer (some ⟨b, 0, none⟩)) ∧ PRep w' (fun q => W.heap.size ≤ q) (treT t m (m - 1)) b ∧ Below W.heap.size W w' := by
  obtain ⟨h0, S, ys, hA, hS⟩ := one_of_raw hP.2.1
  rw [HM.out] at hA
  have hm6 : m ≤ 60000 := by have := hP.1; have := HM.out; omega
  have hm0 : 0 < m := by have := HM.out; omega
  refine (treeOf_any W t m HM hm6 hm0 S ys hA hS ao cap hx).mono ?_
  rintro e w' ⟨b, rfl, hT, hb⟩
  exact ⟨b, rfl, treT_rep hA (plain_tree HM.out hA hP htx) m (m - 1) b (by omega) (by omega) hT, hb⟩
def lesT (t : List Nd) (m : Nat) : Tre := (lessT (cntK bndK t) (cntK (· == 70) t) (treT t m (m - 1)) (fun _ => none)).1
theorem lesT_facts {t : List Nd} {m : Nat} (HM : t.length = m) (hP : PlainS t) (htx : ∀ x ∈ t, x.text.size ≤ 1048576 ∧ (Lit.int .i64 x.num).wf = true) : PlT (treT t m (m - 1)) ∧ szT (treT t m (m - 1)) = m ∧ szT (lesT t m) ≤ m := by
  obtain ⟨h0, S, ys, hA, hS⟩ := one_of_raw hP.2.1
  rw [HM] at hA h0
  have hT := plain_tree HM hA hP htx m (m - 1) (by omega) (by omega)
  have hR := tree_root HM hA hS h0
  have hk := (less_kept (cntK bndK t) (cntK (· == 70) t) (treT t m (m - 1)) (fun _ => none) hT (fun x V h9 => by cases h9)).1
  have e : szT (treT t m (m - 1)) = m := by unfold szT; rw [hR, HM]
  refine ⟨hT, e, ?_⟩
  have h9 := hk.le
  unfold szT at e
  rw [e] at h9
  exact h9
theorem lesWrite (t : List Nd) (m : Nat) (HM : Hid (t.length = m)) (hP : PlainS t) (htx : ∀ x ∈ t, x.text.size ≤ 1048576 ∧ (Lit.int .i64 x.num).wf = true) (L : LesAt) (n1 n2 : Nat) (wr : World) (hL : LesN L t wr m n1 n2) (hl3 : L.m3 < wr.heap.size) (W : World) (hW : Below wr.heap.size wr W) (A : Nat → Prop) (b : Nat) (hR : PRep W A (treT t m (m - 1)) b) (hA1 : ∀ q, A q → wr.heap.size ≤ q) (hA2 : ∀ q, W.heap.size ≤ q → A q) :
    Calls Tryz.prog 19 #[.pointer (some ⟨L.lb, 0, none⟩), .pointer (some ⟨b, 0, none⟩)] W fun e w' => ∃ b', e = .returned (.pointer (some ⟨b', 0, none⟩)) ∧ PRep w' A (lesT t m) b' ∧ But (fun p => p = L.m3) W w' := by
  obtain ⟨hT, hsz, -⟩ := lesT_facts HM.out hP htx
  have hout : ∀ q, A q → q ≠ L.m3 := fun q hq => by have := hA1 q hq; omega
  have hm6 : m ≤ 60000 := by have := hP.1; have := HM.out; omega
  have hL2 : LesN L t wr t.length n1 n2 := by rw [HM.out]; exact hL
  have hS := (hL2.les hout).under hW (fun q hq _ => hq) hout
  refine (write_any L (cntK bndK t) (cntK (· == 70) t) (treT t m (m - 1)) b A W 0 (fun _ => none) hT (fun x V h9 => by cases h9) hS hR hA2 (by omega)).mono ?_
  rintro e w' h
  obtain ⟨b', m', rfl, h1, -, -, h4⟩ := h.out
  exact ⟨b', rfl, h1, h4⟩
theorem lesApp (t : List Nd) (m : Nat) (HM : Hid (t.length = m)) (hP : PlainS t) (htx : ∀ x ∈ t, x.text.size ≤ 1048576 ∧ (Lit.int .i64 x.num).wf = true) (w W : World) (hB : Below w.heap.size w W) (A : Nat → Prop) (b G c : Nat) (hR : PRep W A (lesT t m) b) (hG : w.heap.size ≤ G) (hAG : ¬ A G) (hO : OwnN W 0 G c 0 []) :
    Calls Tryz.prog 21 #[.pointer (some ⟨b, 0, none⟩), .slice (some ⟨G, 0, none⟩) 0 c] W fun e w' => ∃ g' c' l', e = .returned (.slice (some ⟨g', 0, none⟩) l' c') ∧ OwnN w' w.heap.size g' c' l' (lessL t m) ∧ Below w.heap.size w w' := by
  obtain ⟨-, -, hsz⟩ := lesT_facts HM.out hP htx
  have hm6 : m ≤ 60000 := by have := hP.1; have := HM.out; omega
  have hR2 := hR.wide (A' := fun q => q < W.heap.size ∧ q ≠ G) (fun q hq hl => ⟨hl, fun e => hAG (e ▸ hq)⟩)
  refine (append_any (fun q => q < W.heap.size ∧ q ≠ G) (lesT t m) b G c 0 [] W hR2 hO (by omega) (fun h => h.2 rfl) (fun q hq => hq.1)).mono ?_
  rintro e w' ⟨g', c', rfl, hO', hA', hb'⟩
  have hsw := hB.size
  have hg' : w.heap.size ≤ g' := by
    by_cases e : g' = G
    · omega
    · by_cases e2 : g' < W.heap.size
      · exact absurd ⟨e2, e⟩ hA'
      · omega
  refine ⟨g', c', _, rfl, ?_, hB.trans (hb'.below hB.size (fun q hq => ?_))⟩
  · rw [List.nil_append] at hO'
    exact hO'.lift hg'
  · by_cases e : q = G
    · omega
    · by_cases e2 : q < W.heap.size
      · exact absurd ⟨e2, e⟩ hq
      · omega
end Go.Proofs.YtedlofpgddjpgaaGreat
