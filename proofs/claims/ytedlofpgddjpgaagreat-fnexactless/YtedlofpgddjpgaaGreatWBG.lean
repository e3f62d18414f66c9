import Derived.Test.YtedlofpgddjpgaaGreatWBF
namespace Go.Proofs.YtedlofpgddjpgaaGreat
open Go.RowKit
set_option maxRecDepth 20000 in
set_option maxHeartbeats 8000000 in
theorem rule_un (us : Int → Nat) (x0 x1 x2 x3 x4 x5 : Sl3) (n : Nd) (ks : List Tre) (s : Sl3) (A : Nat → Prop) (w : World) (hA : ∀ q, w.heap.size ≤ q → A q) (hR : SRep w A (.mk n ks) s) (hP : PlT (.mk n ks)) (hu : CntS w x3 us) (hk : n.kind = 89) :
    Calls Tryz.prog 54 #[xv x0 x1 x2 x3 x4 x5, .agg (sv (.mk n ks) s).toArray] w fun e w' => RuleRes w A (ruleT us (.mk n ks)) e w' := by
  obtain ⟨so, sl, sc⟩ := s
  obtain ⟨h1, h2, h3, h4⟩ := hR.skids
  simp only [Tre.ks] at h1 h2 h3 h4
  subst h1
  obtain ⟨kd, nm, tx, kk, pl⟩ := n
  simp only at hk
  subst hk
  obtain ⟨a, rfl, -⟩ := hP.node.code1 (.inr rfl)
  simp only [List.length_cons, List.length_nil, Nat.zero_add] at hR h2 h3 h4 ⊢
  obtain ⟨g, sa, hso, -, rowa, repa⟩ := h4 0 (by simp)
  subst hso
  simp only [List.getElem_cons_zero, Nat.zero_mul] at rowa repa
  have lgw : g < w.heap.size := lt_of_cell rowa.1
  have HRA : Hid (Row7 w g 0 a sa) := rowa
  have HSA : Hid (SRep w A a sa) := repa
  have LGW : Hid (g < w.heap.size) := lgw
  clear rowa repa h4 h2 h3 lgw
  obtain ⟨kb, hkb⟩ : ∃ kb, knT (.mk ⟨89, nm, tx, kk, pl⟩ [a]) = kb := ⟨_, rfl⟩
  have HKB : Hid (knT (.mk ⟨89, nm, tx, kk, pl⟩ [a]) = kb) := hkb
  have hsv : (sv (.mk ⟨89, nm, tx, kk, pl⟩ [a]) ((some ⟨g, 0, none⟩), 1, sc)).toArray = #[.int .i64 89, .int .i64 nm, .string tx, .int .i64 kk, .int .i64 pl, .slice (some ⟨g, 0, none⟩) 1 sc, .bool kb] := by rw [← hkb]; rfl
  have HR : Hid (SRep w A (.mk ⟨89, nm, tx, kk, pl⟩ [a]) ((some ⟨g, 0, none⟩), 1, sc)) := hR
  have HA : Hid (∀ q, w.heap.size ≤ q → A q) := hA
  have HP : Hid (PlT (.mk ⟨89, nm, tx, kk, pl⟩ [a])) := hP
  obtain ⟨V, hV⟩ : ∃ V, ruleT us (.mk ⟨89, nm, tx, kk, pl⟩ [a]) = V := ⟨_, rfl⟩
  have HV : Hid (ruleT us (.mk ⟨89, nm, tx, kk, pl⟩ [a]) = V) := hV
  have HU : Hid (CntS w x3 us) := hu
  rw [hV]
  obtain ⟨rX, rT, rZ, rN, hsz, hB0⟩ := four_blocks w #[.slice x0.1 x0.2.1 x0.2.2, .slice x1.1 x1.2.1 x1.2.2, .slice x2.1 x2.2.1 x2.2.2, .slice x3.1 x3.2.1 x3.2.2, .slice x4.1 x4.2.1 x4.2.2, .slice x5.1 x5.2.1 x5.2.2] #[.int .i64 89, .int .i64 nm, .string tx, .int .i64 kk, .int .i64 pl, .slice (some ⟨g, 0, none⟩) 1 sc, .bool kb] #[.int .i64 0, .int .i64 0, .string ⟨#[]⟩, .int .i64 0, .int .i64 0, .slice none 0 0, .bool false] #[.int .i64 89, .int .i64 nm, .string tx, .int .i64 kk, .int .i64 pl] 56 59 59 34
  have HRX : Hid _ := rX
  have HRT : Hid _ := rT
  have HRZ : Hid _ := rZ
  have HRN : Hid _ := rN
  have HSZ : Hid _ := hsz
  have HB0 : Hid _ := hB0
  clear rX rT rZ rN hsz hB0 hkb hV hR hA hP hu
  unfold xv
  rw [hsv]
  clear hsv
  go_enter Tryz.func54, Tryz.ntmps54
  go_upto_region 2 with fail
  have rX := HRX.out
  have rT := HRT.out
  have rZ := HRZ.out
  have rN := HRN.out
  have hsz := HSZ.out
  have hB0 := HB0.out
  clear HRX HRT HRZ HRN HSZ HB0
  generalize ((((w.alloc (.cells #[.slice x0.1 x0.2.1 x0.2.2, .slice x1.1 x1.2.1 x1.2.2, .slice x2.1 x2.2.1 x2.2.2, .slice x3.1 x3.2.1 x3.2.2, .slice x4.1 x4.2.1 x4.2.2, .slice x5.1 x5.2.1 x5.2.2] 56)).alloc (.cells #[.int .i64 89, .int .i64 nm, .string tx, .int .i64 kk, .int .i64 pl, .slice (some ⟨g, 0, none⟩) 1 sc, .bool kb] 59)).alloc (.cells #[.int .i64 0, .int .i64 0, .string ⟨#[]⟩, .int .i64 0, .int .i64 0, .slice none 0 0, .bool false] 59)).alloc (.cells #[.int .i64 89, .int .i64 nm, .string tx, .int .i64 kk, .int .i64 pl] 34)) = W0 at rX rT rZ rN hsz hB0 ⊢
  obtain ⟨z, hz⟩ : ∃ z, w.heap.size = z := ⟨_, rfl⟩
  have HZ : Hid (w.heap.size = z) := hz
  have e2 : z + 1 + 1 = z + 2 := rfl
  have e3 : z + 2 + 1 = z + 3 := rfl
  simp only [hz] at rX rT rZ rN hsz
  simp only [hz, e2, e3]
  clear e2 e3 hz
  have HVB : Hid (V = if tx.toList = [126] ∧ a.nd.kind = 72 then leafT 72 (IntKind.i64.wrap (-a.nd.num)) ⟨#[]⟩ else .mk ⟨89, nm, tx, kk, pl⟩ [a]) := by
    show _ = _
    rw [← HV.out]
    rfl
  obtain ⟨a0, a1, a2, a3, a4, a5, a6⟩ := HRA.out.cells hB0 LGW.out
  simp only [Nat.zero_add] at a0 a1 a2 a3 a4 a5 a6
  have lg : g < W0.heap.size := lt_of_cell a0
  clear a1 a2 a3 a4 a5 a6
  cases ht : (tx.toList == [126])
  · have hV : V = .mk ⟨89, nm, tx, kk, pl⟩ [a] := by rw [HVB.out, if_neg (fun h => by rw [h.1] at ht; cases ht)]
    have t0 : W0.cell? ⟨z + 1, 0, none⟩ = some (.int .i64 89) := by rw [cell_of_row _ _ _ _ _ _ rT]; rfl
    have t1 : W0.cell? ⟨z + 1, 1, none⟩ = some (.int .i64 nm) := by rw [cell_of_row _ _ _ _ _ _ rT]; rfl
    have t2 : W0.cell? ⟨z + 1, 2, none⟩ = some (.string tx) := by rw [cell_of_row _ _ _ _ _ _ rT]; rfl
    have t3 : W0.cell? ⟨z + 1, 3, none⟩ = some (.int .i64 kk) := by rw [cell_of_row _ _ _ _ _ _ rT]; rfl
    have t4 : W0.cell? ⟨z + 1, 4, none⟩ = some (.int .i64 pl) := by rw [cell_of_row _ _ _ _ _ _ rT]; rfl
    have t5 : W0.cell? ⟨z + 1, 5, none⟩ = some (.slice (some ⟨g, 0, none⟩) 1 sc) := by rw [cell_of_row _ _ _ _ _ _ rT]; rfl
    have t6 : W0.cell? ⟨z + 1, 6, none⟩ = some (.bool kb) := by rw [cell_of_row _ _ _ _ _ _ rT]; rfl
    have LT : z + 1 < W0.heap.size := lt_of_cell t0
    have n0 : W0.cell? ⟨z + 3, 0, none⟩ = some (.int .i64 89) := by rw [cell_of_row _ _ _ _ _ _ rN]; rfl
    have n1 : W0.cell? ⟨z + 3, 1, none⟩ = some (.int .i64 nm) := by rw [cell_of_row _ _ _ _ _ _ rN]; rfl
    have n2 : W0.cell? ⟨z + 3, 2, none⟩ = some (.string tx) := by rw [cell_of_row _ _ _ _ _ _ rN]; rfl
    have LN : z + 3 < W0.heap.size := lt_of_cell n0
    have hf := seven_fin (w := w) (.mk ⟨89, nm, tx, kk, pl⟩ [a]) ((some ⟨g, 0, none⟩), 1, sc) rZ hB0 (by rw [HZ.out]; omega)
    simp only [Tre.nd] at hf
    rw [HKB.out] at hf
    obtain ⟨f, d0, d1, d2, d3, d4, d5, d6⟩ := zero7 rZ
    have f0 := f 0
    have f1 := f 1
    have f2 := f 2
    have f3 := f 3
    have f4 := f 4
    have f5 := f 5
    have f6 := f 6
    have LZ : z + 2 < W0.heap.size := lt_of_cell d0
    clear f
    have HF : Hid (Row7 (((((((W0.setCell ⟨z + 2, 0, none⟩ (.int .i64 89)).setCell ⟨z + 2, 1, none⟩ (.int .i64 nm)).setCell ⟨z + 2, 2, none⟩ (.string tx)).setCell ⟨z + 2, 3, none⟩ (.int .i64 kk)).setCell ⟨z + 2, 4, none⟩ (.int .i64 pl)).setCell ⟨z + 2, 5, none⟩ (.slice (some ⟨g, 0, none⟩) 1 sc)).setCell ⟨z + 2, 6, none⟩ (.bool kb)) (z + 2) 0 (.mk ⟨89, nm, tx, kk, pl⟩ [a]) ((some ⟨g, 0, none⟩), 1, sc) ∧ Below w.heap.size w (((((((W0.setCell ⟨z + 2, 0, none⟩ (.int .i64 89)).setCell ⟨z + 2, 1, none⟩ (.int .i64 nm)).setCell ⟨z + 2, 2, none⟩ (.string tx)).setCell ⟨z + 2, 3, none⟩ (.int .i64 kk)).setCell ⟨z + 2, 4, none⟩ (.int .i64 pl)).setCell ⟨z + 2, 5, none⟩ (.slice (some ⟨g, 0, none⟩) 1 sc)).setCell ⟨z + 2, 6, none⟩ (.bool kb))) := hf
    have HVV : Hid (V = .mk ⟨89, nm, tx, kk, pl⟩ [a]) := hV
    clear hV rX
    clear hf
    clear rT rZ rN hB0
    go_wp2
    refine bodyPost_ret (results_cell7 rfl _ (z + 2) rfl _ _ _ HF.out.1) rfl ?_
    exact ruleRes_of HVV.out rfl (HR.out.under HF.out.2) HF.out.2
  obtain ⟨ak, hak⟩ : ∃ ak, a.nd.kind = ak := ⟨_, rfl⟩
  rw [hak] at a0 HVB
  by_cases h72 : ak = 72
  rotate_left
  · have t72 : (ak == 72) = false := by simpa using h72
    have hV : V = .mk ⟨89, nm, tx, kk, pl⟩ [a] := by rw [HVB.out, if_neg (fun h => h72 h.2)]
    have t0 : W0.cell? ⟨z + 1, 0, none⟩ = some (.int .i64 89) := by rw [cell_of_row _ _ _ _ _ _ rT]; rfl
    have t1 : W0.cell? ⟨z + 1, 1, none⟩ = some (.int .i64 nm) := by rw [cell_of_row _ _ _ _ _ _ rT]; rfl
    have t2 : W0.cell? ⟨z + 1, 2, none⟩ = some (.string tx) := by rw [cell_of_row _ _ _ _ _ _ rT]; rfl
    have t3 : W0.cell? ⟨z + 1, 3, none⟩ = some (.int .i64 kk) := by rw [cell_of_row _ _ _ _ _ _ rT]; rfl
    have t4 : W0.cell? ⟨z + 1, 4, none⟩ = some (.int .i64 pl) := by rw [cell_of_row _ _ _ _ _ _ rT]; rfl
    have t5 : W0.cell? ⟨z + 1, 5, none⟩ = some (.slice (some ⟨g, 0, none⟩) 1 sc) := by rw [cell_of_row _ _ _ _ _ _ rT]; rfl
    have t6 : W0.cell? ⟨z + 1, 6, none⟩ = some (.bool kb) := by rw [cell_of_row _ _ _ _ _ _ rT]; rfl
    have LT : z + 1 < W0.heap.size := lt_of_cell t0
    have n0 : W0.cell? ⟨z + 3, 0, none⟩ = some (.int .i64 89) := by rw [cell_of_row _ _ _ _ _ _ rN]; rfl
    have n1 : W0.cell? ⟨z + 3, 1, none⟩ = some (.int .i64 nm) := by rw [cell_of_row _ _ _ _ _ _ rN]; rfl
    have n2 : W0.cell? ⟨z + 3, 2, none⟩ = some (.string tx) := by rw [cell_of_row _ _ _ _ _ _ rN]; rfl
    have LN : z + 3 < W0.heap.size := lt_of_cell n0
    have hf := seven_fin (w := w) (.mk ⟨89, nm, tx, kk, pl⟩ [a]) ((some ⟨g, 0, none⟩), 1, sc) rZ hB0 (by rw [HZ.out]; omega)
    simp only [Tre.nd] at hf
    rw [HKB.out] at hf
    obtain ⟨f, d0, d1, d2, d3, d4, d5, d6⟩ := zero7 rZ
    have f0 := f 0
    have f1 := f 1
    have f2 := f 2
    have f3 := f 3
    have f4 := f 4
    have f5 := f 5
    have f6 := f 6
    have LZ : z + 2 < W0.heap.size := lt_of_cell d0
    clear f
    have HF : Hid (Row7 (((((((W0.setCell ⟨z + 2, 0, none⟩ (.int .i64 89)).setCell ⟨z + 2, 1, none⟩ (.int .i64 nm)).setCell ⟨z + 2, 2, none⟩ (.string tx)).setCell ⟨z + 2, 3, none⟩ (.int .i64 kk)).setCell ⟨z + 2, 4, none⟩ (.int .i64 pl)).setCell ⟨z + 2, 5, none⟩ (.slice (some ⟨g, 0, none⟩) 1 sc)).setCell ⟨z + 2, 6, none⟩ (.bool kb)) (z + 2) 0 (.mk ⟨89, nm, tx, kk, pl⟩ [a]) ((some ⟨g, 0, none⟩), 1, sc) ∧ Below w.heap.size w (((((((W0.setCell ⟨z + 2, 0, none⟩ (.int .i64 89)).setCell ⟨z + 2, 1, none⟩ (.int .i64 nm)).setCell ⟨z + 2, 2, none⟩ (.string tx)).setCell ⟨z + 2, 3, none⟩ (.int .i64 kk)).setCell ⟨z + 2, 4, none⟩ (.int .i64 pl)).setCell ⟨z + 2, 5, none⟩ (.slice (some ⟨g, 0, none⟩) 1 sc)).setCell ⟨z + 2, 6, none⟩ (.bool kb))) := hf
    have HVV : Hid (V = .mk ⟨89, nm, tx, kk, pl⟩ [a]) := hV
    clear hV rX h72 hak
    clear hf
    clear rT rZ rN hB0
    go_wp2
    refine bodyPost_ret (results_cell7 rfl _ (z + 2) rfl _ _ _ HF.out.1) rfl ?_
    exact ruleRes_of HVV.out rfl (HR.out.under HF.out.2) HF.out.2
  subst h72
  obtain ⟨an, han⟩ : ∃ an, a.nd.num = an := ⟨_, rfl⟩
  have a1 : W0.cell? ⟨g, 1, none⟩ = some (.int .i64 an) := by rw [← han]; exact (HRA.out.cells hB0 LGW.out).2.1
  have hV : V = leafT 72 (wrap64 (-an)) ⟨#[]⟩ := by rw [HVB.out, if_pos ⟨by simpa using ht, rfl⟩, ← wr64, han]
  have hL := leaf_any 72 (wrap64 (-an)) ⟨#[]⟩ (by decide) W0
  obtain ⟨wn, hwn⟩ : ∃ wn, wrap64 (-an) = wn := ⟨_, rfl⟩
  obtain ⟨kb9, hkb9⟩ : ∃ kb, knT (leafT 72 wn ⟨#[]⟩) = kb := ⟨_, rfl⟩
  have HKB9 : Hid _ := hkb9
  have hsv : ∀ s : Sl3, (sv (leafT 72 wn ⟨#[]⟩) s).toArray = #[.int .i64 72, .int .i64 wn, .string ⟨#[]⟩, .int .i64 0, .int .i64 0, .slice s.1 s.2.1 s.2.2, .bool kb9] := by
    intro s
    rw [← hkb9]
    rfl
  rw [hwn] at hL hV
  simp only [hsv] at hL
  have HVV : Hid (V = leafT 72 wn ⟨#[]⟩) := hV
  clear hsv hkb9 hV hak han
  have t5 : W0.cell? ⟨z + 1, 5, none⟩ = some (.slice (some ⟨g, 0, none⟩) 1 sc) := by rw [cell_of_row _ _ _ _ _ _ rT]; rfl
  have LT : z + 1 < W0.heap.size := lt_of_cell t5
  have n0 : W0.cell? ⟨z + 3, 0, none⟩ = some (.int .i64 89) := by rw [cell_of_row _ _ _ _ _ _ rN]; rfl
  have n1 : W0.cell? ⟨z + 3, 1, none⟩ = some (.int .i64 nm) := by rw [cell_of_row _ _ _ _ _ _ rN]; rfl
  have n2 : W0.cell? ⟨z + 3, 2, none⟩ = some (.string tx) := by rw [cell_of_row _ _ _ _ _ _ rN]; rfl
  have LN : z + 3 < W0.heap.size := lt_of_cell n0
  have HRZ : Hid _ := rZ
  have HSZ : Hid _ := hsz
  have HB0 : Hid _ := hB0
  clear rT rZ rN rX hsz hB0
  go_wp2_with fail
  refine hL.mono ?_
  rintro e w8 ⟨⟨so9, sl9, sc9⟩, hs0, rfl, hb8⟩
  simp only at hs0
  subst hs0
  have r8 := (hb8.block (z + 2) (by have := HSZ.out; omega)).trans HRZ.out
  have b8 := Below.step HB0.out hb8
  have hf := seven_fin (w := w) (leafT 72 wn ⟨#[]⟩) (so9, 0, sc9) r8 b8 (by rw [HZ.out]; omega)
  rw [HKB9.out] at hf
  obtain ⟨f, d0, d1, d2, d3, d4, d5, d6⟩ := zero7 r8
  have f0 := f 0
  have f1 := f 1
  have f2 := f 2
  have f3 := f 3
  have f4 := f 4
  have f5 := f 5
  have f6 := f 6
  have LZ : z + 2 < w8.heap.size := lt_of_cell d0
  clear f
  have HF : Hid (Row7 (((((((w8.setCell ⟨z + 2, 0, none⟩ (.int .i64 72)).setCell ⟨z + 2, 1, none⟩ (.int .i64 wn)).setCell ⟨z + 2, 2, none⟩ (.string ⟨#[]⟩)).setCell ⟨z + 2, 3, none⟩ (.int .i64 0)).setCell ⟨z + 2, 4, none⟩ (.int .i64 0)).setCell ⟨z + 2, 5, none⟩ (.slice so9 0 sc9)).setCell ⟨z + 2, 6, none⟩ (.bool kb9)) (z + 2) 0 (leafT 72 wn ⟨#[]⟩) (so9, 0, sc9) ∧ Below w.heap.size w (((((((w8.setCell ⟨z + 2, 0, none⟩ (.int .i64 72)).setCell ⟨z + 2, 1, none⟩ (.int .i64 wn)).setCell ⟨z + 2, 2, none⟩ (.string ⟨#[]⟩)).setCell ⟨z + 2, 3, none⟩ (.int .i64 0)).setCell ⟨z + 2, 4, none⟩ (.int .i64 0)).setCell ⟨z + 2, 5, none⟩ (.slice so9 0 sc9)).setCell ⟨z + 2, 6, none⟩ (.bool kb9))) := hf
  clear hf r8 b8 hb8 hL t5 n0 n1 n2 a0 a1 hwn
  go_wp2
  refine bodyPost_ret (results_cell7 rfl _ (z + 2) rfl _ _ _ HF.out.1) rfl ?_
  exact ruleRes_of HVV.out rfl (srep_leaf rfl rfl) HF.out.2
end Go.Proofs.YtedlofpgddjpgaaGreat

namespace Go.Proofs.YtedlofpgddjpgaaGreat
open Go.RowKit
set_option maxRecDepth 20000 in
set_option maxHeartbeats 8000000 in
theorem rule_let (us : Int → Nat) (x0 x1 x2 x3 x4 x5 : Sl3) (n : Nd) (ks : List Tre) (s : Sl3) (A : Nat → Prop) (w : World) (hA : ∀ q, w.heap.size ≤ q → A q) (hR : SRep w A (.mk n ks) s) (hP : PlT (.mk n ks)) (hu : CntS w x3 us) (hk : n.kind = 80) :
    Calls Tryz.prog 54 #[xv x0 x1 x2 x3 x4 x5, .agg (sv (.mk n ks) s).toArray] w fun e w' => RuleRes w A (ruleT us (.mk n ks)) e w' := by
  obtain ⟨so, sl, sc⟩ := s
  obtain ⟨h1, h2, h3, h4⟩ := hR.skids
  simp only [Tre.ks] at h1 h2 h3 h4
  subst h1
  obtain ⟨kd, nm, tx, kk, pl⟩ := n
  simp only at hk
  subst hk
  obtain ⟨a, b, rfl, -, -⟩ := hP.node.code2 (.inr (.inl rfl))
  have hnm : 1 ≤ nm := (hP.node.numb (.inr (.inr (.inl rfl)))).1
  simp only [List.length_cons, List.length_nil, Nat.zero_add, Nat.reduceAdd] at hR h2 h3 h4 ⊢
  obtain ⟨g, sa, hso, -, rowa, repa⟩ := h4 0 (by simp)
  obtain ⟨g', sb, hso', -, rowb, repb⟩ := h4 1 (by simp)
  rw [hso] at hso'
  simp only [Option.some.injEq, Addr.mk.injEq, and_true] at hso'
  subst hso'
  subst hso
  simp only [List.getElem_cons_zero, List.getElem_cons_succ, Nat.zero_mul, Nat.one_mul] at rowa rowb repa repb
  have lgw : g < w.heap.size := lt_of_cell rowa.1
  have HRA : Hid (Row7 w g 0 a sa) := rowa
  have HRB : Hid (Row7 w g 7 b sb) := rowb
  have HSA : Hid (SRep w A a sa) := repa
  have HSB : Hid (SRep w A b sb) := repb
  have LGW : Hid (g < w.heap.size) := lgw
  clear rowa rowb repa repb h4 h2 h3 lgw
  obtain ⟨kb, hkb⟩ : ∃ kb, knT (.mk ⟨80, nm, tx, kk, pl⟩ [a, b]) = kb := ⟨_, rfl⟩
  have HKB : Hid (knT (.mk ⟨80, nm, tx, kk, pl⟩ [a, b]) = kb) := hkb
  have hsv : (sv (.mk ⟨80, nm, tx, kk, pl⟩ [a, b]) ((some ⟨g, 0, none⟩), 2, sc)).toArray = #[.int .i64 80, .int .i64 nm, .string tx, .int .i64 kk, .int .i64 pl, .slice (some ⟨g, 0, none⟩) 2 sc, .bool kb] := by rw [← hkb]; rfl
  have HR : Hid (SRep w A (.mk ⟨80, nm, tx, kk, pl⟩ [a, b]) ((some ⟨g, 0, none⟩), 2, sc)) := hR
  have HA : Hid (∀ q, w.heap.size ≤ q → A q) := hA
  have HP : Hid (PlT (.mk ⟨80, nm, tx, kk, pl⟩ [a, b])) := hP
  obtain ⟨V, hV⟩ : ∃ V, ruleT us (.mk ⟨80, nm, tx, kk, pl⟩ [a, b]) = V := ⟨_, rfl⟩
  have HV : Hid (ruleT us (.mk ⟨80, nm, tx, kk, pl⟩ [a, b]) = V) := hV
  have HU : Hid (CntS w x3 us) := hu
  rw [hV]
  obtain ⟨rX, rT, rZ, rN, hsz, hB0⟩ := four_blocks w #[.slice x0.1 x0.2.1 x0.2.2, .slice x1.1 x1.2.1 x1.2.2, .slice x2.1 x2.2.1 x2.2.2, .slice x3.1 x3.2.1 x3.2.2, .slice x4.1 x4.2.1 x4.2.2, .slice x5.1 x5.2.1 x5.2.2] #[.int .i64 80, .int .i64 nm, .string tx, .int .i64 kk, .int .i64 pl, .slice (some ⟨g, 0, none⟩) 2 sc, .bool kb] #[.int .i64 0, .int .i64 0, .string ⟨#[]⟩, .int .i64 0, .int .i64 0, .slice none 0 0, .bool false] #[.int .i64 80, .int .i64 nm, .string tx, .int .i64 kk, .int .i64 pl] 56 59 59 34
  have HRX : Hid _ := rX
  have HRT : Hid _ := rT
  have HRZ : Hid _ := rZ
  have HRN : Hid _ := rN
  have HSZ : Hid _ := hsz
  have HB0 : Hid _ := hB0
  clear rX rT rZ rN hsz hB0 hkb hV hR hA hP hu
  unfold xv
  rw [hsv]
  clear hsv
  go_enter Tryz.func54, Tryz.ntmps54
  go_upto_region 2 with fail
  have rX := HRX.out
  have rT := HRT.out
  have rZ := HRZ.out
  have rN := HRN.out
  have hsz := HSZ.out
  have hB0 := HB0.out
  clear HRX HRT HRZ HRN HSZ HB0
  generalize ((((w.alloc (.cells #[.slice x0.1 x0.2.1 x0.2.2, .slice x1.1 x1.2.1 x1.2.2, .slice x2.1 x2.2.1 x2.2.2, .slice x3.1 x3.2.1 x3.2.2, .slice x4.1 x4.2.1 x4.2.2, .slice x5.1 x5.2.1 x5.2.2] 56)).alloc (.cells #[.int .i64 80, .int .i64 nm, .string tx, .int .i64 kk, .int .i64 pl, .slice (some ⟨g, 0, none⟩) 2 sc, .bool kb] 59)).alloc (.cells #[.int .i64 0, .int .i64 0, .string ⟨#[]⟩, .int .i64 0, .int .i64 0, .slice none 0 0, .bool false] 59)).alloc (.cells #[.int .i64 80, .int .i64 nm, .string tx, .int .i64 kk, .int .i64 pl] 34)) = W0 at rX rT rZ rN hsz hB0 ⊢
  obtain ⟨z, hz⟩ : ∃ z, w.heap.size = z := ⟨_, rfl⟩
  have HZ : Hid (w.heap.size = z) := hz
  have e2 : z + 1 + 1 = z + 2 := rfl
  have e3 : z + 2 + 1 = z + 3 := rfl
  simp only [hz] at rX rT rZ rN hsz
  simp only [hz, e2, e3]
  clear e2 e3 hz
  have HVB : Hid (V = if nm ≤ 200000 ∧ us nm = 0 ∧ (knT a = true ∨ a.nd.kind = 76 ∨ a.nd.kind = 71) then b else .mk ⟨80, nm, tx, kk, pl⟩ [a, b]) := by
    show _ = _
    rw [← HV.out]
    rfl
  obtain ⟨a0, a1, a2, a3, a4, a5, a6⟩ := HRA.out.cells hB0 LGW.out
  simp only [Nat.zero_add] at a0 a1 a2 a3 a4 a5 a6
  obtain ⟨b0, b1, b2, b3, b4, b5, b6⟩ := HRB.out.cells hB0 LGW.out
  simp only [Nat.reduceAdd] at b0 b1 b2 b3 b4 b5 b6
  have lg : g < W0.heap.size := lt_of_cell a0
  clear a1 a2 a3 a4 a5
  have x3c : W0.cell? ⟨z, 3, none⟩ = some (.slice x3.1 x3.2.1 x3.2.2) := by rw [cell_of_row _ _ _ _ _ _ rX]; rfl
  have lx : z < W0.heap.size := lt_of_cell x3c
  by_cases h2 : nm ≤ 200000
  rotate_left
  · have t2 : decide (nm ≤ 200000) = false := by simpa using h2
    have hV : V = .mk ⟨80, nm, tx, kk, pl⟩ [a, b] := by rw [HVB.out, if_neg (fun h => h2 h.1)]
    have t0 : W0.cell? ⟨z + 1, 0, none⟩ = some (.int .i64 80) := by rw [cell_of_row _ _ _ _ _ _ rT]; rfl
    have t1 : W0.cell? ⟨z + 1, 1, none⟩ = some (.int .i64 nm) := by rw [cell_of_row _ _ _ _ _ _ rT]; rfl
    have t2 : W0.cell? ⟨z + 1, 2, none⟩ = some (.string tx) := by rw [cell_of_row _ _ _ _ _ _ rT]; rfl
    have t3 : W0.cell? ⟨z + 1, 3, none⟩ = some (.int .i64 kk) := by rw [cell_of_row _ _ _ _ _ _ rT]; rfl
    have t4 : W0.cell? ⟨z + 1, 4, none⟩ = some (.int .i64 pl) := by rw [cell_of_row _ _ _ _ _ _ rT]; rfl
    have t5 : W0.cell? ⟨z + 1, 5, none⟩ = some (.slice (some ⟨g, 0, none⟩) 2 sc) := by rw [cell_of_row _ _ _ _ _ _ rT]; rfl
    have t6 : W0.cell? ⟨z + 1, 6, none⟩ = some (.bool kb) := by rw [cell_of_row _ _ _ _ _ _ rT]; rfl
    have LT : z + 1 < W0.heap.size := lt_of_cell t0
    have n0 : W0.cell? ⟨z + 3, 0, none⟩ = some (.int .i64 80) := by rw [cell_of_row _ _ _ _ _ _ rN]; rfl
    have n1 : W0.cell? ⟨z + 3, 1, none⟩ = some (.int .i64 nm) := by rw [cell_of_row _ _ _ _ _ _ rN]; rfl
    have n2 : W0.cell? ⟨z + 3, 2, none⟩ = some (.string tx) := by rw [cell_of_row _ _ _ _ _ _ rN]; rfl
    have LN : z + 3 < W0.heap.size := lt_of_cell n0
    have hf := seven_fin (w := w) (.mk ⟨80, nm, tx, kk, pl⟩ [a, b]) ((some ⟨g, 0, none⟩), 2, sc) rZ hB0 (by rw [HZ.out]; omega)
    simp only [Tre.nd] at hf
    rw [HKB.out] at hf
    obtain ⟨f, d0, d1, d2, d3, d4, d5, d6⟩ := zero7 rZ
    have f0 := f 0
    have f1 := f 1
    have f2 := f 2
    have f3 := f 3
    have f4 := f 4
    have f5 := f 5
    have f6 := f 6
    have LZ : z + 2 < W0.heap.size := lt_of_cell d0
    clear f
    have HF : Hid (Row7 (((((((W0.setCell ⟨z + 2, 0, none⟩ (.int .i64 80)).setCell ⟨z + 2, 1, none⟩ (.int .i64 nm)).setCell ⟨z + 2, 2, none⟩ (.string tx)).setCell ⟨z + 2, 3, none⟩ (.int .i64 kk)).setCell ⟨z + 2, 4, none⟩ (.int .i64 pl)).setCell ⟨z + 2, 5, none⟩ (.slice (some ⟨g, 0, none⟩) 2 sc)).setCell ⟨z + 2, 6, none⟩ (.bool kb)) (z + 2) 0 (.mk ⟨80, nm, tx, kk, pl⟩ [a, b]) ((some ⟨g, 0, none⟩), 2, sc) ∧ Below w.heap.size w (((((((W0.setCell ⟨z + 2, 0, none⟩ (.int .i64 80)).setCell ⟨z + 2, 1, none⟩ (.int .i64 nm)).setCell ⟨z + 2, 2, none⟩ (.string tx)).setCell ⟨z + 2, 3, none⟩ (.int .i64 kk)).setCell ⟨z + 2, 4, none⟩ (.int .i64 pl)).setCell ⟨z + 2, 5, none⟩ (.slice (some ⟨g, 0, none⟩) 2 sc)).setCell ⟨z + 2, 6, none⟩ (.bool kb))) := hf
    have HVV : Hid (V = .mk ⟨80, nm, tx, kk, pl⟩ [a, b]) := hV
    clear hV rX h2
    clear hf
    clear rT rZ rN hB0
    go_wp2
    refine bodyPost_ret (results_cell7 rfl _ (z + 2) rfl _ _ _ HF.out.1) rfl ?_
    exact ruleRes_of HVV.out rfl (HR.out.under HF.out.2) HF.out.2
  have t2 : decide (nm ≤ 200000) = true := by simpa using h2
  obtain ⟨k, rfl⟩ : ∃ k : Nat, nm = (k : Int) := ⟨nm.toNat, by omega⟩
  obtain ⟨ub, e1, e2, hc⟩ := HU.out
  have ulw : ub < w.heap.size := lt_of_cell (hc k (by omega))
  have hck : W0.cell? ⟨ub, k, none⟩ = some (.int .i64 (us (k : Int) : Int)) := by
    have h9 := hB0.block ub ulw
    have h8 := hc k (by omega)
    simp only [World.cell?, h9] at h8 ⊢
    exact h8
  have lub : ub < W0.heap.size := lt_of_cell hck
  obtain ⟨xo, xl, xc⟩ := x3
  simp only at e1 e2 x3c hc
  subst e1
  subst e2
  have hk1 : (k : Int) < 200001 := by omega
  have hk0 : (0 : Int) ≤ (k : Int) := by omega
  obtain ⟨un, hun⟩ : ∃ un, us (k : Int) = un := ⟨_, rfl⟩
  rw [hun] at hck HVB
  clear hc ulw hun HU
  by_cases h0 : un = 0
  rotate_left
  · have t0 : ((un : Int) == 0) = false := by simp; omega
    have hV : V = .mk ⟨80, (k : Int), tx, kk, pl⟩ [a, b] := by rw [HVB.out, if_neg (fun h => h0 h.2.1)]
    have t0 : W0.cell? ⟨z + 1, 0, none⟩ = some (.int .i64 80) := by rw [cell_of_row _ _ _ _ _ _ rT]; rfl
    have t1 : W0.cell? ⟨z + 1, 1, none⟩ = some (.int .i64 (k : Int)) := by rw [cell_of_row _ _ _ _ _ _ rT]; rfl
    have t2 : W0.cell? ⟨z + 1, 2, none⟩ = some (.string tx) := by rw [cell_of_row _ _ _ _ _ _ rT]; rfl
    have t3 : W0.cell? ⟨z + 1, 3, none⟩ = some (.int .i64 kk) := by rw [cell_of_row _ _ _ _ _ _ rT]; rfl
    have t4 : W0.cell? ⟨z + 1, 4, none⟩ = some (.int .i64 pl) := by rw [cell_of_row _ _ _ _ _ _ rT]; rfl
    have t5 : W0.cell? ⟨z + 1, 5, none⟩ = some (.slice (some ⟨g, 0, none⟩) 2 sc) := by rw [cell_of_row _ _ _ _ _ _ rT]; rfl
    have t6 : W0.cell? ⟨z + 1, 6, none⟩ = some (.bool kb) := by rw [cell_of_row _ _ _ _ _ _ rT]; rfl
    have LT : z + 1 < W0.heap.size := lt_of_cell t0
    have n0 : W0.cell? ⟨z + 3, 0, none⟩ = some (.int .i64 80) := by rw [cell_of_row _ _ _ _ _ _ rN]; rfl
    have n1 : W0.cell? ⟨z + 3, 1, none⟩ = some (.int .i64 (k : Int)) := by rw [cell_of_row _ _ _ _ _ _ rN]; rfl
    have n2 : W0.cell? ⟨z + 3, 2, none⟩ = some (.string tx) := by rw [cell_of_row _ _ _ _ _ _ rN]; rfl
    have LN : z + 3 < W0.heap.size := lt_of_cell n0
    have hf := seven_fin (w := w) (.mk ⟨80, (k : Int), tx, kk, pl⟩ [a, b]) ((some ⟨g, 0, none⟩), 2, sc) rZ hB0 (by rw [HZ.out]; omega)
    simp only [Tre.nd] at hf
    rw [HKB.out] at hf
    obtain ⟨f, d0, d1, d2, d3, d4, d5, d6⟩ := zero7 rZ
    have f0 := f 0
    have f1 := f 1
    have f2 := f 2
    have f3 := f 3
    have f4 := f 4
    have f5 := f 5
    have f6 := f 6
    have LZ : z + 2 < W0.heap.size := lt_of_cell d0
    clear f
    have HF : Hid (Row7 (((((((W0.setCell ⟨z + 2, 0, none⟩ (.int .i64 80)).setCell ⟨z + 2, 1, none⟩ (.int .i64 (k : Int))).setCell ⟨z + 2, 2, none⟩ (.string tx)).setCell ⟨z + 2, 3, none⟩ (.int .i64 kk)).setCell ⟨z + 2, 4, none⟩ (.int .i64 pl)).setCell ⟨z + 2, 5, none⟩ (.slice (some ⟨g, 0, none⟩) 2 sc)).setCell ⟨z + 2, 6, none⟩ (.bool kb)) (z + 2) 0 (.mk ⟨80, (k : Int), tx, kk, pl⟩ [a, b]) ((some ⟨g, 0, none⟩), 2, sc) ∧ Below w.heap.size w (((((((W0.setCell ⟨z + 2, 0, none⟩ (.int .i64 80)).setCell ⟨z + 2, 1, none⟩ (.int .i64 (k : Int))).setCell ⟨z + 2, 2, none⟩ (.string tx)).setCell ⟨z + 2, 3, none⟩ (.int .i64 kk)).setCell ⟨z + 2, 4, none⟩ (.int .i64 pl)).setCell ⟨z + 2, 5, none⟩ (.slice (some ⟨g, 0, none⟩) 2 sc)).setCell ⟨z + 2, 6, none⟩ (.bool kb))) := hf
    have HVV : Hid (V = .mk ⟨80, (k : Int), tx, kk, pl⟩ [a, b]) := hV
    clear hV rX h0 h2
    clear hf
    clear rT rZ rN hB0
    go_wp2
    refine bodyPost_ret (results_cell7 rfl _ (z + 2) rfl _ _ _ HF.out.1) rfl ?_
    exact ruleRes_of HVV.out rfl (HR.out.under HF.out.2) HF.out.2
  subst h0
  obtain ⟨ak, hak⟩ : ∃ ak, a.nd.kind = ak := ⟨_, rfl⟩
  obtain ⟨ab, hab⟩ : ∃ ab, knT a = ab := ⟨_, rfl⟩
  rw [hak] at a0 HVB
  rw [hab] at a6 HVB
  clear hak hab
  have hcase : (ab = true ∨ ab = false ∧ ak = 76 ∨ ab = false ∧ (ak == 76) = false ∧ ak = 71) ∨ (ab = false ∧ (ak == 76) = false ∧ (ak == 71) = false) := by
    cases ab
    · by_cases h76 : ak = 76
      · exact .inl (.inr (.inl ⟨rfl, h76⟩))
      · by_cases h71 : ak = 71
        · exact .inl (.inr (.inr ⟨rfl, by simpa using h76, h71⟩))
        · exact .inr ⟨rfl, by simpa using h76, by simpa using h71⟩
    · exact .inl (.inl rfl)
  rcases hcase with hcase | ⟨rfl, t76, t71⟩
  rotate_left
  · have hV : V = .mk ⟨80, (k : Int), tx, kk, pl⟩ [a, b] := by
      rw [HVB.out, if_neg]
      rintro ⟨-, -, h | h | h⟩
      · cases h
      · rw [h] at t76; cases t76
      · rw [h] at t71; cases t71
    have t0 : W0.cell? ⟨z + 1, 0, none⟩ = some (.int .i64 80) := by rw [cell_of_row _ _ _ _ _ _ rT]; rfl
    have t1 : W0.cell? ⟨z + 1, 1, none⟩ = some (.int .i64 (k : Int)) := by rw [cell_of_row _ _ _ _ _ _ rT]; rfl
    have t2 : W0.cell? ⟨z + 1, 2, none⟩ = some (.string tx) := by rw [cell_of_row _ _ _ _ _ _ rT]; rfl
    have t3 : W0.cell? ⟨z + 1, 3, none⟩ = some (.int .i64 kk) := by rw [cell_of_row _ _ _ _ _ _ rT]; rfl
    have t4 : W0.cell? ⟨z + 1, 4, none⟩ = some (.int .i64 pl) := by rw [cell_of_row _ _ _ _ _ _ rT]; rfl
    have t5 : W0.cell? ⟨z + 1, 5, none⟩ = some (.slice (some ⟨g, 0, none⟩) 2 sc) := by rw [cell_of_row _ _ _ _ _ _ rT]; rfl
    have t6 : W0.cell? ⟨z + 1, 6, none⟩ = some (.bool kb) := by rw [cell_of_row _ _ _ _ _ _ rT]; rfl
    have LT : z + 1 < W0.heap.size := lt_of_cell t0
    have n0 : W0.cell? ⟨z + 3, 0, none⟩ = some (.int .i64 80) := by rw [cell_of_row _ _ _ _ _ _ rN]; rfl
    have n1 : W0.cell? ⟨z + 3, 1, none⟩ = some (.int .i64 (k : Int)) := by rw [cell_of_row _ _ _ _ _ _ rN]; rfl
    have n2 : W0.cell? ⟨z + 3, 2, none⟩ = some (.string tx) := by rw [cell_of_row _ _ _ _ _ _ rN]; rfl
    have LN : z + 3 < W0.heap.size := lt_of_cell n0
    have hf := seven_fin (w := w) (.mk ⟨80, (k : Int), tx, kk, pl⟩ [a, b]) ((some ⟨g, 0, none⟩), 2, sc) rZ hB0 (by rw [HZ.out]; omega)
    simp only [Tre.nd] at hf
    rw [HKB.out] at hf
    obtain ⟨f, d0, d1, d2, d3, d4, d5, d6⟩ := zero7 rZ
    have f0 := f 0
    have f1 := f 1
    have f2 := f 2
    have f3 := f 3
    have f4 := f 4
    have f5 := f 5
    have f6 := f 6
    have LZ : z + 2 < W0.heap.size := lt_of_cell d0
    clear f
    have HF : Hid (Row7 (((((((W0.setCell ⟨z + 2, 0, none⟩ (.int .i64 80)).setCell ⟨z + 2, 1, none⟩ (.int .i64 (k : Int))).setCell ⟨z + 2, 2, none⟩ (.string tx)).setCell ⟨z + 2, 3, none⟩ (.int .i64 kk)).setCell ⟨z + 2, 4, none⟩ (.int .i64 pl)).setCell ⟨z + 2, 5, none⟩ (.slice (some ⟨g, 0, none⟩) 2 sc)).setCell ⟨z + 2, 6, none⟩ (.bool kb)) (z + 2) 0 (.mk ⟨80, (k : Int), tx, kk, pl⟩ [a, b]) ((some ⟨g, 0, none⟩), 2, sc) ∧ Below w.heap.size w (((((((W0.setCell ⟨z + 2, 0, none⟩ (.int .i64 80)).setCell ⟨z + 2, 1, none⟩ (.int .i64 (k : Int))).setCell ⟨z + 2, 2, none⟩ (.string tx)).setCell ⟨z + 2, 3, none⟩ (.int .i64 kk)).setCell ⟨z + 2, 4, none⟩ (.int .i64 pl)).setCell ⟨z + 2, 5, none⟩ (.slice (some ⟨g, 0, none⟩) 2 sc)).setCell ⟨z + 2, 6, none⟩ (.bool kb))) := hf
    have HVV : Hid (V = .mk ⟨80, (k : Int), tx, kk, pl⟩ [a, b]) := hV
    clear hV rX h2
    clear hf
    clear rT rZ rN hB0
    go_wp2
    refine bodyPost_ret (results_cell7 rfl _ (z + 2) rfl _ _ _ HF.out.1) rfl ?_
    exact ruleRes_of HVV.out rfl (HR.out.under HF.out.2) HF.out.2
  have hc3 : ab = true ∨ ak = 76 ∨ ak = 71 := by
    rcases hcase with h | ⟨-, h⟩ | ⟨-, -, h⟩
    · exact .inl h
    · exact .inr (.inl h)
    · exact .inr (.inr h)
  have hV : V = b := by rw [HVB.out, if_pos ⟨h2, rfl, hc3⟩]
  have HVV : Hid (V = b) := hV
  have hf := seven_fin (w := w) b sb rZ hB0 (by rw [HZ.out]; omega)
  have t5 : W0.cell? ⟨z + 1, 5, none⟩ = some (.slice (some ⟨g, 0, none⟩) 2 sc) := by rw [cell_of_row _ _ _ _ _ _ rT]; rfl
  have LT : z + 1 < W0.heap.size := lt_of_cell t5
  have n0 : W0.cell? ⟨z + 3, 0, none⟩ = some (.int .i64 80) := by rw [cell_of_row _ _ _ _ _ _ rN]; rfl
  have n1 : W0.cell? ⟨z + 3, 1, none⟩ = some (.int .i64 (k : Int)) := by rw [cell_of_row _ _ _ _ _ _ rN]; rfl
  have n2 : W0.cell? ⟨z + 3, 2, none⟩ = some (.string tx) := by rw [cell_of_row _ _ _ _ _ _ rN]; rfl
  have LN : z + 3 < W0.heap.size := lt_of_cell n0
  obtain ⟨f, d0, d1, d2, d3, d4, d5, d6⟩ := zero7 rZ
  have f0 := f 0
  have f1 := f 1
  have f2 := f 2
  have f3 := f 3
  have f4 := f 4
  have f5 := f 5
  have f6 := f 6
  have LZ : z + 2 < W0.heap.size := lt_of_cell d0
  clear f
  have HF : Hid (Row7 (((((((W0.setCell ⟨z + 2, 0, none⟩ (.int .i64 b.nd.kind)).setCell ⟨z + 2, 1, none⟩ (.int .i64 b.nd.num)).setCell ⟨z + 2, 2, none⟩ (.string b.nd.text)).setCell ⟨z + 2, 3, none⟩ (.int .i64 b.nd.kids)).setCell ⟨z + 2, 4, none⟩ (.int .i64 b.nd.place)).setCell ⟨z + 2, 5, none⟩ (.slice sb.1 sb.2.1 sb.2.2)).setCell ⟨z + 2, 6, none⟩ (.bool (knT b))) (z + 2) 0 b sb ∧ Below w.heap.size w (((((((W0.setCell ⟨z + 2, 0, none⟩ (.int .i64 b.nd.kind)).setCell ⟨z + 2, 1, none⟩ (.int .i64 b.nd.num)).setCell ⟨z + 2, 2, none⟩ (.string b.nd.text)).setCell ⟨z + 2, 3, none⟩ (.int .i64 b.nd.kids)).setCell ⟨z + 2, 4, none⟩ (.int .i64 b.nd.place)).setCell ⟨z + 2, 5, none⟩ (.slice sb.1 sb.2.1 sb.2.2)).setCell ⟨z + 2, 6, none⟩ (.bool (knT b)))) := hf
  clear hf rT rZ rN rX hsz hB0 hV h2 hc3
  rcases hcase with rfl | ⟨rfl, rfl⟩ | ⟨rfl, t76, rfl⟩
  all_goals
    go_wp2
    refine bodyPost_ret (results_cell7 rfl _ (z + 2) rfl _ _ _ HF.out.1) rfl ?_
    exact ruleRes_of HVV.out rfl (HSB.out.under HF.out.2) HF.out.2
end Go.Proofs.YtedlofpgddjpgaaGreat
