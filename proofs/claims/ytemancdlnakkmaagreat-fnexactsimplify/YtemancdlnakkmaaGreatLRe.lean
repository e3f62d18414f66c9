import Derived.Test.YtemancdlnakkmaaGreatWBB
namespace Go.Proofs.YtemancdlnakkmaaGreat
open Go.RowKit
theorem choose_step (v p c : Tre) (nr : Nd) (tl : List Tre) : chooseT v (.mk nr [p, c] :: tl) = if fitsT p v then (if !bindsT p then some c else if p.nd.kind = 90 then some (mkT ⟨80, p.nd.num, ⟨#[]⟩, 0, 0⟩ [v, c]) else none) else chooseT v tl := rfl
set_option maxRecDepth 20000 in
set_option maxHeartbeats 8000000 in
theorem rule_case (us : Int → Nat) (x0 x1 x2 x3 x4 x5 : Sl3) (n : Nd) (ks : List Tre) (s : Sl3) (A : Nat → Prop) (w : World) (hA : ∀ q, w.heap.size ≤ q → A q) (hR : SRep w A (.mk n ks) s) (hP : PlT (.mk n ks)) (hu : CntS w x3 us) (hk : n.kind = 83) :
    Calls Tryz.prog 44 #[xv x0 x1 x2 x3 x4 x5, .agg (sv (.mk n ks) s).toArray] w fun e w' => RuleRes w A (ruleT us (.mk n ks)) e w' := by
  obtain ⟨so, sl, sc⟩ := s
  obtain ⟨h1, h2, h3, h4⟩ := hR.skids
  simp only [Tre.ks] at h1 h2 h3 h4
  subst h1
  obtain ⟨kd, nm, tx, kk, pl⟩ := n
  simp only at hk
  subst hk
  obtain ⟨v, rs, rfl, -, hrs⟩ := hP.node.cas rfl
  obtain ⟨q, hq⟩ : ∃ q, (v :: rs).length = q := ⟨_, rfl⟩
  rw [hq] at hR h2 h3 ⊢
  have HQ : Hid (rs.length + 1 = q) := hq
  have HRS : Hid (∀ r ∈ rs, r.nd.kind = 84) := hrs
  obtain ⟨g, sv0, hso, -, rowa, repa⟩ := h4 0 (by simp)
  subst hso
  simp only [List.getElem_cons_zero, Nat.zero_mul] at rowa repa
  have lgw : g < w.heap.size := lt_of_cell rowa.1
  have HRA : Hid (Row7 w g 0 v sv0) := rowa
  have HSA : Hid (SRep w A v sv0) := repa
  have LGW : Hid (g < w.heap.size) := lgw
  have HKS : Hid (∀ j (h : j < (v :: rs).length), ∃ g' sj, some (⟨g, 0, none⟩ : Addr) = some ⟨g', 0, none⟩ ∧ A g' ∧ Row7 w g' (j * 7) (v :: rs)[j] sj ∧ SRep w A (v :: rs)[j] sj) := h4
  clear rowa repa h4 lgw hq hrs
  obtain ⟨kb, hkb⟩ : ∃ kb, knT (.mk ⟨83, nm, tx, kk, pl⟩ (v :: rs)) = kb := ⟨_, rfl⟩
  have HKB : Hid (knT (.mk ⟨83, nm, tx, kk, pl⟩ (v :: rs)) = kb) := hkb
  have hsv : (sv (.mk ⟨83, nm, tx, kk, pl⟩ (v :: rs)) ((some ⟨g, 0, none⟩), q, sc)).toArray = #[.int .i64 83, .int .i64 nm, .string tx, .int .i64 kk, .int .i64 pl, .slice (some ⟨g, 0, none⟩) q sc, .bool kb] := by rw [← hkb]; rfl
  have HR : Hid (SRep w A (.mk ⟨83, nm, tx, kk, pl⟩ (v :: rs)) ((some ⟨g, 0, none⟩), q, sc)) := hR
  have HA : Hid (∀ q, w.heap.size ≤ q → A q) := hA
  have HP : Hid (PlT (.mk ⟨83, nm, tx, kk, pl⟩ (v :: rs))) := hP
  obtain ⟨V, hV⟩ : ∃ V, ruleT us (.mk ⟨83, nm, tx, kk, pl⟩ (v :: rs)) = V := ⟨_, rfl⟩
  have HV : Hid (ruleT us (.mk ⟨83, nm, tx, kk, pl⟩ (v :: rs)) = V) := hV
  have HU : Hid (CntS w x3 us) := hu
  rw [hV]
  obtain ⟨rX, rT, rZ, rN, hsz, hB0⟩ := four_blocks w #[.slice x0.1 x0.2.1 x0.2.2, .slice x1.1 x1.2.1 x1.2.2, .slice x2.1 x2.2.1 x2.2.2, .slice x3.1 x3.2.1 x3.2.2, .slice x4.1 x4.2.1 x4.2.2, .slice x5.1 x5.2.1 x5.2.2] #[.int .i64 83, .int .i64 nm, .string tx, .int .i64 kk, .int .i64 pl, .slice (some ⟨g, 0, none⟩) q sc, .bool kb] #[.int .i64 0, .int .i64 0, .string ⟨#[]⟩, .int .i64 0, .int .i64 0, .slice none 0 0, .bool false] #[.int .i64 83, .int .i64 nm, .string tx, .int .i64 kk, .int .i64 pl] 48 51 51 34
  have HRX : Hid _ := rX
  have HRT : Hid _ := rT
  have HRZ : Hid _ := rZ
  have HRN : Hid _ := rN
  have HSZ : Hid _ := hsz
  have HB0 : Hid _ := hB0
  clear rX rT rZ rN hsz hB0 hkb hV hR hA hP hu
  unfold xv
  rw [hsv]
  clear hsv
  go_enter Tryz.func44, Tryz.ntmps44
  go_upto_region 2 with fail
  have rX := HRX.out
  have rT := HRT.out
  have rZ := HRZ.out
  have rN := HRN.out
  have hsz := HSZ.out
  have hB0 := HB0.out
  clear HRX HRT HRZ HRN HSZ HB0
  generalize ((((w.alloc (.cells #[.slice x0.1 x0.2.1 x0.2.2, .slice x1.1 x1.2.1 x1.2.2, .slice x2.1 x2.2.1 x2.2.2, .slice x3.1 x3.2.1 x3.2.2, .slice x4.1 x4.2.1 x4.2.2, .slice x5.1 x5.2.1 x5.2.2] 48)).alloc (.cells #[.int .i64 83, .int .i64 nm, .string tx, .int .i64 kk, .int .i64 pl, .slice (some ⟨g, 0, none⟩) q sc, .bool kb] 51)).alloc (.cells #[.int .i64 0, .int .i64 0, .string ⟨#[]⟩, .int .i64 0, .int .i64 0, .slice none 0 0, .bool false] 51)).alloc (.cells #[.int .i64 83, .int .i64 nm, .string tx, .int .i64 kk, .int .i64 pl] 34)) = W0 at rX rT rZ rN hsz hB0 ⊢
  obtain ⟨z, hz⟩ : ∃ z, w.heap.size = z := ⟨_, rfl⟩
  have HZ : Hid (w.heap.size = z) := hz
  have e2 : z + 1 + 1 = z + 2 := rfl
  have e3 : z + 2 + 1 = z + 3 := rfl
  simp only [hz] at rX rT rZ rN hsz
  simp only [hz, e2, e3]
  clear e2 e3 hz
  have HVB : Hid (V = if knT v then (chooseT v rs).getD (.mk ⟨83, nm, tx, kk, pl⟩ (v :: rs)) else .mk ⟨83, nm, tx, kk, pl⟩ (v :: rs)) := by
    show _ = _
    rw [← HV.out]
    rfl
  obtain ⟨a0, a1, a2, a3, a4, a5, a6⟩ := HRA.out.cells hB0 LGW.out
  simp only [Nat.zero_add] at a0 a1 a2 a3 a4 a5 a6
  have lg : g < W0.heap.size := lt_of_cell a0
  have hq0 : 0 < q := by have := HQ.out; omega
  have hq1 : (0 : Int) < (q : Int) := by omega
  obtain ⟨kv, hkv⟩ : ∃ kv, knT v = kv := ⟨_, rfl⟩
  rw [hkv] at a6 HVB
  cases kv
  · have hV : V = .mk ⟨83, nm, tx, kk, pl⟩ (v :: rs) := HVB.out
    have t0 : W0.cell? ⟨z + 1, 0, none⟩ = some (.int .i64 83) := by rw [cell_of_row _ _ _ _ _ _ rT]; rfl
    have t1 : W0.cell? ⟨z + 1, 1, none⟩ = some (.int .i64 nm) := by rw [cell_of_row _ _ _ _ _ _ rT]; rfl
    have t2 : W0.cell? ⟨z + 1, 2, none⟩ = some (.string tx) := by rw [cell_of_row _ _ _ _ _ _ rT]; rfl
    have t3 : W0.cell? ⟨z + 1, 3, none⟩ = some (.int .i64 kk) := by rw [cell_of_row _ _ _ _ _ _ rT]; rfl
    have t4 : W0.cell? ⟨z + 1, 4, none⟩ = some (.int .i64 pl) := by rw [cell_of_row _ _ _ _ _ _ rT]; rfl
    have t5 : W0.cell? ⟨z + 1, 5, none⟩ = some (.slice (some ⟨g, 0, none⟩) q sc) := by rw [cell_of_row _ _ _ _ _ _ rT]; rfl
    have t6 : W0.cell? ⟨z + 1, 6, none⟩ = some (.bool kb) := by rw [cell_of_row _ _ _ _ _ _ rT]; rfl
    have LT : z + 1 < W0.heap.size := lt_of_cell t0
    have n0 : W0.cell? ⟨z + 3, 0, none⟩ = some (.int .i64 83) := by rw [cell_of_row _ _ _ _ _ _ rN]; rfl
    have n1 : W0.cell? ⟨z + 3, 1, none⟩ = some (.int .i64 nm) := by rw [cell_of_row _ _ _ _ _ _ rN]; rfl
    have n2 : W0.cell? ⟨z + 3, 2, none⟩ = some (.string tx) := by rw [cell_of_row _ _ _ _ _ _ rN]; rfl
    have LN : z + 3 < W0.heap.size := lt_of_cell n0
    have hf := seven_fin (w := w) (.mk ⟨83, nm, tx, kk, pl⟩ (v :: rs)) ((some ⟨g, 0, none⟩), q, sc) rZ hB0 (by rw [HZ.out]; omega)
    simp only [Tre.nd] at hf
    rw [HKB.out] at hf
    obtain ⟨f, d0, d1, d2, d3, d4, d5, d6⟩ := zero7 rZ
    have f0 := f 0
    have f1 := f 1
    have f2 := f 2
    have f3 := f 3
    have f4 := f 4
    have f5 := f 5
    have f6 := f 6
    have LZ : z + 2 < W0.heap.size := lt_of_cell d0
    clear f
    have HF : Hid (Row7 (((((((W0.setCell ⟨z + 2, 0, none⟩ (.int .i64 83)).setCell ⟨z + 2, 1, none⟩ (.int .i64 nm)).setCell ⟨z + 2, 2, none⟩ (.string tx)).setCell ⟨z + 2, 3, none⟩ (.int .i64 kk)).setCell ⟨z + 2, 4, none⟩ (.int .i64 pl)).setCell ⟨z + 2, 5, none⟩ (.slice (some ⟨g, 0, none⟩) q sc)).setCell ⟨z + 2, 6, none⟩ (.bool kb)) (z + 2) 0 (.mk ⟨83, nm, tx, kk, pl⟩ (v :: rs)) ((some ⟨g, 0, none⟩), q, sc) ∧ Below w.heap.size w (((((((W0.setCell ⟨z + 2, 0, none⟩ (.int .i64 83)).setCell ⟨z + 2, 1, none⟩ (.int .i64 nm)).setCell ⟨z + 2, 2, none⟩ (.string tx)).setCell ⟨z + 2, 3, none⟩ (.int .i64 kk)).setCell ⟨z + 2, 4, none⟩ (.int .i64 pl)).setCell ⟨z + 2, 5, none⟩ (.slice (some ⟨g, 0, none⟩) q sc)).setCell ⟨z + 2, 6, none⟩ (.bool kb))) := hf
    have HVV : Hid (V = .mk ⟨83, nm, tx, kk, pl⟩ (v :: rs)) := hV
    clear hV rX hkv a0 a1 a2 a3 a4 a5 hsz
    clear hf
    clear rT rZ rN hB0
    go_wp2
    refine bodyPost_ret (results_cell7 rfl _ (z + 2) rfl _ _ _ HF.out.1) rfl ?_
    exact ruleRes_of HVV.out rfl (HR.out.under HF.out.2) HF.out.2
  have HVC : Hid (V = (chooseT v rs).getD (.mk ⟨83, nm, tx, kk, pl⟩ (v :: rs))) := HVB.out
  have HKV : Hid (knT v = true) := hkv
  have t5 : W0.cell? ⟨z + 1, 5, none⟩ = some (.slice (some ⟨g, 0, none⟩) q sc) := by rw [cell_of_row _ _ _ _ _ _ rT]; rfl
  have LT : z + 1 < W0.heap.size := lt_of_cell t5
  have n0 : W0.cell? ⟨z + 3, 0, none⟩ = some (.int .i64 83) := by rw [cell_of_row _ _ _ _ _ _ rN]; rfl
  have LN : z + 3 < W0.heap.size := lt_of_cell n0
  have HRT : Hid _ := rT
  have HRZ : Hid _ := rZ
  have HRN : Hid _ := rN
  have HSZ : Hid _ := hsz
  have HB0 : Hid _ := hB0
  clear rT rZ rN rX hsz hB0 hkv a0 a1 a2 a3 a4 a5 HVB
  go_wp2_with fail
  clear t5 n0 a6
  go_loopw [8, 9] (fun v8 _ wr => ∃ k : Nat, 1 ≤ k ∧ k ≤ q ∧ v8 = .int .i64 (k : Int) ∧ chooseT v rs = chooseT v (rs.drop (k - 1)) ∧ Below W0.heap.size W0 wr) (fun v8 _ _ => q - (intOf v8).toNat)
  case atStart => exact ⟨1, Nat.le_refl _, by omega, rfl, by simp, Below.refl _ _⟩
  case round =>
    obtain ⟨k, hk1, hkq, rfl, hch, hbr⟩ := hrel
    have HCH : Hid _ := hch
    have hBr := Below.step HB0.out hbr
    have rT := (hbr.block (z + 1) (by have := HSZ.out; omega)).trans HRT.out
    have rZ := (hbr.block (z + 2) (by have := HSZ.out; omega)).trans HRZ.out
    have rN := (hbr.block (z + 3) (by have := HSZ.out; omega)).trans HRN.out
    have t5 : wr.cell? ⟨z + 1, 5, none⟩ = some (.slice (some ⟨g, 0, none⟩) q sc) := by rw [cell_of_row _ _ _ _ _ _ rT]; rfl
    have LTr : z + 1 < wr.heap.size := lt_of_cell t5
    have hzr : z + 4 ≤ wr.heap.size := by have := HSZ.out; have := hbr.size; omega
    clear hch
    by_cases hlt : k < q
    rotate_left
    · have hV : V = .mk ⟨83, nm, tx, kk, pl⟩ (v :: rs) := by
        rw [HVC.out, HCH.out, List.drop_of_length_le (by have := HQ.out; omega)]
        rfl
      clear t5 LTr
      have t0 : wr.cell? ⟨z + 1, 0, none⟩ = some (.int .i64 83) := by rw [cell_of_row _ _ _ _ _ _ rT]; rfl
      have t1 : wr.cell? ⟨z + 1, 1, none⟩ = some (.int .i64 nm) := by rw [cell_of_row _ _ _ _ _ _ rT]; rfl
      have t2 : wr.cell? ⟨z + 1, 2, none⟩ = some (.string tx) := by rw [cell_of_row _ _ _ _ _ _ rT]; rfl
      have t3 : wr.cell? ⟨z + 1, 3, none⟩ = some (.int .i64 kk) := by rw [cell_of_row _ _ _ _ _ _ rT]; rfl
      have t4 : wr.cell? ⟨z + 1, 4, none⟩ = some (.int .i64 pl) := by rw [cell_of_row _ _ _ _ _ _ rT]; rfl
      have t5 : wr.cell? ⟨z + 1, 5, none⟩ = some (.slice (some ⟨g, 0, none⟩) q sc) := by rw [cell_of_row _ _ _ _ _ _ rT]; rfl
      have t6 : wr.cell? ⟨z + 1, 6, none⟩ = some (.bool kb) := by rw [cell_of_row _ _ _ _ _ _ rT]; rfl
      have LT : z + 1 < wr.heap.size := lt_of_cell t0
      have n0 : wr.cell? ⟨z + 3, 0, none⟩ = some (.int .i64 83) := by rw [cell_of_row _ _ _ _ _ _ rN]; rfl
      have n1 : wr.cell? ⟨z + 3, 1, none⟩ = some (.int .i64 nm) := by rw [cell_of_row _ _ _ _ _ _ rN]; rfl
      have n2 : wr.cell? ⟨z + 3, 2, none⟩ = some (.string tx) := by rw [cell_of_row _ _ _ _ _ _ rN]; rfl
      have LN : z + 3 < wr.heap.size := lt_of_cell n0
      have hf := seven_fin (w := w) (.mk ⟨83, nm, tx, kk, pl⟩ (v :: rs)) ((some ⟨g, 0, none⟩), q, sc) rZ hBr (by rw [HZ.out]; omega)
      simp only [Tre.nd] at hf
      rw [HKB.out] at hf
      obtain ⟨f, d0, d1, d2, d3, d4, d5, d6⟩ := zero7 rZ
      have f0 := f 0
      have f1 := f 1
      have f2 := f 2
      have f3 := f 3
      have f4 := f 4
      have f5 := f 5
      have f6 := f 6
      have LZ : z + 2 < wr.heap.size := lt_of_cell d0
      clear f
      have HF : Hid (Row7 (((((((wr.setCell ⟨z + 2, 0, none⟩ (.int .i64 83)).setCell ⟨z + 2, 1, none⟩ (.int .i64 nm)).setCell ⟨z + 2, 2, none⟩ (.string tx)).setCell ⟨z + 2, 3, none⟩ (.int .i64 kk)).setCell ⟨z + 2, 4, none⟩ (.int .i64 pl)).setCell ⟨z + 2, 5, none⟩ (.slice (some ⟨g, 0, none⟩) q sc)).setCell ⟨z + 2, 6, none⟩ (.bool kb)) (z + 2) 0 (.mk ⟨83, nm, tx, kk, pl⟩ (v :: rs)) ((some ⟨g, 0, none⟩), q, sc) ∧ Below w.heap.size w (((((((wr.setCell ⟨z + 2, 0, none⟩ (.int .i64 83)).setCell ⟨z + 2, 1, none⟩ (.int .i64 nm)).setCell ⟨z + 2, 2, none⟩ (.string tx)).setCell ⟨z + 2, 3, none⟩ (.int .i64 kk)).setCell ⟨z + 2, 4, none⟩ (.int .i64 pl)).setCell ⟨z + 2, 5, none⟩ (.slice (some ⟨g, 0, none⟩) q sc)).setCell ⟨z + 2, 6, none⟩ (.bool kb))) := hf
      have HVV : Hid (V = .mk ⟨83, nm, tx, kk, pl⟩ (v :: rs)) := hV
      clear hV
      clear hf
      clear rT rZ rN hBr
      go_wp2
      refine bodyPost_ret (results_cell7 rfl _ (z + 2) rfl _ _ _ HF.out.1) rfl ?_
      exact ruleRes_of HVV.out rfl (HR.out.under HF.out.2) HF.out.2
    have hkl : k < (v :: rs).length := by have := HQ.out; simp; omega
    obtain ⟨g', sr, hg', -, rowr, repr⟩ := HKS.out k hkl
    simp only [Option.some.injEq, Addr.mk.injEq, and_true] at hg'
    subst hg'
    have hkr : k - 1 < rs.length := by have := HQ.out; omega
    have hget : (v :: rs)[k] = rs[k - 1] := by
      rw [List.getElem_cons, dif_neg (by omega)]
    rw [hget] at rowr repr
    have hdrop : rs.drop (k - 1) = rs[k - 1] :: rs.drop k := by
      have h9 := List.drop_eq_getElem_cons hkr
      rw [h9]
      congr 2
      omega
    have hpr : PlT rs[k - 1] := HP.out.kid _ (List.mem_cons_of_mem _ (List.getElem_mem hkr))
    have hkr4 : rs[k - 1].nd.kind = 84 := HRS.out _ (List.getElem_mem hkr)
    generalize rs[k - 1] = r at rowr repr hdrop hpr hkr4
    obtain ⟨nr, kr⟩ := r
    obtain ⟨p, c, rfl, ppat, -⟩ := hpr.node.rul hkr4
    have pp := hpr.kid p (by simp)
    have HCN : Hid (chooseT v rs = if fitsT p v then (if !bindsT p then some c else if p.nd.kind = 90 then some (mkT ⟨80, p.nd.num, ⟨#[]⟩, 0, 0⟩ [v, c]) else none) else chooseT v (rs.drop k)) := by
      show _ = _
      rw [HCH.out, hdrop, choose_step]
    obtain ⟨l1, l2, l3, hk2⟩ := repr.skids
    obtain ⟨ro, rl, cr⟩ := sr
    simp only [Tre.ks, List.length_cons, List.length_nil, Nat.zero_add, Nat.reduceAdd] at l1 l2 l3 hk2
    subst l1
    obtain ⟨gr, sp, hro, -, rowp, repp⟩ := hk2 0 (by omega)
    obtain ⟨gr', sc2, hro', -, rowc, repc⟩ := hk2 1 (by omega)
    rw [hro] at hro'
    simp only [Option.some.injEq, Addr.mk.injEq, and_true] at hro'
    subst hro'
    subst hro
    simp only [List.getElem_cons_zero, List.getElem_cons_succ, Nat.zero_mul, Nat.one_mul] at rowp rowc repp repc
    have lgr : gr < w.heap.size := lt_of_cell rowp.1
    have HRP : Hid (Row7 w gr 0 p sp) := rowp
    have HRC : Hid (Row7 w gr 7 c sc2) := rowc
    have HSC : Hid (SRep w A c sc2) := repc
    have HSP : Hid (SRep w A p sp) := repp
    have LGR : Hid (gr < w.heap.size) := lgr
    have HRR : Hid (w.cell? ⟨g, k * 7 + 5, none⟩ = some (.slice (some ⟨gr, 0, none⟩) 2 cr)) := rowr.2.2.2.2.2.1
    have kr5 : wr.cell? ⟨g, k * 7 + 5, none⟩ = some (.slice (some ⟨gr, 0, none⟩) 2 cr) := by
      have h9 := hBr.block g LGW.out
      have h8 := HRR.out
      simp only [World.cell?, h9] at h8 ⊢
      exact h8
    obtain ⟨p0, p1, p2, p3, p4, p5, p6⟩ := HRP.out.cells hBr LGR.out
    simp only [Nat.zero_add] at p0 p1 p2 p3 p4 p5 p6
    have lgg : g < wr.heap.size := lt_of_cell kr5
    have lgr9 : gr < wr.heap.size := lt_of_cell p0
    have HPP : Hid (PlT p ∧ pPat p.nd = true) := ⟨pp, ppat⟩
    have kq : (k : Int) < (q : Int) := by omega
    have k00 : (0 : Int) ≤ (k : Int) := by omega
    clear hk2 rowp rowc repp repc rowr repr hdrop hpr hkr4 hkr hget hkl pp ppat l2 l3 lgr
    have HRTr : Hid _ := rT
    have HRZr : Hid _ := rZ
    have HRNr : Hid _ := rN
    have HBr : Hid _ := hBr
    have HBR : Hid _ := hbr
    have HHR : Hid (z + 4 ≤ wr.heap.size) := hzr
    clear rT rZ rN hBr hbr hzr
    go_upto_region 13 with fail
    have rT := (Below.heap_alloc wr (.cells #[.int .i64 p.nd.kind, .int .i64 p.nd.num, .string p.nd.text, .int .i64 p.nd.kids, .int .i64 p.nd.place, .slice sp.1 sp.2.1 sp.2.2, .bool (knT p)] 51) (z + 1) LTr).trans HRTr.out
    have rZ := (Below.heap_alloc wr (.cells #[.int .i64 p.nd.kind, .int .i64 p.nd.num, .string p.nd.text, .int .i64 p.nd.kids, .int .i64 p.nd.place, .slice sp.1 sp.2.1 sp.2.2, .bool (knT p)] 51) (z + 2) (by have := HHR.out; omega)).trans HRZr.out
    have rN := (Below.heap_alloc wr (.cells #[.int .i64 p.nd.kind, .int .i64 p.nd.num, .string p.nd.text, .int .i64 p.nd.kids, .int .i64 p.nd.place, .slice sp.1 sp.2.1 sp.2.2, .bool (knT p)] 51) (z + 3) (by have := HHR.out; omega)).trans HRNr.out
    have rP := heap_alloc_new wr (.cells #[.int .i64 p.nd.kind, .int .i64 p.nd.num, .string p.nd.text, .int .i64 p.nd.kids, .int .i64 p.nd.place, .slice sp.1 sp.2.1 sp.2.2, .bool (knT p)] 51)
    have hB1 := HBr.out.alloc HBr.out.size (.cells #[.int .i64 p.nd.kind, .int .i64 p.nd.num, .string p.nd.text, .int .i64 p.nd.kids, .int .i64 p.nd.place, .slice sp.1 sp.2.1 sp.2.2, .bool (knT p)] 51)
    have hBR1 := HBR.out.alloc HBR.out.size (.cells #[.int .i64 p.nd.kind, .int .i64 p.nd.num, .string p.nd.text, .int .i64 p.nd.kids, .int .i64 p.nd.place, .slice sp.1 sp.2.1 sp.2.2, .bool (knT p)] 51)
    have hs1 : (wr.alloc (.cells #[.int .i64 p.nd.kind, .int .i64 p.nd.num, .string p.nd.text, .int .i64 p.nd.kids, .int .i64 p.nd.place, .slice sp.1 sp.2.1 sp.2.2, .bool (knT p)] 51)).heap.size = wr.heap.size + 1 := by simp
    generalize wr.alloc (.cells #[.int .i64 p.nd.kind, .int .i64 p.nd.num, .string p.nd.text, .int .i64 p.nd.kids, .int .i64 p.nd.place, .slice sp.1 sp.2.1 sp.2.2, .bool (knT p)] 51) = W1 at rT rZ rN rP hB1 hBR1 hs1 ⊢
    have hzr := HHR.out
    have hzw := HZ.out
    generalize wr.heap.size = zp at rP hs1 hzr ⊢
    clear HRTr HRZr HRNr HBr HBR HHR p0 p1 p2 p3 p4 p5 p6 kr5 t5 LTr lgg lgr9
    have HCE : Hid (∀ W, Below W1.heap.size W1 W → W.cell? ⟨z + 1, 5, none⟩ = some (.slice (some ⟨g, 0, none⟩) q sc) ∧ W.cell? ⟨zp, 0, none⟩ = some (.int .i64 p.nd.kind) ∧ W.cell? ⟨zp, 1, none⟩ = some (.int .i64 p.nd.num) ∧ W.cell? ⟨zp, 2, none⟩ = some (.string p.nd.text) ∧ W.cell? ⟨zp, 3, none⟩ = some (.int .i64 p.nd.kids) ∧ W.cell? ⟨zp, 4, none⟩ = some (.int .i64 p.nd.place) ∧ W.cell? ⟨zp, 5, none⟩ = some (.slice sp.1 sp.2.1 sp.2.2) ∧ W.cell? ⟨zp, 6, none⟩ = some (.bool (knT p)) ∧ W.cell? ⟨g, 0, none⟩ = some (.int .i64 v.nd.kind) ∧ W.cell? ⟨g, 1, none⟩ = some (.int .i64 v.nd.num) ∧ W.cell? ⟨g, 2, none⟩ = some (.string v.nd.text) ∧ W.cell? ⟨g, 3, none⟩ = some (.int .i64 v.nd.kids) ∧ W.cell? ⟨g, 4, none⟩ = some (.int .i64 v.nd.place) ∧ W.cell? ⟨g, 5, none⟩ = some (.slice sv0.1 sv0.2.1 sv0.2.2) ∧ W.cell? ⟨g, 6, none⟩ = some (.bool (knT v))) := by
      intro W hW
      have q1 := (hW.block (z + 1) (by omega)).trans rT
      have qP := (hW.block zp (by omega)).trans rP
      have hbw := Below.step hB1 hW
      obtain ⟨b0, b1, b2, b3, b4, b5, b6⟩ := HRA.out.cells hbw LGW.out
      simp only [Nat.zero_add] at b0 b1 b2 b3 b4 b5 b6
      obtain ⟨c0, c1, c2, c3, c4, c5, c6⟩ := row7_of (T := p) (s := sp) qP
      simp only [Nat.zero_add] at c0 c1 c2 c3 c4 c5 c6
      refine ⟨?_, c0, c1, c2, c3, c4, c5, c6, b0, b1, b2, b3, b4, b5, b6⟩
      rw [cell_of_row _ _ _ _ _ _ q1]; rfl
    have HCC : Hid (∀ W, Below W1.heap.size W1 W → Calls Tryz.prog 62 #[.agg #[.int .i64 p.nd.kind, .int .i64 p.nd.num, .string p.nd.text, .int .i64 p.nd.kids, .int .i64 p.nd.place, .slice sp.1 sp.2.1 sp.2.2, .bool (knT p)], .agg #[.int .i64 v.nd.kind, .int .i64 v.nd.num, .string v.nd.text, .int .i64 v.nd.kids, .int .i64 v.nd.place, .slice sv0.1 sv0.2.1 sv0.2.2, .bool (knT v)]] W fun e w' => e = .returned (.bool (fitsT p v)) ∧ Below W.heap.size W w') := by
      intro W hW
      have hbw := Below.step hB1 hW
      exact fitsS_any p v sp sv0 A W HPP.out.1.sh (by rw [patK_pPat]; exact HPP.out.2) (HP.out.kid v (by simp)).sh (HSP.out.under hbw) (HSA.out.under hbw)
    have HCB : Hid (∀ W, Below W1.heap.size W1 W → Calls Tryz.prog 63 #[.agg #[.int .i64 p.nd.kind, .int .i64 p.nd.num, .string p.nd.text, .int .i64 p.nd.kids, .int .i64 p.nd.place, .slice sp.1 sp.2.1 sp.2.2, .bool (knT p)]] W fun e w' => e = .returned (.bool (bindsT p)) ∧ Below W.heap.size W w') := by
      intro W hW
      exact binds_any p sp A W (HSP.out.under (Below.step hB1 hW))
    have hbD := (Below.refl W1.heap.size W1).drew
    have l1 : zp < W1.heap.size := by omega
    have l2 : z + 1 < W1.heap.size := by omega
    have l4 : g < W1.heap.size := by have := LGW.out; omega
    have HRT1 : Hid _ := rT
    have HRZ1 : Hid _ := rZ
    have HRN1 : Hid _ := rN
    have HRP1 : Hid _ := rP
    have HB1 : Hid _ := hB1
    have HBR1 : Hid _ := hBR1
    have HS1 : Hid (W1.heap.size = zp + 1) := hs1
    have HZR : Hid (z + 4 ≤ zp) := hzr
    generalize hfv : fitsT p v = fv at HCC HCN
    generalize hbv : bindsT p = bv at HCB HCN
    clear rT rZ rN rP hB1 hBR1 hs1 hzr hzw hfv hbv
    go_region_held3 (fun w' => w'.cell? ⟨z + 1, 5, none⟩ = some (.slice (some ⟨g, 0, none⟩) q sc) ∧ w'.cell? ⟨zp, 0, none⟩ = some (.int .i64 p.nd.kind) ∧ w'.cell? ⟨zp, 1, none⟩ = some (.int .i64 p.nd.num) ∧ w'.cell? ⟨zp, 2, none⟩ = some (.string p.nd.text) ∧ w'.cell? ⟨zp, 3, none⟩ = some (.int .i64 p.nd.kids) ∧ w'.cell? ⟨zp, 4, none⟩ = some (.int .i64 p.nd.place) ∧ w'.cell? ⟨zp, 5, none⟩ = some (.slice sp.1 sp.2.1 sp.2.2) ∧ w'.cell? ⟨zp, 6, none⟩ = some (.bool (knT p)) ∧ w'.cell? ⟨g, 0, none⟩ = some (.int .i64 v.nd.kind) ∧ w'.cell? ⟨g, 1, none⟩ = some (.int .i64 v.nd.num) ∧ w'.cell? ⟨g, 2, none⟩ = some (.string v.nd.text) ∧ w'.cell? ⟨g, 3, none⟩ = some (.int .i64 v.nd.kids) ∧ w'.cell? ⟨g, 4, none⟩ = some (.int .i64 v.nd.place) ∧ w'.cell? ⟨g, 5, none⟩ = some (.slice sv0.1 sv0.2.1 sv0.2.2) ∧ w'.cell? ⟨g, 6, none⟩ = some (.bool (knT v))) (first | with_reducible exact HCE.out _ hbD | with_reducible exact HCE.out _ hb4 | go_keep) ((go_at_call 62; refine (HCC.out _ hbD).mono ?_; rintro e w3 ⟨rfl, hb3⟩; have hb4 := Below.step hbD hb3))
    cases fv
    · have HBN : Hid _ := Below.step HBR1.out hb4
      have HCN2 : Hid (chooseT v rs = chooseT v (rs.drop (k + 1 - 1))) := HCN.out
      clear hb3 hb4 hbD
      go_wp2
      go_roundw
      case rel => exact ⟨k + 1, by omega, by omega, by go_num, HCN2.out, HBN.out⟩
      case measure => simp [intOf]; omega
    obtain ⟨x5, p0, p1, p2, p3, p4, p5, p6, -⟩ := HCE.out _ hb4
    have lp3 : zp < w3.heap.size := lt_of_cell p0
    have hB3 := HCB.out w3 hb4
    have HB4 : Hid _ := hb4
    clear hb3 hb4 hbD
    go_wp2_with fail
    refine hB3.mono ?_
    rintro e w5 ⟨rfl, hb5⟩
    have hb6 := Below.step HB4.out hb5
    have rT := (hb6.block (z + 1) (by have := HS1.out; have := HZR.out; omega)).trans HRT1.out
    have rZ := (hb6.block (z + 2) (by have := HS1.out; have := HZR.out; omega)).trans HRZ1.out
    have rN := (hb6.block (z + 3) (by have := HS1.out; have := HZR.out; omega)).trans HRN1.out
    have rP := (hb6.block zp (by have := HS1.out; omega)).trans HRP1.out
    have hB := Below.step HB1.out hb6
    have hz5 : zp < w5.heap.size := (Array.getElem?_eq_some_iff.1 rP).1
    clear hB3 hb5 x5 p0 p1 p2 p3 p4 p5 p6 lp3 l1 l2 l4 HB4
    cases bv
    · have hV : V = c := by rw [HVC.out, HCN.out]; rfl
      have HVV : Hid (V = c) := hV
      have hf := seven_fin (w := w) c sc2 rZ hB (by rw [HZ.out]; omega)
      obtain ⟨c0, c1, c2, c3, c4, c5, c6⟩ := HRC.out.cells hB LGR.out
      simp only [Nat.reduceAdd] at c0 c1 c2 c3 c4 c5 c6
      have lgr9 : gr < w5.heap.size := lt_of_cell c0
      have kr5 : w5.cell? ⟨g, k * 7 + 5, none⟩ = some (.slice (some ⟨gr, 0, none⟩) 2 cr) := by
        have h9 := hB.block g LGW.out
        have h8 := HRR.out
        simp only [World.cell?, h9] at h8 ⊢
        exact h8
      have lgg : g < w5.heap.size := lt_of_cell kr5
      have t5 : w5.cell? ⟨z + 1, 5, none⟩ = some (.slice (some ⟨g, 0, none⟩) q sc) := by rw [cell_of_row _ _ _ _ _ _ rT]; rfl
      have LT5 : z + 1 < w5.heap.size := lt_of_cell t5
      obtain ⟨f, d0, d1, d2, d3, d4, d5, d6⟩ := zero7 rZ
      have f0 := f 0
      have f1 := f 1
      have f2 := f 2
      have f3 := f 3
      have f4 := f 4
      have f5 := f 5
      have f6 := f 6
      have LZ : z + 2 < w5.heap.size := lt_of_cell d0
      clear f
      have HF : Hid (Row7 (((((((w5.setCell ⟨z + 2, 0, none⟩ (.int .i64 c.nd.kind)).setCell ⟨z + 2, 1, none⟩ (.int .i64 c.nd.num)).setCell ⟨z + 2, 2, none⟩ (.string c.nd.text)).setCell ⟨z + 2, 3, none⟩ (.int .i64 c.nd.kids)).setCell ⟨z + 2, 4, none⟩ (.int .i64 c.nd.place)).setCell ⟨z + 2, 5, none⟩ (.slice sc2.1 sc2.2.1 sc2.2.2)).setCell ⟨z + 2, 6, none⟩ (.bool (knT c))) (z + 2) 0 c sc2 ∧ Below w.heap.size w (((((((w5.setCell ⟨z + 2, 0, none⟩ (.int .i64 c.nd.kind)).setCell ⟨z + 2, 1, none⟩ (.int .i64 c.nd.num)).setCell ⟨z + 2, 2, none⟩ (.string c.nd.text)).setCell ⟨z + 2, 3, none⟩ (.int .i64 c.nd.kids)).setCell ⟨z + 2, 4, none⟩ (.int .i64 c.nd.place)).setCell ⟨z + 2, 5, none⟩ (.slice sc2.1 sc2.2.1 sc2.2.2)).setCell ⟨z + 2, 6, none⟩ (.bool (knT c)))) := hf
      clear hf rT rZ rN rP hB hV hb6
      go_wp2
      refine bodyPost_ret (results_cell7 rfl _ (z + 2) rfl _ _ _ HF.out.1) rfl ?_
      exact ruleRes_of HVV.out rfl (HSC.out.under HF.out.2) HF.out.2
    obtain ⟨pk, hpk⟩ : ∃ pk, p.nd.kind = pk := ⟨_, rfl⟩
    have c90 : w5.cell? ⟨zp, 0, none⟩ = some (.int .i64 pk) := by rw [← hpk, cell_of_row _ _ _ _ _ _ rP]; rfl
    rw [hpk] at HCN
    by_cases h90 : pk = 90
    rotate_left
    · have t90 : (pk == 90) = false := by simpa using h90
      have hV : V = .mk ⟨83, nm, tx, kk, pl⟩ (v :: rs) := by
        rw [HVC.out, HCN.out]
        simp [h90]
      clear rP hb6 h90 hpk
      have t0 : w5.cell? ⟨z + 1, 0, none⟩ = some (.int .i64 83) := by rw [cell_of_row _ _ _ _ _ _ rT]; rfl
      have t1 : w5.cell? ⟨z + 1, 1, none⟩ = some (.int .i64 nm) := by rw [cell_of_row _ _ _ _ _ _ rT]; rfl
      have t2 : w5.cell? ⟨z + 1, 2, none⟩ = some (.string tx) := by rw [cell_of_row _ _ _ _ _ _ rT]; rfl
      have t3 : w5.cell? ⟨z + 1, 3, none⟩ = some (.int .i64 kk) := by rw [cell_of_row _ _ _ _ _ _ rT]; rfl
      have t4 : w5.cell? ⟨z + 1, 4, none⟩ = some (.int .i64 pl) := by rw [cell_of_row _ _ _ _ _ _ rT]; rfl
      have t5 : w5.cell? ⟨z + 1, 5, none⟩ = some (.slice (some ⟨g, 0, none⟩) q sc) := by rw [cell_of_row _ _ _ _ _ _ rT]; rfl
      have t6 : w5.cell? ⟨z + 1, 6, none⟩ = some (.bool kb) := by rw [cell_of_row _ _ _ _ _ _ rT]; rfl
      have LT : z + 1 < w5.heap.size := lt_of_cell t0
      have n0 : w5.cell? ⟨z + 3, 0, none⟩ = some (.int .i64 83) := by rw [cell_of_row _ _ _ _ _ _ rN]; rfl
      have n1 : w5.cell? ⟨z + 3, 1, none⟩ = some (.int .i64 nm) := by rw [cell_of_row _ _ _ _ _ _ rN]; rfl
      have n2 : w5.cell? ⟨z + 3, 2, none⟩ = some (.string tx) := by rw [cell_of_row _ _ _ _ _ _ rN]; rfl
      have LN : z + 3 < w5.heap.size := lt_of_cell n0
      have hf := seven_fin (w := w) (.mk ⟨83, nm, tx, kk, pl⟩ (v :: rs)) ((some ⟨g, 0, none⟩), q, sc) rZ hB (by rw [HZ.out]; omega)
      simp only [Tre.nd] at hf
      rw [HKB.out] at hf
      obtain ⟨f, d0, d1, d2, d3, d4, d5, d6⟩ := zero7 rZ
      have f0 := f 0
      have f1 := f 1
      have f2 := f 2
      have f3 := f 3
      have f4 := f 4
      have f5 := f 5
      have f6 := f 6
      have LZ : z + 2 < w5.heap.size := lt_of_cell d0
      clear f
      have HF : Hid (Row7 (((((((w5.setCell ⟨z + 2, 0, none⟩ (.int .i64 83)).setCell ⟨z + 2, 1, none⟩ (.int .i64 nm)).setCell ⟨z + 2, 2, none⟩ (.string tx)).setCell ⟨z + 2, 3, none⟩ (.int .i64 kk)).setCell ⟨z + 2, 4, none⟩ (.int .i64 pl)).setCell ⟨z + 2, 5, none⟩ (.slice (some ⟨g, 0, none⟩) q sc)).setCell ⟨z + 2, 6, none⟩ (.bool kb)) (z + 2) 0 (.mk ⟨83, nm, tx, kk, pl⟩ (v :: rs)) ((some ⟨g, 0, none⟩), q, sc) ∧ Below w.heap.size w (((((((w5.setCell ⟨z + 2, 0, none⟩ (.int .i64 83)).setCell ⟨z + 2, 1, none⟩ (.int .i64 nm)).setCell ⟨z + 2, 2, none⟩ (.string tx)).setCell ⟨z + 2, 3, none⟩ (.int .i64 kk)).setCell ⟨z + 2, 4, none⟩ (.int .i64 pl)).setCell ⟨z + 2, 5, none⟩ (.slice (some ⟨g, 0, none⟩) q sc)).setCell ⟨z + 2, 6, none⟩ (.bool kb))) := hf
      have HVV : Hid (V = .mk ⟨83, nm, tx, kk, pl⟩ (v :: rs)) := hV
      clear hV
      clear hf
      clear rT rZ rN hB
      go_wp2
      refine bodyPost_ret (results_cell7 rfl _ (z + 2) rfl _ _ _ HF.out.1) rfl ?_
      exact ruleRes_of HVV.out rfl (HR.out.under HF.out.2) HF.out.2
    subst h90
    obtain ⟨pn, hpn⟩ : ∃ pn, p.nd.num = pn := ⟨_, rfl⟩
    have hV : V = mkT ⟨80, pn, ⟨#[]⟩, 0, 0⟩ [v, c] := by
      rw [HVC.out, HCN.out, hpn]
      rfl
    have HVV : Hid (V = mkT ⟨80, pn, ⟨#[]⟩, 0, 0⟩ [v, c]) := hV
    go_upto_region 17 with fail
    have HCE7 : Hid (∀ W, But (· = z + 2) w5 W → W.cell? ⟨zp, 1, none⟩ = some (.int .i64 pn) ∧ W.cell? ⟨z + 1, 5, none⟩ = some (.slice (some ⟨g, 0, none⟩) q sc) ∧ W.cell? ⟨g, k * 7 + 5, none⟩ = some (.slice (some ⟨gr, 0, none⟩) 2 cr) ∧ W.cell? ⟨g, 0, none⟩ = some (.int .i64 v.nd.kind) ∧ W.cell? ⟨g, 1, none⟩ = some (.int .i64 v.nd.num) ∧ W.cell? ⟨g, 2, none⟩ = some (.string v.nd.text) ∧ W.cell? ⟨g, 3, none⟩ = some (.int .i64 v.nd.kids) ∧ W.cell? ⟨g, 4, none⟩ = some (.int .i64 v.nd.place) ∧ W.cell? ⟨g, 5, none⟩ = some (.slice sv0.1 sv0.2.1 sv0.2.2) ∧ W.cell? ⟨g, 6, none⟩ = some (.bool (knT v)) ∧ W.cell? ⟨gr, 7, none⟩ = some (.int .i64 c.nd.kind) ∧ W.cell? ⟨gr, 8, none⟩ = some (.int .i64 c.nd.num) ∧ W.cell? ⟨gr, 9, none⟩ = some (.string c.nd.text) ∧ W.cell? ⟨gr, 10, none⟩ = some (.int .i64 c.nd.kids) ∧ W.cell? ⟨gr, 11, none⟩ = some (.int .i64 c.nd.place) ∧ W.cell? ⟨gr, 12, none⟩ = some (.slice sc2.1 sc2.2.1 sc2.2.2) ∧ W.cell? ⟨gr, 13, none⟩ = some (.bool (knT c))) := by
      intro W hW
      have hz9 := HZR.out
      have q1 := (hW.block (z + 1) (by omega) (by omega)).trans rT
      have qP := (hW.block zp (by omega) (by omega)).trans rP
      have hbw := (But.ofBelow (S := (· = z + 2)) hB).trans hW
      have lgw := LGW.out
      have lgr := LGR.out
      have hzw := HZ.out
      obtain ⟨b0, b1, b2, b3, b4, b5, b6⟩ := HRA.out.but hbw (by omega)
      obtain ⟨c0, c1, c2, c3, c4, c5, c6⟩ := HRC.out.but hbw (by omega)
      simp only [Nat.zero_add, Nat.reduceAdd] at b0 b1 b2 b3 b4 b5 b6 c0 c1 c2 c3 c4 c5 c6
      refine ⟨?_, ?_, ?_, b0, b1, b2, b3, b4, b5, b6, c0, c1, c2, c3, c4, c5, c6⟩
      · rw [← hpn, cell_of_row _ _ _ _ _ _ qP]; rfl
      · rw [cell_of_row _ _ _ _ _ _ q1]; rfl
      · have h9 := hbw.block g lgw (by omega)
        have h8 := HRR.out
        simp only [World.cell?, h9] at h8 ⊢
        exact h8
    obtain ⟨kc, hkc⟩ : ∃ kc, knT (mkT ⟨80, pn, ⟨#[]⟩, 0, 0⟩ [v, c]) = kc := ⟨_, rfl⟩
    have HKC : Hid _ := hkc
    have hsv : ∀ gk : Nat, (sv (mkT ⟨80, pn, ⟨#[]⟩, 0, 0⟩ [v, c]) (some ⟨gk, 0, none⟩, 2, 2)).toArray = #[.int .i64 80, .int .i64 pn, .string ⟨#[]⟩, .int .i64 2, .int .i64 0, .slice (some ⟨gk, 0, none⟩) 2 2, .bool kc] := by
      intro gk
      rw [← hkc]
      rfl
    have HSV : Hid _ := hsv
    obtain ⟨gk, hgk⟩ : ∃ gk, w5.heap.size = gk := ⟨_, rfl⟩
    have hz9 := HZR.out
    have hzw := HZ.out
    have HSB1 := HSA.out.but (A' := fun q => q ≠ z + 2 ∧ A q) (But.ofBelow (S := fun _ => False) hB) (fun _ _ h => h) (fun q h1 h2 => ⟨by omega, h1⟩)
    have HSC1 := HSC.out.but (A' := fun q => q ≠ z + 2 ∧ A q) (But.ofBelow (S := fun _ => False) hB) (fun _ _ h => h) (fun q h1 h2 => ⟨by omega, h1⟩)
    have HCM : Hid (∀ W, Below w5.heap.size w5 W → W.heap[gk]? = some (.cells #[.int .i64 v.nd.kind, .int .i64 v.nd.num, .string v.nd.text, .int .i64 v.nd.kids, .int .i64 v.nd.place, .slice sv0.1 sv0.2.1 sv0.2.2, .bool (knT v), .int .i64 c.nd.kind, .int .i64 c.nd.num, .string c.nd.text, .int .i64 c.nd.kids, .int .i64 c.nd.place, .slice sc2.1 sc2.2.1 sc2.2.2, .bool (knT c)] 51 (0, 0)) → SRep W (fun q => q ≠ z + 2 ∧ A q) (mkT ⟨80, pn, ⟨#[]⟩, 0, 0⟩ [v, c]) (some ⟨gk, 0, none⟩, 2, 2) ∧ Calls Tryz.prog 45 #[.agg #[.int .i64 80, .int .i64 pn, .string ⟨#[]⟩, .int .i64 0, .int .i64 0], .slice (some ⟨gk, 0, none⟩) 2 2] W fun e w' => e = .returned (.agg #[.int .i64 80, .int .i64 pn, .string ⟨#[]⟩, .int .i64 2, .int .i64 0, .slice (some ⟨gk, 0, none⟩) 2 2, .bool kc]) ∧ Below W.heap.size W w') := by
      intro W hW hk
      have hS := skids2 (A := fun q => q ≠ z + 2 ∧ A q) hk ⟨by omega, HA.out gk (by omega)⟩ (HSB1.under hW) (HSC1.under hW)
      have h9 := make_any ⟨80, pn, ⟨#[]⟩, 0, 0⟩ [v, c] (some ⟨gk, 0, none⟩, 2, 2) _ W hS (fun h => by simp at h)
      rw [HSV.out] at h9
      exact ⟨hS.rep _, h9⟩
    have bD := (Below.refl w5.heap.size w5).drew
    have bK := ((Below.refl w5.heap.size w5).alloc (Nat.le_refl _) (.cells #[.int .i64 v.nd.kind, .int .i64 v.nd.num, .string v.nd.text, .int .i64 v.nd.kids, .int .i64 v.nd.place, .slice sv0.1 sv0.2.1 sv0.2.2, .bool (knT v), .int .i64 c.nd.kind, .int .i64 c.nd.num, .string c.nd.text, .int .i64 c.nd.kids, .int .i64 c.nd.place, .slice sc2.1 sc2.2.1 sc2.2.2, .bool (knT c)] 51)).drew
    have hbD := But.ofBelow (S := (· = z + 2)) bD
    have hbK := But.ofBelow (S := (· = z + 2)) bK
    have RK : Hid ((w5.alloc (.cells #[.int .i64 v.nd.kind, .int .i64 v.nd.num, .string v.nd.text, .int .i64 v.nd.kids, .int .i64 v.nd.place, .slice sv0.1 sv0.2.1 sv0.2.2, .bool (knT v), .int .i64 c.nd.kind, .int .i64 c.nd.num, .string c.nd.text, .int .i64 c.nd.kids, .int .i64 c.nd.place, .slice sc2.1 sc2.2.1 sc2.2.2, .bool (knT c)] 51)).drew.heap[gk]? = some (.cells #[.int .i64 v.nd.kind, .int .i64 v.nd.num, .string v.nd.text, .int .i64 v.nd.kids, .int .i64 v.nd.place, .slice sv0.1 sv0.2.1 sv0.2.2, .bool (knT v), .int .i64 c.nd.kind, .int .i64 c.nd.num, .string c.nd.text, .int .i64 c.nd.kids, .int .i64 c.nd.place, .slice sc2.1 sc2.2.1 sc2.2.2, .bool (knT c)] 51 (0, 0))) := by rw [← hgk]; exact heap_alloc_new _ _
    have l2 : z + 1 < w5.heap.size := by omega
    have l4 : g < w5.heap.size := by have := LGW.out; omega
    have l5 : gr < w5.heap.size := by have := LGR.out; omega
    have HRZ5 : Hid _ := rZ
    have HB5 : Hid _ := hB
    have HGK : Hid _ := hgk
    have HS5 : Hid (z + 2 < w5.heap.size) := by show _ < _; omega
    clear rT rZ rN rP hB hb6 hz9 hzw HSB1 HSC1 hgk hV hpk hpn c90 hkc hsv HCE HCC HCB
    go_region_held3 (fun w' => w'.cell? ⟨zp, 1, none⟩ = some (.int .i64 pn) ∧ w'.cell? ⟨z + 1, 5, none⟩ = some (.slice (some ⟨g, 0, none⟩) q sc) ∧ w'.cell? ⟨g, k * 7 + 5, none⟩ = some (.slice (some ⟨gr, 0, none⟩) 2 cr) ∧ w'.cell? ⟨g, 0, none⟩ = some (.int .i64 v.nd.kind) ∧ w'.cell? ⟨g, 1, none⟩ = some (.int .i64 v.nd.num) ∧ w'.cell? ⟨g, 2, none⟩ = some (.string v.nd.text) ∧ w'.cell? ⟨g, 3, none⟩ = some (.int .i64 v.nd.kids) ∧ w'.cell? ⟨g, 4, none⟩ = some (.int .i64 v.nd.place) ∧ w'.cell? ⟨g, 5, none⟩ = some (.slice sv0.1 sv0.2.1 sv0.2.2) ∧ w'.cell? ⟨g, 6, none⟩ = some (.bool (knT v)) ∧ w'.cell? ⟨gr, 7, none⟩ = some (.int .i64 c.nd.kind) ∧ w'.cell? ⟨gr, 8, none⟩ = some (.int .i64 c.nd.num) ∧ w'.cell? ⟨gr, 9, none⟩ = some (.string c.nd.text) ∧ w'.cell? ⟨gr, 10, none⟩ = some (.int .i64 c.nd.kids) ∧ w'.cell? ⟨gr, 11, none⟩ = some (.int .i64 c.nd.place) ∧ w'.cell? ⟨gr, 12, none⟩ = some (.slice sc2.1 sc2.2.1 sc2.2.2) ∧ w'.cell? ⟨gr, 13, none⟩ = some (.bool (knT c))) (first | with_reducible exact HCE7.out _ hbD | with_reducible exact HCE7.out _ hbK | with_reducible exact HCE7.out _ hb4 | with_reducible exact HCE7.out _ (set7_but hb4 rfl _ _ _ _ _ _ _) | go_keep) ((go_at_call 45; rw [HGK.out]; refine (HCM.out _ bK RK.out).2.mono ?_; rintro e w7 ⟨rfl, hb7⟩; have b4 := Below.step bK hb7; have hb4 := But.ofBelow (S := (· = z + 2)) b4; have r9 := (b4.block (z + 2) HS5.out).trans HRZ5.out; obtain ⟨f, d0, d1, d2, d3, d4, d5, d6⟩ := zero7 r9; have f0 := f 0; have f1 := f 1; have f2 := f 2; have f3 := f 3; have f4 := f 4; have f5 := f 5; have f6 := f 6; have L9 : z + 2 < w7.heap.size := lt_of_cell d0))
    have hf := seven_fin (w := w) (mkT ⟨80, pn, ⟨#[]⟩, 0, 0⟩ [v, c]) (some ⟨gk, 0, none⟩, 2, 2) r9 (Below.step HB5.out b4) (by rw [HZ.out]; omega)
    rw [HKC.out] at hf
    have HF : Hid (Row7 (((((((w7.setCell ⟨z + 2, 0, none⟩ (.int .i64 80)).setCell ⟨z + 2, 1, none⟩ (.int .i64 pn)).setCell ⟨z + 2, 2, none⟩ (.string ⟨#[]⟩)).setCell ⟨z + 2, 3, none⟩ (.int .i64 2)).setCell ⟨z + 2, 4, none⟩ (.int .i64 0)).setCell ⟨z + 2, 5, none⟩ (.slice (some ⟨gk, 0, none⟩) 2 2)).setCell ⟨z + 2, 6, none⟩ (.bool kc)) (z + 2) 0 (mkT ⟨80, pn, ⟨#[]⟩, 0, 0⟩ [v, c]) (some ⟨gk, 0, none⟩, 2, 2) ∧ Below w.heap.size w (((((((w7.setCell ⟨z + 2, 0, none⟩ (.int .i64 80)).setCell ⟨z + 2, 1, none⟩ (.int .i64 pn)).setCell ⟨z + 2, 2, none⟩ (.string ⟨#[]⟩)).setCell ⟨z + 2, 3, none⟩ (.int .i64 2)).setCell ⟨z + 2, 4, none⟩ (.int .i64 0)).setCell ⟨z + 2, 5, none⟩ (.slice (some ⟨gk, 0, none⟩) 2 2)).setCell ⟨z + 2, 6, none⟩ (.bool kc))) := hf
    have HS9 : Hid (SRep (((((((w7.setCell ⟨z + 2, 0, none⟩ (.int .i64 80)).setCell ⟨z + 2, 1, none⟩ (.int .i64 pn)).setCell ⟨z + 2, 2, none⟩ (.string ⟨#[]⟩)).setCell ⟨z + 2, 3, none⟩ (.int .i64 2)).setCell ⟨z + 2, 4, none⟩ (.int .i64 0)).setCell ⟨z + 2, 5, none⟩ (.slice (some ⟨gk, 0, none⟩) 2 2)).setCell ⟨z + 2, 6, none⟩ (.bool kc)) A (mkT ⟨80, pn, ⟨#[]⟩, 0, 0⟩ [v, c]) (some ⟨gk, 0, none⟩, 2, 2)) :=
      ((HCM.out _ bK RK.out).1.under hb7).but (S := (· = z + 2)) (set7_but (But.refl (· = z + 2) _) (show z + 2 = z + 2 from rfl) _ _ _ _ _ _ _) (fun q hq => hq.1) (fun q hq _ => hq.2)
    clear hf r9 b4 hb4 hb7 hbK hbD bK bD f f0 f1 f2 f3 f4 f5 f6 d0 d1 d2 d3 d4 d5 d6
    generalize (((((((w7.setCell ⟨z + 2, 0, none⟩ (.int .i64 80)).setCell ⟨z + 2, 1, none⟩ (.int .i64 pn)).setCell ⟨z + 2, 2, none⟩ (.string ⟨#[]⟩)).setCell ⟨z + 2, 3, none⟩ (.int .i64 2)).setCell ⟨z + 2, 4, none⟩ (.int .i64 0)).setCell ⟨z + 2, 5, none⟩ (.slice (some ⟨gk, 0, none⟩) 2 2)).setCell ⟨z + 2, 6, none⟩ (.bool kc)) = WF at HF HS9 ⊢
    go_wp2
    refine bodyPost_ret (results_cell7 rfl _ (z + 2) rfl _ _ _ HF.out.1) rfl ?_
    exact ruleRes_of HVV.out rfl HS9.out HF.out.2
end Go.Proofs.YtemancdlnakkmaaGreat
