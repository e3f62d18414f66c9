import Derived.Test.YtemancdlnakkmaaGreatWBB
namespace Go.Proofs.YtemancdlnakkmaaGreat
open Go.RowKit
set_option maxRecDepth 20000 in
set_option maxHeartbeats 8000000 in
theorem rule_app (us : Int → Nat) (x0 x1 x2 x3 x4 x5 : Sl3) (n : Nd) (ks : List Tre) (s : Sl3) (A : Nat → Prop) (w : World) (hA : ∀ q, w.heap.size ≤ q → A q) (hR : SRep w A (.mk n ks) s) (hP : PlT (.mk n ks)) (hu : CntS w x3 us) (hk : n.kind = 77) :
    Calls Tryz.prog 44 #[xv x0 x1 x2 x3 x4 x5, .agg (sv (.mk n ks) s).toArray] w fun e w' => RuleRes w A (ruleT us (.mk n ks)) e w' := by
  obtain ⟨so, sl, sc⟩ := s
  obtain ⟨h1, h2, h3, h4⟩ := hR.skids
  simp only [Tre.ks] at h1 h2 h3 h4
  subst h1
  obtain ⟨kd, nm, tx, kk, pl⟩ := n
  simp only at hk
  subst hk
  obtain ⟨a, b, rfl, -, -⟩ := hP.node.code2 (.inl rfl)
  simp only [List.length_cons, List.length_nil, Nat.zero_add, Nat.reduceAdd] at hR h2 h3 h4 ⊢
  obtain ⟨g, sa, hso, -, rowa, repa⟩ := h4 0 (by simp)
  obtain ⟨g', sb, hso', -, rowb, repb⟩ := h4 1 (by simp)
  rw [hso] at hso'
  simp only [Option.some.injEq, Addr.mk.injEq, and_true] at hso'
  subst hso'
  subst hso
  simp only [List.getElem_cons_zero, List.getElem_cons_succ, Nat.zero_mul, Nat.one_mul] at rowa rowb repa repb
  have lgw : g < w.heap.size := lt_of_cell rowa.1
  have HRA : Hid (Row7 w g 0 a sa) := rowa
  have HRB : Hid (Row7 w g 7 b sb) := rowb
  have HSA : Hid (SRep w A a sa) := repa
  have HSB : Hid (SRep w A b sb) := repb
  have LGW : Hid (g < w.heap.size) := lgw
  clear rowa rowb repa repb h4 h2 h3 lgw
  obtain ⟨kb, hkb⟩ : ∃ kb, knT (.mk ⟨77, nm, tx, kk, pl⟩ [a, b]) = kb := ⟨_, rfl⟩
  have HKB : Hid (knT (.mk ⟨77, nm, tx, kk, pl⟩ [a, b]) = kb) := hkb
  have hsv : (sv (.mk ⟨77, nm, tx, kk, pl⟩ [a, b]) ((some ⟨g, 0, none⟩), 2, sc)).toArray = #[.int .i64 77, .int .i64 nm, .string tx, .int .i64 kk, .int .i64 pl, .slice (some ⟨g, 0, none⟩) 2 sc, .bool kb] := by rw [← hkb]; rfl
  have HR : Hid (SRep w A (.mk ⟨77, nm, tx, kk, pl⟩ [a, b]) ((some ⟨g, 0, none⟩), 2, sc)) := hR
  have HA : Hid (∀ q, w.heap.size ≤ q → A q) := hA
  have HP : Hid (PlT (.mk ⟨77, nm, tx, kk, pl⟩ [a, b])) := hP
  obtain ⟨V, hV⟩ : ∃ V, ruleT us (.mk ⟨77, nm, tx, kk, pl⟩ [a, b]) = V := ⟨_, rfl⟩
  have HV : Hid (ruleT us (.mk ⟨77, nm, tx, kk, pl⟩ [a, b]) = V) := hV
  have HU : Hid (CntS w x3 us) := hu
  rw [hV]
  obtain ⟨rX, rT, rZ, rN, hsz, hB0⟩ := four_blocks w #[.slice x0.1 x0.2.1 x0.2.2, .slice x1.1 x1.2.1 x1.2.2, .slice x2.1 x2.2.1 x2.2.2, .slice x3.1 x3.2.1 x3.2.2, .slice x4.1 x4.2.1 x4.2.2, .slice x5.1 x5.2.1 x5.2.2] #[.int .i64 77, .int .i64 nm, .string tx, .int .i64 kk, .int .i64 pl, .slice (some ⟨g, 0, none⟩) 2 sc, .bool kb] #[.int .i64 0, .int .i64 0, .string ⟨#[]⟩, .int .i64 0, .int .i64 0, .slice none 0 0, .bool false] #[.int .i64 77, .int .i64 nm, .string tx, .int .i64 kk, .int .i64 pl] 48 51 51 34
  have HRX : Hid _ := rX
  have HRT : Hid _ := rT
  have HRZ : Hid _ := rZ
  have HRN : Hid _ := rN
  have HSZ : Hid _ := hsz
  have HB0 : Hid _ := hB0
  clear rX rT rZ rN hsz hB0 hkb hV hR hA hP hu
  unfold xv
  rw [hsv]
  clear hsv
  go_enter Tryz.func44, Tryz.ntmps44
  go_upto_region 2 with fail
  have rX := HRX.out
  have rT := HRT.out
  have rZ := HRZ.out
  have rN := HRN.out
  have hsz := HSZ.out
  have hB0 := HB0.out
  clear HRX HRT HRZ HRN HSZ HB0
  generalize ((((w.alloc (.cells #[.slice x0.1 x0.2.1 x0.2.2, .slice x1.1 x1.2.1 x1.2.2, .slice x2.1 x2.2.1 x2.2.2, .slice x3.1 x3.2.1 x3.2.2, .slice x4.1 x4.2.1 x4.2.2, .slice x5.1 x5.2.1 x5.2.2] 48)).alloc (.cells #[.int .i64 77, .int .i64 nm, .string tx, .int .i64 kk, .int .i64 pl, .slice (some ⟨g, 0, none⟩) 2 sc, .bool kb] 51)).alloc (.cells #[.int .i64 0, .int .i64 0, .string ⟨#[]⟩, .int .i64 0, .int .i64 0, .slice none 0 0, .bool false] 51)).alloc (.cells #[.int .i64 77, .int .i64 nm, .string tx, .int .i64 kk, .int .i64 pl] 34)) = W0 at rX rT rZ rN hsz hB0 ⊢
  obtain ⟨z, hz⟩ : ∃ z, w.heap.size = z := ⟨_, rfl⟩
  have HZ : Hid (w.heap.size = z) := hz
  have e2 : z + 1 + 1 = z + 2 := rfl
  have e3 : z + 2 + 1 = z + 3 := rfl
  simp only [hz] at rX rT rZ rN hsz
  simp only [hz, e2, e3]
  clear e2 e3 hz
  have HVB : Hid (V = if a.nd.kind = 76 then (match a.ks with | [c] => mkT ⟨80, a.nd.num, ⟨#[]⟩, 0, 0⟩ [b, c] | _ => .mk ⟨77, nm, tx, kk, pl⟩ [a, b]) else .mk ⟨77, nm, tx, kk, pl⟩ [a, b]) := by
    show _ = _
    rw [← HV.out]
    rfl
  obtain ⟨a0, a1, a2, a3, a4, a5, a6⟩ := HRA.out.cells hB0 LGW.out
  simp only [Nat.zero_add] at a0 a1 a2 a3 a4 a5 a6
  have lg : g < W0.heap.size := lt_of_cell a0
  by_cases h76 : a.nd.kind = 76
  rotate_left
  · obtain ⟨ak, hak⟩ : ∃ ak, a.nd.kind = ak := ⟨_, rfl⟩
    rw [hak] at a0 h76 HVB
    have t76 : (ak == 76) = false := by simpa using h76
    have hV : V = .mk ⟨77, nm, tx, kk, pl⟩ [a, b] := by rw [HVB.out, if_neg h76]
    have t0 : W0.cell? ⟨z + 1, 0, none⟩ = some (.int .i64 77) := by rw [cell_of_row _ _ _ _ _ _ rT]; rfl
    have t1 : W0.cell? ⟨z + 1, 1, none⟩ = some (.int .i64 nm) := by rw [cell_of_row _ _ _ _ _ _ rT]; rfl
    have t2 : W0.cell? ⟨z + 1, 2, none⟩ = some (.string tx) := by rw [cell_of_row _ _ _ _ _ _ rT]; rfl
    have t3 : W0.cell? ⟨z + 1, 3, none⟩ = some (.int .i64 kk) := by rw [cell_of_row _ _ _ _ _ _ rT]; rfl
    have t4 : W0.cell? ⟨z + 1, 4, none⟩ = some (.int .i64 pl) := by rw [cell_of_row _ _ _ _ _ _ rT]; rfl
    have t5 : W0.cell? ⟨z + 1, 5, none⟩ = some (.slice (some ⟨g, 0, none⟩) 2 sc) := by rw [cell_of_row _ _ _ _ _ _ rT]; rfl
    have t6 : W0.cell? ⟨z + 1, 6, none⟩ = some (.bool kb) := by rw [cell_of_row _ _ _ _ _ _ rT]; rfl
    have LT : z + 1 < W0.heap.size := lt_of_cell t0
    have n0 : W0.cell? ⟨z + 3, 0, none⟩ = some (.int .i64 77) := by rw [cell_of_row _ _ _ _ _ _ rN]; rfl
    have n1 : W0.cell? ⟨z + 3, 1, none⟩ = some (.int .i64 nm) := by rw [cell_of_row _ _ _ _ _ _ rN]; rfl
    have n2 : W0.cell? ⟨z + 3, 2, none⟩ = some (.string tx) := by rw [cell_of_row _ _ _ _ _ _ rN]; rfl
    have LN : z + 3 < W0.heap.size := lt_of_cell n0
    have hf := seven_fin (w := w) (.mk ⟨77, nm, tx, kk, pl⟩ [a, b]) ((some ⟨g, 0, none⟩), 2, sc) rZ hB0 (by rw [HZ.out]; omega)
    simp only [Tre.nd] at hf
    rw [HKB.out] at hf
    obtain ⟨f, d0, d1, d2, d3, d4, d5, d6⟩ := zero7 rZ
    have f0 := f 0
    have f1 := f 1
    have f2 := f 2
    have f3 := f 3
    have f4 := f 4
    have f5 := f 5
    have f6 := f 6
    have LZ : z + 2 < W0.heap.size := lt_of_cell d0
    clear f
    have HF : Hid (Row7 (((((((W0.setCell ⟨z + 2, 0, none⟩ (.int .i64 77)).setCell ⟨z + 2, 1, none⟩ (.int .i64 nm)).setCell ⟨z + 2, 2, none⟩ (.string tx)).setCell ⟨z + 2, 3, none⟩ (.int .i64 kk)).setCell ⟨z + 2, 4, none⟩ (.int .i64 pl)).setCell ⟨z + 2, 5, none⟩ (.slice (some ⟨g, 0, none⟩) 2 sc)).setCell ⟨z + 2, 6, none⟩ (.bool kb)) (z + 2) 0 (.mk ⟨77, nm, tx, kk, pl⟩ [a, b]) ((some ⟨g, 0, none⟩), 2, sc) ∧ Below w.heap.size w (((((((W0.setCell ⟨z + 2, 0, none⟩ (.int .i64 77)).setCell ⟨z + 2, 1, none⟩ (.int .i64 nm)).setCell ⟨z + 2, 2, none⟩ (.string tx)).setCell ⟨z + 2, 3, none⟩ (.int .i64 kk)).setCell ⟨z + 2, 4, none⟩ (.int .i64 pl)).setCell ⟨z + 2, 5, none⟩ (.slice (some ⟨g, 0, none⟩) 2 sc)).setCell ⟨z + 2, 6, none⟩ (.bool kb))) := hf
    have HVV : Hid (V = .mk ⟨77, nm, tx, kk, pl⟩ [a, b]) := hV
    clear hV rX h76 hak a1 a2 a3 a4 a5 a6 hsz
    clear hf
    clear rT rZ rN hB0
    go_wp2
    refine bodyPost_ret (results_cell7 rfl _ (z + 2) rfl _ _ _ HF.out.1) rfl ?_
    exact ruleRes_of HVV.out rfl (HR.out.under HF.out.2) HF.out.2
  rw [if_pos h76] at HVB
  have pa := HP.out.kid a (by simp)
  obtain ⟨na, ka⟩ := a
  obtain ⟨c, rfl, -⟩ := pa.node.code1 (.inl h76)
  simp only [Tre.ks] at HVB
  obtain ⟨la, lb9, lc9, hcr⟩ := HSA.out.skids
  obtain ⟨ac, sl9, cc⟩ := sa
  simp only [Tre.ks, List.length_cons, List.length_nil, Nat.zero_add] at la lb9 lc9 hcr
  subst la
  obtain ⟨gc, sc2, hac, -, rowc, repc⟩ := hcr 0 (by omega)
  subst hac
  simp only [List.getElem_cons_zero, Nat.zero_mul] at rowc repc
  have lgc : gc < w.heap.size := lt_of_cell rowc.1
  have HRC : Hid (Row7 w gc 0 c sc2) := rowc
  have HSC : Hid (SRep w A c sc2) := repc
  have LGC : Hid (gc < w.heap.size) := lgc
  obtain ⟨an, han⟩ : ∃ an, na.num = an := ⟨_, rfl⟩
  have HVV : Hid (V = mkT ⟨80, an, ⟨#[]⟩, 0, 0⟩ [b, c]) := by show _ = _; rw [← han]; exact HVB.out
  have a1' : W0.cell? ⟨g, 1, none⟩ = some (.int .i64 an) := by rw [← han]; exact a1
  have a0' : W0.cell? ⟨g, 0, none⟩ = some (.int .i64 76) := by rw [← h76]; exact a0
  simp only [Tre.nd] at a2 a3 a4 a6
  generalize knT (.mk na [c]) = ka at a6
  generalize na.text = ax at a2
  generalize na.kids = ak3 at a3
  generalize na.place = ak4 at a4
  clear a0 a1 h76 rowc repc lgc hcr lb9 lc9 pa
  have t5 : W0.cell? ⟨z + 1, 5, none⟩ = some (.slice (some ⟨g, 0, none⟩) 2 sc) := by rw [cell_of_row _ _ _ _ _ _ rT]; rfl
  have LT : z + 1 < W0.heap.size := lt_of_cell t5
  have n0 : W0.cell? ⟨z + 3, 0, none⟩ = some (.int .i64 77) := by rw [cell_of_row _ _ _ _ _ _ rN]; rfl
  have n1 : W0.cell? ⟨z + 3, 1, none⟩ = some (.int .i64 nm) := by rw [cell_of_row _ _ _ _ _ _ rN]; rfl
  have n2 : W0.cell? ⟨z + 3, 2, none⟩ = some (.string tx) := by rw [cell_of_row _ _ _ _ _ _ rN]; rfl
  have LN : z + 3 < W0.heap.size := lt_of_cell n0
  have HRT : Hid _ := rT
  have HRZ : Hid _ := rZ
  have HSZ : Hid _ := hsz
  have HB0 : Hid _ := hB0
  clear rT rZ rN rX hsz hB0 han
  go_upto_region 25 with fail
  have rT := (Below.heap_alloc W0 (.cells #[.int .i64 76, .int .i64 an, .string ax, .int .i64 ak3, .int .i64 ak4, .slice (some ⟨gc, 0, none⟩) 1 cc, .bool ka] 51) (z + 1) LT).trans HRT.out
  have rZ := (Below.heap_alloc W0 (.cells #[.int .i64 76, .int .i64 an, .string ax, .int .i64 ak3, .int .i64 ak4, .slice (some ⟨gc, 0, none⟩) 1 cc, .bool ka] 51) (z + 2) (by have := HSZ.out; omega)).trans HRZ.out
  have rL := heap_alloc_new W0 (.cells #[.int .i64 76, .int .i64 an, .string ax, .int .i64 ak3, .int .i64 ak4, .slice (some ⟨gc, 0, none⟩) 1 cc, .bool ka] 51)
  have hB1 := HB0.out.alloc HB0.out.size (.cells #[.int .i64 76, .int .i64 an, .string ax, .int .i64 ak3, .int .i64 ak4, .slice (some ⟨gc, 0, none⟩) 1 cc, .bool ka] 51)
  have hs1 : (W0.alloc (.cells #[.int .i64 76, .int .i64 an, .string ax, .int .i64 ak3, .int .i64 ak4, .slice (some ⟨gc, 0, none⟩) 1 cc, .bool ka] 51)).heap.size = W0.heap.size + 1 := by simp
  generalize W0.alloc (.cells #[.int .i64 76, .int .i64 an, .string ax, .int .i64 ak3, .int .i64 ak4, .slice (some ⟨gc, 0, none⟩) 1 cc, .bool ka] 51) = W1 at rT rZ rL hB1 hs1 ⊢
  have hz0 := HSZ.out
  generalize W0.heap.size = z1 at rL hs1 hz0 ⊢
  clear HRT HRZ HB0 HSZ a0' a1' a2 a3 a4 a5 a6 t5 n0 n1 n2 LT LN lg
  have hzw := HZ.out
  have HCE : Hid (∀ W, But (· = z + 2) W1 W → W.cell? ⟨z1, 1, none⟩ = some (.int .i64 an) ∧ W.cell? ⟨z1, 5, none⟩ = some (.slice (some ⟨gc, 0, none⟩) 1 cc) ∧ W.cell? ⟨z + 1, 5, none⟩ = some (.slice (some ⟨g, 0, none⟩) 2 sc) ∧ W.cell? ⟨g, 7, none⟩ = some (.int .i64 b.nd.kind) ∧ W.cell? ⟨g, 8, none⟩ = some (.int .i64 b.nd.num) ∧ W.cell? ⟨g, 9, none⟩ = some (.string b.nd.text) ∧ W.cell? ⟨g, 10, none⟩ = some (.int .i64 b.nd.kids) ∧ W.cell? ⟨g, 11, none⟩ = some (.int .i64 b.nd.place) ∧ W.cell? ⟨g, 12, none⟩ = some (.slice sb.1 sb.2.1 sb.2.2) ∧ W.cell? ⟨g, 13, none⟩ = some (.bool (knT b)) ∧ W.cell? ⟨gc, 0, none⟩ = some (.int .i64 c.nd.kind) ∧ W.cell? ⟨gc, 1, none⟩ = some (.int .i64 c.nd.num) ∧ W.cell? ⟨gc, 2, none⟩ = some (.string c.nd.text) ∧ W.cell? ⟨gc, 3, none⟩ = some (.int .i64 c.nd.kids) ∧ W.cell? ⟨gc, 4, none⟩ = some (.int .i64 c.nd.place) ∧ W.cell? ⟨gc, 5, none⟩ = some (.slice sc2.1 sc2.2.1 sc2.2.2) ∧ W.cell? ⟨gc, 6, none⟩ = some (.bool (knT c))) := by
    intro W hW
    have q1 := (hW.block (z + 1) (by omega) (by omega)).trans rT
    have qL := (hW.block z1 (by omega) (by omega)).trans rL
    have hbw := (But.ofBelow (S := (· = z + 2)) hB1).trans hW
    have lgw := LGW.out
    have lgc := LGC.out
    obtain ⟨b0, b1, b2, b3, b4, b5, b6⟩ := HRB.out.but hbw (by omega)
    obtain ⟨c0, c1, c2, c3, c4, c5, c6⟩ := HRC.out.but hbw (by omega)
    simp only [Nat.zero_add, Nat.reduceAdd] at b0 b1 b2 b3 b4 b5 b6 c0 c1 c2 c3 c4 c5 c6
    refine ⟨?_, ?_, ?_, b0, b1, b2, b3, b4, b5, b6, c0, c1, c2, c3, c4, c5, c6⟩
    · rw [cell_of_row _ _ _ _ _ _ qL]; rfl
    · rw [cell_of_row _ _ _ _ _ _ qL]; rfl
    · rw [cell_of_row _ _ _ _ _ _ q1]; rfl
  obtain ⟨kc, hkc⟩ : ∃ kc, knT (mkT ⟨80, an, ⟨#[]⟩, 0, 0⟩ [b, c]) = kc := ⟨_, rfl⟩
  have HKC : Hid _ := hkc
  have hsv : ∀ gk : Nat, (sv (mkT ⟨80, an, ⟨#[]⟩, 0, 0⟩ [b, c]) (some ⟨gk, 0, none⟩, 2, 2)).toArray = #[.int .i64 80, .int .i64 an, .string ⟨#[]⟩, .int .i64 2, .int .i64 0, .slice (some ⟨gk, 0, none⟩) 2 2, .bool kc] := by
    intro gk
    rw [← hkc]
    rfl
  have HSV : Hid _ := hsv
  clear hkc hsv
  obtain ⟨gk, hgk⟩ : ∃ gk, W1.heap.size = gk := ⟨_, rfl⟩
  have HSB1 := HSB.out.but (A' := fun q => q ≠ z + 2 ∧ A q) (But.ofBelow (S := fun _ => False) hB1) (fun _ _ h => h) (fun q h1 h2 => ⟨by omega, h1⟩)
  have HSC1 := HSC.out.but (A' := fun q => q ≠ z + 2 ∧ A q) (But.ofBelow (S := fun _ => False) hB1) (fun _ _ h => h) (fun q h1 h2 => ⟨by omega, h1⟩)
  have HCC : Hid (∀ W, Below W1.heap.size W1 W → W.heap[gk]? = some (.cells #[.int .i64 b.nd.kind, .int .i64 b.nd.num, .string b.nd.text, .int .i64 b.nd.kids, .int .i64 b.nd.place, .slice sb.1 sb.2.1 sb.2.2, .bool (knT b), .int .i64 c.nd.kind, .int .i64 c.nd.num, .string c.nd.text, .int .i64 c.nd.kids, .int .i64 c.nd.place, .slice sc2.1 sc2.2.1 sc2.2.2, .bool (knT c)] 51 (0, 0)) → SRep W (fun q => q ≠ z + 2 ∧ A q) (mkT ⟨80, an, ⟨#[]⟩, 0, 0⟩ [b, c]) (some ⟨gk, 0, none⟩, 2, 2) ∧ Calls Tryz.prog 45 #[.agg #[.int .i64 80, .int .i64 an, .string ⟨#[]⟩, .int .i64 0, .int .i64 0], .slice (some ⟨gk, 0, none⟩) 2 2] W fun e w' => e = .returned (.agg #[.int .i64 80, .int .i64 an, .string ⟨#[]⟩, .int .i64 2, .int .i64 0, .slice (some ⟨gk, 0, none⟩) 2 2, .bool kc]) ∧ Below W.heap.size W w') := by
    intro W hW hk
    have hS := skids2 (A := fun q => q ≠ z + 2 ∧ A q) hk ⟨by omega, HA.out gk (by omega)⟩ (HSB1.under hW) (HSC1.under hW)
    have h9 := make_any ⟨80, an, ⟨#[]⟩, 0, 0⟩ [b, c] (some ⟨gk, 0, none⟩, 2, 2) _ W hS (fun h => by simp at h)
    rw [HSV.out] at h9
    exact ⟨hS.rep _, h9⟩
  have bD := (Below.refl W1.heap.size W1).drew
  have bK := ((Below.refl W1.heap.size W1).alloc (Nat.le_refl _) (.cells #[.int .i64 b.nd.kind, .int .i64 b.nd.num, .string b.nd.text, .int .i64 b.nd.kids, .int .i64 b.nd.place, .slice sb.1 sb.2.1 sb.2.2, .bool (knT b), .int .i64 c.nd.kind, .int .i64 c.nd.num, .string c.nd.text, .int .i64 c.nd.kids, .int .i64 c.nd.place, .slice sc2.1 sc2.2.1 sc2.2.2, .bool (knT c)] 51)).drew
  have hbD := But.ofBelow (S := (· = z + 2)) bD
  have hbK := But.ofBelow (S := (· = z + 2)) bK
  have RK : Hid ((W1.alloc (.cells #[.int .i64 b.nd.kind, .int .i64 b.nd.num, .string b.nd.text, .int .i64 b.nd.kids, .int .i64 b.nd.place, .slice sb.1 sb.2.1 sb.2.2, .bool (knT b), .int .i64 c.nd.kind, .int .i64 c.nd.num, .string c.nd.text, .int .i64 c.nd.kids, .int .i64 c.nd.place, .slice sc2.1 sc2.2.1 sc2.2.2, .bool (knT c)] 51)).drew.heap[gk]? = some (.cells #[.int .i64 b.nd.kind, .int .i64 b.nd.num, .string b.nd.text, .int .i64 b.nd.kids, .int .i64 b.nd.place, .slice sb.1 sb.2.1 sb.2.2, .bool (knT b), .int .i64 c.nd.kind, .int .i64 c.nd.num, .string c.nd.text, .int .i64 c.nd.kids, .int .i64 c.nd.place, .slice sc2.1 sc2.2.1 sc2.2.2, .bool (knT c)] 51 (0, 0))) := by rw [← hgk]; exact heap_alloc_new _ _
  have l1 : z1 < W1.heap.size := by omega
  have l2 : z + 1 < W1.heap.size := by omega
  have l4 : g < W1.heap.size := by have := LGW.out; omega
  have l5 : gc < W1.heap.size := by have := LGC.out; omega
  have HRZ : Hid _ := rZ
  have HB1 : Hid _ := hB1
  have HGK : Hid _ := hgk
  have HS1 : Hid (z + 2 < W1.heap.size) := by show _ < _; omega
  have HZ1 : Hid (z < gk) := by show _ < _; omega
  clear rT rZ rL hB1 hs1 hz0 hzw HSB1 HSC1 hgk
  go_region_held3 (fun w' => w'.cell? ⟨z1, 1, none⟩ = some (.int .i64 an) ∧ w'.cell? ⟨z1, 5, none⟩ = some (.slice (some ⟨gc, 0, none⟩) 1 cc) ∧ w'.cell? ⟨z + 1, 5, none⟩ = some (.slice (some ⟨g, 0, none⟩) 2 sc) ∧ w'.cell? ⟨g, 7, none⟩ = some (.int .i64 b.nd.kind) ∧ w'.cell? ⟨g, 8, none⟩ = some (.int .i64 b.nd.num) ∧ w'.cell? ⟨g, 9, none⟩ = some (.string b.nd.text) ∧ w'.cell? ⟨g, 10, none⟩ = some (.int .i64 b.nd.kids) ∧ w'.cell? ⟨g, 11, none⟩ = some (.int .i64 b.nd.place) ∧ w'.cell? ⟨g, 12, none⟩ = some (.slice sb.1 sb.2.1 sb.2.2) ∧ w'.cell? ⟨g, 13, none⟩ = some (.bool (knT b)) ∧ w'.cell? ⟨gc, 0, none⟩ = some (.int .i64 c.nd.kind) ∧ w'.cell? ⟨gc, 1, none⟩ = some (.int .i64 c.nd.num) ∧ w'.cell? ⟨gc, 2, none⟩ = some (.string c.nd.text) ∧ w'.cell? ⟨gc, 3, none⟩ = some (.int .i64 c.nd.kids) ∧ w'.cell? ⟨gc, 4, none⟩ = some (.int .i64 c.nd.place) ∧ w'.cell? ⟨gc, 5, none⟩ = some (.slice sc2.1 sc2.2.1 sc2.2.2) ∧ w'.cell? ⟨gc, 6, none⟩ = some (.bool (knT c))) (first | with_reducible exact HCE.out _ hbD | with_reducible exact HCE.out _ hbK | with_reducible exact HCE.out _ hb4 | with_reducible exact HCE.out _ (set7_but hb4 rfl _ _ _ _ _ _ _) | go_keep) ((go_at_call 45; rw [HGK.out]; refine (HCC.out _ bK RK.out).2.mono ?_; rintro e w3 ⟨rfl, hb3⟩; have b4 := Below.step bK hb3; have hb4 := But.ofBelow (S := (· = z + 2)) b4; have r9 := (b4.block (z + 2) HS1.out).trans HRZ.out; obtain ⟨f, d0, d1, d2, d3, d4, d5, d6⟩ := zero7 r9; have f0 := f 0; have f1 := f 1; have f2 := f 2; have f3 := f 3; have f4 := f 4; have f5 := f 5; have f6 := f 6; have L9 : z + 2 < w3.heap.size := lt_of_cell d0))
  have hf := seven_fin (w := w) (mkT ⟨80, an, ⟨#[]⟩, 0, 0⟩ [b, c]) (some ⟨gk, 0, none⟩, 2, 2) r9 (Below.step HB1.out b4) (by rw [HZ.out]; omega)
  rw [HKC.out] at hf
  have HF : Hid (Row7 (((((((w3.setCell ⟨z + 2, 0, none⟩ (.int .i64 80)).setCell ⟨z + 2, 1, none⟩ (.int .i64 an)).setCell ⟨z + 2, 2, none⟩ (.string ⟨#[]⟩)).setCell ⟨z + 2, 3, none⟩ (.int .i64 2)).setCell ⟨z + 2, 4, none⟩ (.int .i64 0)).setCell ⟨z + 2, 5, none⟩ (.slice (some ⟨gk, 0, none⟩) 2 2)).setCell ⟨z + 2, 6, none⟩ (.bool kc)) (z + 2) 0 (mkT ⟨80, an, ⟨#[]⟩, 0, 0⟩ [b, c]) (some ⟨gk, 0, none⟩, 2, 2) ∧ Below w.heap.size w (((((((w3.setCell ⟨z + 2, 0, none⟩ (.int .i64 80)).setCell ⟨z + 2, 1, none⟩ (.int .i64 an)).setCell ⟨z + 2, 2, none⟩ (.string ⟨#[]⟩)).setCell ⟨z + 2, 3, none⟩ (.int .i64 2)).setCell ⟨z + 2, 4, none⟩ (.int .i64 0)).setCell ⟨z + 2, 5, none⟩ (.slice (some ⟨gk, 0, none⟩) 2 2)).setCell ⟨z + 2, 6, none⟩ (.bool kc))) := hf
  have HS9 : Hid (SRep (((((((w3.setCell ⟨z + 2, 0, none⟩ (.int .i64 80)).setCell ⟨z + 2, 1, none⟩ (.int .i64 an)).setCell ⟨z + 2, 2, none⟩ (.string ⟨#[]⟩)).setCell ⟨z + 2, 3, none⟩ (.int .i64 2)).setCell ⟨z + 2, 4, none⟩ (.int .i64 0)).setCell ⟨z + 2, 5, none⟩ (.slice (some ⟨gk, 0, none⟩) 2 2)).setCell ⟨z + 2, 6, none⟩ (.bool kc)) A (mkT ⟨80, an, ⟨#[]⟩, 0, 0⟩ [b, c]) (some ⟨gk, 0, none⟩, 2, 2)) :=
    ((HCC.out _ bK RK.out).1.under hb3).but (S := (· = z + 2)) (set7_but (But.refl (· = z + 2) _) (show z + 2 = z + 2 from rfl) _ _ _ _ _ _ _) (fun q hq => hq.1) (fun q hq _ => hq.2)
  clear hf r9 b4 hb4 hb3 hbK hbD bK bD f f0 f1 f2 f3 f4 f5 f6 d0 d1 d2 d3 d4 d5 d6
  generalize (((((((w3.setCell ⟨z + 2, 0, none⟩ (.int .i64 80)).setCell ⟨z + 2, 1, none⟩ (.int .i64 an)).setCell ⟨z + 2, 2, none⟩ (.string ⟨#[]⟩)).setCell ⟨z + 2, 3, none⟩ (.int .i64 2)).setCell ⟨z + 2, 4, none⟩ (.int .i64 0)).setCell ⟨z + 2, 5, none⟩ (.slice (some ⟨gk, 0, none⟩) 2 2)).setCell ⟨z + 2, 6, none⟩ (.bool kc)) = WF at HF HS9 ⊢
  go_wp2
  refine bodyPost_ret (results_cell7 rfl _ (z + 2) rfl _ _ _ HF.out.1) rfl ?_
  exact ruleRes_of HVV.out rfl HS9.out HF.out.2
end Go.Proofs.YtemancdlnakkmaaGreat
