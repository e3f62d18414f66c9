import Derived.Test.YtemancdlnakkmaaGreatWBW
import Derived.Test.YtemancdlnakkmaaGreatWBJ
import Derived.Test.YtemancdlnakkmaaGreatWAW
import Derived.Test.YtemancdlnakkmaaGreatPDem
import Derived.Test.YtemancdlnakkmaaGreatWBH
namespace Go.Proofs.YtemancdlnakkmaaGreat
open Go.RowKit Go.Maps
theorem make_ptrs (n : Nat) (h : n ≤ 1048576) (w : World) :
    (Instr.makeSlice 84 (.int .i64 (n : Int)) (.int .i64 (n : Int))).run Tryz.prog w = .ok (.slice (some ⟨w.heap.size, 0, none⟩) n n) (w.alloc (.cells (madeCells #[.pointer none] n) 65)) :=
  run_make_row' (P := Tryz.prog) 84 65 (.pointer none) 8 Tryz.underlying84 Tryz.infoPC rfl .i64 .i64 n (by omega) (by omega) w
theorem Tryz.way0 (W : World) : (Instr.index 94 (.agg #[.func (.func 86) #[] #[], .func (.func 87) #[] #[], .func (.func 88) #[] #[], .func (.func 89) #[] #[]]) (.int .i64 0)).run Tryz.prog W = .ok (.func (.func 86) #[] #[]) W := by kernel_rfl
theorem Tryz.way1 (W : World) : (Instr.index 94 (.agg #[.func (.func 86) #[] #[], .func (.func 87) #[] #[], .func (.func 88) #[] #[], .func (.func 89) #[] #[]]) (.int .i64 1)).run Tryz.prog W = .ok (.func (.func 87) #[] #[]) W := by kernel_rfl
theorem Tryz.way2 (W : World) : (Instr.index 94 (.agg #[.func (.func 86) #[] #[], .func (.func 87) #[] #[], .func (.func 88) #[] #[], .func (.func 89) #[] #[]]) (.int .i64 2)).run Tryz.prog W = .ok (.func (.func 88) #[] #[]) W := by kernel_rfl
theorem Tryz.way3 (W : World) : (Instr.index 94 (.agg #[.func (.func 86) #[] #[], .func (.func 87) #[] #[], .func (.func 88) #[] #[], .func (.func 89) #[] #[]]) (.int .i64 3)).run Tryz.prog W = .ok (.func (.func 89) #[] #[]) W := by kernel_rfl
set_option maxRecDepth 20000 in
set_option maxHeartbeats 4000000 in
theorem write_rest (L : LesAt) (bd us : Int → Nat) (n : Nd) (ks : List Tre) (b : Nat) (A : Nat → Prop) (w : World) (m : Nat) (P : Int → Option Tre) (ih : ∀ k ∈ ks, WrC L bd us k) (hP : PlT (.mk n ks)) (hG : PGood P) (h : LesS L bd us w A m P) (hR : PRep w A (.mk n ks) b) (hA : ∀ q, w.heap.size ≤ q → A q) (hs : m + szT (.mk n ks) ≤ 1000000000)
    (hnv : n.kind = 70 → P n.num = none) (hnl : ∀ x y, n.kind = 80 → ks = [x, y] → singleT bd n.num = true → atomT bd x.nd = false) :
    Calls Tryz.prog 35 #[.pointer (some ⟨L.lb, 0, none⟩), .pointer (some ⟨b, 0, none⟩)] w fun e w' => WrR L bd us w A m (szT (.mk n ks)) (ruleT us (mkT n (seqF (ks.map (lessT bd us)) P).1), (seqF (ks.map (lessT bd us)) P).2) e w' := by
  have hN := hP.node
  obtain ⟨hbA, so, sc, hblk, hK⟩ := hR.opened
  obtain ⟨c0, c1, c2, c3, c4, c5⟩ := nine hblk
  have lb : b < w.heap.size := lt_of_cell c0
  have cl := h.c2
  have ll : L.lb < w.heap.size := lt_of_cell cl
  have HK : Hid (PKids w A (so, ks.length, sc) ks) := hK
  have HLES : Hid (LesS L bd us w A m P) := h
  have HPL : Hid (PlT (.mk n ks)) := hP
  obtain ⟨U, hlk, hU, -⟩ := h.lookD hN.num
  have HLK : Hid (n.kind = 70 → U = none) := fun h7 => by
    rw [hnv h7] at hU
    cases U with
    | none => rfl
    | some u => simp at hU
  have HNL : Hid (∀ x y, n.kind = 80 → ks = [x, y] → singleT bd n.num = true → atomT bd x.nd = false) := hnl
  obtain ⟨q, hq⟩ : ∃ q, ks.length = q := ⟨_, rfl⟩
  have HQ : Hid (ks.length = q) := hq
  have hq6 : q ≤ 60000 := by rw [← hq]; exact hK.2.2.1
  have HGD : Hid (PGood P) := hG
  have HIH : Hid (∀ k ∈ ks, WrC L bd us k) := ih
  have HHA : Hid (∀ q, w.heap.size ≤ q → A q) := hA
  have HMS : Hid (m + szT (.mk n ks) ≤ 1000000000) := hs
  rw [hq] at c5
  obtain ⟨kd, nm, tx, kk, pl⟩ := n
  simp only at c0 c1 c2 c3 c4 c5 hlk HLK HNL
  have HC0 : Hid (∀ W, Below w.heap.size w W → W.cell? ⟨b, 0, none⟩ = some (.int .i64 kd) ∧ W.cell? ⟨b, 1, none⟩ = some (.int .i64 nm) ∧ W.cell? ⟨b, 5, none⟩ = some (.slice so q sc)) := fun W hW => ⟨bcL hW lb c0, bcL hW lb c1, bcL hW lb c5⟩
  have HC5 : Hid (w.cell? ⟨b, 0, none⟩ = some (.int .i64 kd) ∧ w.cell? ⟨b, 1, none⟩ = some (.int .i64 nm) ∧ w.cell? ⟨b, 2, none⟩ = some (.string tx) ∧ w.cell? ⟨b, 3, none⟩ = some (.int .i64 kk) ∧ w.cell? ⟨b, 4, none⟩ = some (.int .i64 pl)) := ⟨c0, c1, c2, c3, c4⟩
  clear hP hR h hblk hK hN ih hG hA hs hnv hnl hU hq
  go_enter Tryz.func35, Tryz.ntmps35
  go_upto_region 1 with fail
  go_cut [12] from 13 to 31 (fun v12 wx => v12 = .bool false ∧ Below w.heap.size w wx)
  case first =>
    by_cases h7 : kd = 70
    · have hU0 := HLK.out h7
      subst h7
      subst hU0
      simp only [ptrO] at hlk
      go_quiet (fail)
      have b8 := quietB w nq
      clear c0 c1 c2 c3 c4 c5 hlk
      go_wp2_with fail
      go_meet
      case rel => exact ⟨rfl, b8⟩
    · have t7 : (kd == 70) = false := by simpa using h7
      clear hlk h7
      go_quiet (fail)
      have b8 := quietB w nq
      clear c0 c1 c2 c3 c4 c5
      go_wp2_with fail
      go_meet
      case rel => exact ⟨rfl, b8⟩
  case rest =>
  obtain ⟨rfl, hw1⟩ := hcut
  clear hlk c0 c1 c2 c3 c4 c5 cl
  obtain ⟨q0, q1, q5⟩ := HC0.out wc hw1
  have k1 := lt_of_cell q0
  go_upto_region 3 with fail
  go_cut [42] from 43 to 67 (fun v42 wx => v42 = .bool false ∧ Below w.heap.size w wx)
  case first =>
    by_cases h8 : kd = 80
    rotate_left
    · have t8 : (kd == 80) = false := by simpa using h8
      clear h8
      go_wp2_with fail
      go_meet
      case rel => exact ⟨rfl, hw1⟩
    · obtain ⟨x, y, hks, -, -⟩ := HPL.out.node.code2 (.inr (.inl h8))
      have h1 : 1 ≤ nm := (HPL.out.node.numb (.inr (.inr (.inl h8)))).1
      have hsi := singleP_any L bd us wc A m P (HLES.out.under hw1 (fun q hq _ => hq) HLES.out.out) nm HPL.out.node.num h1
      have hna := HNL.out x y h8 hks
      subst hks
      obtain ⟨-, -, -, bs, h4⟩ := HK.out
      obtain ⟨g, hso, hgA, e0, hr0⟩ := h4 0 (by simp)
      simp only at hso
      subst hso
      simp only [List.getElem_cons_zero] at hr0
      generalize bs 0 = b0 at e0 hr0
      obtain ⟨nx, kx⟩ := x
      have px := HPL.out.kid (.mk nx kx) (by simp)
      have hq2 : q = 2 := HQ.out.symm
      subst hq2
      have lg : g < w.heap.size := lt_of_cell e0
      have HCE : Hid (∀ W, Below w.heap.size w W → W.cell? ⟨g, 0, none⟩ = some (.pointer (some ⟨b0, 0, none⟩)) ∧ Calls Tryz.prog 53 #[.pointer (some ⟨L.lb, 0, none⟩), .pointer (some ⟨b0, 0, none⟩)] W fun e w' => e = .returned (.bool (atomT bd nx)) ∧ Below W.heap.size W w') := fun W hW => ⟨bcL hW lg e0, atomP_any L bd us W A m P (HLES.out.under hW (fun q hq _ => hq) HLES.out.out) nx kx b0 px (hr0.under hW)⟩
      subst h8
      clear h4 hr0 e0 px h1
      go_wp2_with fail
      refine hsi.mono ?_
      rintro e w2 ⟨rfl, hb2⟩
      have b9 := Below.step hw1 hb2
      clear hsi q0 q1 q5
      cases hsg : singleT bd nm
      · go_wp2_with fail
        go_meet
        case rel => exact ⟨rfl, b9⟩
      · have hat := hna hsg
        simp only [Tre.nd] at hat
        obtain ⟨q0, q1, q5⟩ := HC0.out w2 b9
        obtain ⟨qg, hcl⟩ := HCE.out w2 b9
        rw [hat] at hcl
        have k4 := lt_of_cell q0
        have k5 := lt_of_cell qg
        clear hna HCE
        go_wp2_with fail
        refine hcl.mono ?_
        rintro e w3 ⟨rfl, hb3⟩
        have b10 := Below.step b9 hb3
        clear hcl q0 q1 q5 qg
        go_wp2_with fail
        go_meet
        case rel => exact ⟨rfl, b10⟩
  case rest =>
  obtain ⟨rfl, hw2⟩ := hcut
  clear q0 q1 q5 k1 hw1
  obtain ⟨-, -, q5⟩ := HC0.out wc hw2
  have k1 := lt_of_cell q5
  have hmk := make_ptrs q (by omega) wc
  have bA := (Below.refl wc.heap.size wc).alloc (Nat.le_refl _) (.cells (madeCells #[.pointer none] q) 65)
  have hVM := Vals.made (w := wc) (e := 65) (n := q) (z := .pointer none) (Nat.le_refl _) (by omega)
  have lW : wc.heap.size < (wc.alloc (.cells (madeCells #[.pointer none] q) 65)).heap.size := by rw [World.size_alloc]; omega
  have bW := Below.step hw2 bA
  obtain ⟨-, -, w5⟩ := HC0.out _ bW
  have lb2 := lt_of_cell w5
  have hGw : w.heap.size ≤ wc.heap.size := hw2.size
  have hl := HLES.out
  have l0 : L.lb < w.heap.size := lt_of_cell hl.c0
  have l1 : L.m1 < w.heap.size := hl.mb.lt
  have l2 : L.m2 < w.heap.size := hl.mu.lt
  have l3 : L.m3 < w.heap.size := by obtain ⟨D, U, ho, -⟩ := hl.ma; exact ho.lt
  have HST : Hid (WrL L bd us ks P w A wc.heap.size q m (wc.alloc (.cells (madeCells #[.pointer none] q) 65)) 0 (fun _ => 0) m) := by
    refine ⟨by rw [fillV_zero]; exact hVM, by simp [seqF], fun i hi => by simp [seqF] at hi, ?_, by simp, But.ofBelow bW, lW⟩
    have e9 : (seqF ((ks.take 0).map (lessT bd us)) P).2 = P := by simp [seqF]
    rw [e9]
    exact hl.under bW (fun p hp hlt => ⟨hp, by omega⟩) (fun p hp => hl.out p hp.1)
  have hLG : L.lb ≠ wc.heap.size ∧ L.m1 ≠ wc.heap.size ∧ L.m2 ≠ wc.heap.size ∧ L.m3 ≠ wc.heap.size := ⟨by omega, by omega, by omega, by omega⟩
  obtain ⟨-, -, -, bs, h4⟩ := HK.out
  have HCK : Hid (∀ j (hj : j < q), ∃ gp, so = some ⟨gp, 0, none⟩ ∧ ∀ wr bf mj, WrL L bd us ks P w A wc.heap.size q m wr j bf mj → wr.cell? ⟨gp, j, none⟩ = some (.pointer (some ⟨bs j, 0, none⟩)) ∧ Calls Tryz.prog 35 #[.pointer (some ⟨L.lb, 0, none⟩), .pointer (some ⟨bs j, 0, none⟩)] wr fun e w3 => ∃ b3 m3, e = .returned (.pointer (some ⟨b3, 0, none⟩)) ∧ Vals w3 65 wc.heap.size wc.heap.size q (fillV (fun i => .pointer (some ⟨bf i, 0, none⟩)) (.pointer none) j q) ∧ WrL L bd us ks P w A wc.heap.size q m (w3.setCell ⟨wc.heap.size, j, none⟩ (.pointer (some ⟨b3, 0, none⟩))) (j + 1) (fun i => if i = j then b3 else bf i) m3) := by
    intro j hj
    have hj9 : j < ks.length := by rw [HQ.out]; exact hj
    obtain ⟨gp, e, hgA, hc, hr⟩ := h4 j hj9
    refine ⟨gp, e, fun wr bf mj hW => ?_⟩
    have lgp : gp < w.heap.size := lt_of_cell hc
    refine ⟨hW.frame.cellL hc (by rintro (e9 | e9); exact hl.out gp hgA e9; omega), ?_⟩
    have hr2 : PRep wr (fun p => A p ∧ p ≠ wc.heap.size) ks[j] (bs j) := (hr.wide (A' := fun p => A p ∧ p < w.heap.size) (fun p hp hlt => ⟨hp, hlt⟩)).but hW.frame (fun p hp h9 => by rcases h9 with e9 | e9; exact hl.out p hp.1 e9; have := hp.2; omega) (fun p hp _ => ⟨hp.1, by have := hp.2; omega⟩)
    have hpg : PGood (seqF ((ks.take j).map (lessT bd us)) P).2 := (seq_kept (lessT bd us) (ks.take j) P (fun k' hk' P' hP' => less_kept bd us k' P' (HPL.out.kid k' (List.mem_of_mem_take hk')) hP') HGD.out).2.2.2.2
    have hsum : ((ks.take j).map szT).sum + szT ks[j] ≤ (ks.map szT).sum := by
      have e8 := take_sum ks (j + 1)
      rw [← List.take_append_getElem hj9, List.map_append, List.sum_append] at e8
      exact e8
    have hsz := szT_eq ⟨kd, nm, tx, kk, pl⟩ ks
    have hms := HMS.out
    have hle := hW.le
    have hlt := hW.lt
    refine (HIH.out ks[j] (List.getElem_mem hj9) (bs j) _ wr mj _ (HPL.out.kid _ (List.getElem_mem hj9)) hpg hW.les hr2 (fun p hp => ⟨HHA.out p (by omega), by omega⟩) (by omega)).mono ?_
    rintro e w3 ⟨b3, m3, rfl, hr3, hL3, hm3, hb3⟩
    exact ⟨b3, m3, rfl, hW.row.but hb3 (fun e9 => hLG.2.2.2 e9.symm), hW.step HQ.out hj hLG hr3 hL3 hm3 hb3⟩
  clear h4 hl bA hVM
  have HLT : Hid (L.m3 < w.heap.size ∧ w.heap.size ≤ wc.heap.size) := ⟨l3, hGw⟩
  clear l0 l1 l2 l3 hLG
  go_wp2
  clear lW lb2 hmk bW w5 q5 k1
  generalize hG9 : wc.heap.size = G at *
  generalize wc.alloc (.cells (madeCells #[.pointer none] q) 65) = W1 at *
  go_loopw [82] (fun i wr => ∃ (j mj : Nat) (bf : Nat → Nat), j ≤ q ∧ i = .int .i64 j ∧ WrL L bd us ks P w A G q m wr j bf mj) (fun i _ => q - (intOf i).toNat)
  case atStart => exact ⟨0, m, fun _ => 0, Nat.zero_le _, rfl, HST.out⟩
  case round =>
    obtain ⟨j, mj, bf, hj, rfl, hW⟩ := hrel
    by_cases hlt : j < q
    · obtain ⟨gp, rfl, hc⟩ := HCK.out j hlt
      obtain ⟨hc1, hcl⟩ := hc wr bf mj hW
      have lgp := lt_of_cell hc1
      have lG := hW.lt
      clear hc hW
      go_wp2_with fail
      refine hcl.mono ?_
      rintro e w3 ⟨b3, m3, rfl, hV3, hW3⟩
      have hfz := hV3.frozen j
      have hcc : w3.cell? ⟨G, j, none⟩ = some (.pointer none) := by rw [hV3.at j hlt, fillV_at _ _ _ _ _ hlt, if_neg (by omega)]
      have lG3 := lt_of_cell hcc
      have HW3 : Hid _ := hW3
      clear hcl hc1 hV3 hW3
      go_wp2
      go_roundw
      case rel => exact ⟨j + 1, m3, _, by omega, by go_num, HW3.out⟩
      case measure => simp [intOf]; omega
    · obtain rfl : j = q := by omega
      clear HCK HST
      have ek : ks.take j = ks := List.take_of_length_le (by rw [HQ.out]; exact Nat.le_refl _)
      have hl := HLES.out
      obtain ⟨hl3, hGw⟩ := HLT.out
      have hlen := hW.len
      have hkids := hW.kids
      have hles := hW.les
      have hle := hW.le
      rw [ek] at hlen hkids hles hle
      obtain ⟨s1, s2, s3, s4, -⟩ := seq_kept (lessT bd us) ks P (fun k' hk' P' hP' => less_kept bd us k' P' (HPL.out.kid k' hk') hP') HGD.out
      obtain ⟨Q, hQ⟩ : ∃ Q, seqF (ks.map (lessT bd us)) P = Q := ⟨_, rfl⟩
      rw [hQ] at hlen hkids hles s1 s2 s3 s4
      have hPM := HPL.out.anew s1 s2 s3
      have hmkT : mkT ⟨kd, nm, tx, kk, pl⟩ Q.1 = .mk ⟨kd, nm, tx, kk, pl⟩ Q.1 := mkT_same HPL.out.node.kids s1
      have hszM : szT (.mk ⟨kd, nm, tx, kk, pl⟩ Q.1) ≤ szT (.mk ⟨kd, nm, tx, kk, pl⟩ ks) := by
        unfold szT
        rw [len_one, len_one]
        omega
      have hAw : ∀ p, wr.heap.size ≤ p → A p := fun p hp => HHA.out p (by have := hW.lt; omega)
      have hAG : A G := HHA.out G hGw
      have hPK : PKids wr A (some ⟨G, 0, none⟩, j, j) Q.1 := by
        refine ⟨hlen.symm, by rw [hlen]; exact Nat.le_refl _, by rw [hlen]; omega, bf, fun i hi => ⟨G, rfl, hAG, ?_, (hkids i hi).wide (fun p hp _ => hp.1)⟩⟩
        rw [hW.row.at i (by omega), fillV_at _ _ _ _ _ (by omega), if_pos (by omega)]
      have hnp := newP_any ⟨kd, nm, tx, kk, pl⟩ Q.1 (some ⟨G, 0, none⟩, j, j) A wr hPK hAw
      rw [hmkT] at hnp
      simp only at hnp
      have hfr : But (fun p => p = L.m3) w wr := ⟨hW.frame.os, hW.frame.tape, hW.frame.output, hW.frame.size, fun i hi hn => hW.frame.block i hi (by rintro (e | e); exact hn e; omega)⟩
      have hlesA : LesS L bd us wr A mj Q.2 := hles.under (Below.refl _ _) (fun p hp _ => hp.1) hl.out
      have abm : ¬ b = L.m3 := hl.out b hbA
      obtain ⟨d0, d1, d2, d3, d4⟩ := HC5.out
      have d0 := hfr.cellL d0 abm
      have d1 := hfr.cellL d1 abm
      have d2 := hfr.cellL d2 abm
      have d3 := hfr.cellL d3 abm
      have d4 := hfr.cellL d4 abm
      have ld := lt_of_cell d0
      obtain ⟨M, hM⟩ : ∃ M, Tre.mk ⟨kd, nm, tx, kk, pl⟩ Q.1 = M := ⟨_, rfl⟩
      have hsle : mj ≤ m + szT (.mk ⟨kd, nm, tx, kk, pl⟩ ks) := by rw [szT_eq]; omega
      have HMJ : Hid (mj ≤ m + szT (.mk ⟨kd, nm, tx, kk, pl⟩ ks)) := hsle
      have HLA : Hid (LesS L bd us wr A mj Q.2) := hlesA
      have HFR : Hid (But (fun p => p = L.m3) w wr) := hfr
      have HFO : Hid (ruleT us M = (compT M).getD ((choT M).getD ((forgT us M).getD ((bindT M).getD M)))) := by rw [← hM]; exact rule_four us hPM
      have HEND : Hid (∀ W bR R, Below wr.heap.size wr W → PRep W A R bR → ruleT us M = R → WrR L bd us w A m (szT (.mk ⟨kd, nm, tx, kk, pl⟩ ks)) (ruleT us (mkT ⟨kd, nm, tx, kk, pl⟩ (seqF (ks.map (lessT bd us)) P).1), (seqF (ks.map (lessT bd us)) P).2) (.returned (.pointer (some ⟨bR, 0, none⟩))) W) := fun W bR R hW9 hR9 e => by
        rw [hQ, hmkT, hM]
        exact ⟨bR, mj, rfl, by show PRep W A (ruleT us M) bR; rw [e]; exact hR9, HLA.out.under hW9 (fun p hp _ => hp) hl.out, HMJ.out, HFR.out.trans (But.ofBelow hW9)⟩
      have HM9 : Hid (PlT (.mk ⟨kd, nm, tx, kk, pl⟩ Q.1) ∧ szT (.mk ⟨kd, nm, tx, kk, pl⟩ Q.1) ≤ 1000000000 ∧ ∀ p, wr.heap.size ≤ p → A p) := ⟨hPM, by have := HMS.out; omega, hAw⟩
      clear hW hl hlen hkids hles s1 s2 s3 s4 hPM hszM hAw hAG hPK hfr hlesA hle hsle hQ
      go_wp2_with fail
      refine hnp.mono ?_
      rintro e wn ⟨bm, rfl, hrm, hbn, -⟩
      have hwu := wayUp_any wn
      have HC0 : Hid (∀ W, Below wn.heap.size wn W → Calls Tryz.prog 86 #[.pointer (some ⟨L.lb, 0, none⟩), .pointer (some ⟨bm, 0, none⟩)] W fun e w' => OptP W A (compT M) e w') := fun W hW => by
        rw [← hM]
        exact comp_any _ _ _ bm A W (fun p hp => HM9.out.2.2 p (by have := hW.size; have := hbn.size; omega)) HM9.out.1 (hrm.under hW)
      have HC1 : Hid (∀ W, Below wn.heap.size wn W → Calls Tryz.prog 87 #[.pointer (some ⟨L.lb, 0, none⟩), .pointer (some ⟨bm, 0, none⟩)] W fun e w' => OptP W A (choT M) e w') := fun W hW => by
        rw [← hM]
        exact choose_any _ _ _ bm A W (fun p hp => HM9.out.2.2 p (by have := hW.size; have := hbn.size; omega)) HM9.out.1 (hrm.under hW) HM9.out.2.1
      have HC2 : Hid (∀ W, Below wn.heap.size wn W → Calls Tryz.prog 88 #[.pointer (some ⟨L.lb, 0, none⟩), .pointer (some ⟨bm, 0, none⟩)] W fun e w' => OptP W A (forgT us M) e w') := fun W hW => by
        rw [← hM]
        exact forget_any L bd us W A mj Q.2 ((HLA.out.under hbn (fun p hp _ => hp) HLA.out.out).under hW (fun p hp _ => hp) HLA.out.out) _ _ bm HM9.out.1 (hrm.under hW)
      have HC3 : Hid (∀ W, Below wn.heap.size wn W → Calls Tryz.prog 89 #[.pointer (some ⟨L.lb, 0, none⟩), .pointer (some ⟨bm, 0, none⟩)] W fun e w' => OptP W A (bindT M) e w') := fun W hW => by
        rw [← hM]
        exact bind_any _ _ _ bm A W (fun p hp => HM9.out.2.2 p (by have := hW.size; have := hbn.size; omega)) HM9.out.1 (hrm.under hW)
      have HEN2 : Hid (∀ W bR R, Below wn.heap.size wn W → PRep W A R bR → ruleT us M = R → WrR L bd us w A m (szT (.mk ⟨kd, nm, tx, kk, pl⟩ ks)) (ruleT us (mkT ⟨kd, nm, tx, kk, pl⟩ (seqF (ks.map (lessT bd us)) P).1), (seqF (ks.map (lessT bd us)) P).2) (.returned (.pointer (some ⟨bR, 0, none⟩))) W) := fun W bR R hW9 hR9 e => HEND.out W bR R (Below.step hbn hW9) hR9 e
      have HRM : Hid (PRep wn A M bm) := by rw [← hM]; exact hrm
      clear hnp d0 d1 d2 d3 d4 ld hrm HLA HFR HMJ hM
      go_wp2_with fail
      refine hwu.mono ?_
      rintro e wu ⟨rfl, hbu⟩
      clear hwu
      simp only [fnV]
      go_wp2
      go_loopw [101] (fun i wt => ∃ (k : Nat), k ≤ 4 ∧ i = .int .i64 k ∧ Below wn.heap.size wn wt ∧ (0 < k → compT M = none) ∧ (1 < k → choT M = none) ∧ (2 < k → forgT us M = none) ∧ (3 < k → bindT M = none)) (fun i _ => 4 - (intOf i).toNat)
      case atStart => exact ⟨0, by omega, rfl, hbu, fun h => by omega, fun h => by omega, fun h => by omega, fun h => by omega⟩
      case round =>
        obtain ⟨k, hk, rfl, hbt, t0, t1, t2, t3⟩ := hrel
        obtain rfl | rfl | rfl | rfl | rfl : k = 0 ∨ k = 1 ∨ k = 2 ∨ k = 3 ∨ k = 4 := by omega
        · have hcl := HC0.out wr hbt
          have hix := Tryz.way0 wr
          go_wp2_with fail
          refine hcl.mono ?_
          intro e w8 h8
          obtain ⟨p8, rfl, hb8, hv8⟩ := h8.out
          have hb9 := Below.step hbt hb8
          clear hcl h8
          cases hT : compT M with
          | none =>
            rw [hT] at hv8
            simp only [OptV] at hv8
            subst hv8
            have HT : Hid (compT M = none) := hT
            go_wp2
            go_roundw
            case rel => exact ⟨1, by omega, rfl, hb9, fun _ => HT.out, fun h => by omega, fun h => by omega, fun h => by omega⟩
            case measure => simp [intOf]
          | some R9 =>
            rw [hT] at hv8
            obtain ⟨b9, hpb, hr9⟩ := hv8
            subst hpb
            have HE : Hid _ := HEN2.out w8 b9 R9 hb9 hr9 (by rw [HFO.out, hT]; rfl)
            clear hr9
            go_wp2
            go_ret
            exact HE.out
        · have hcl := HC1.out wr hbt
          have hix := Tryz.way1 wr
          go_wp2_with fail
          refine hcl.mono ?_
          intro e w8 h8
          obtain ⟨p8, rfl, hb8, hv8⟩ := h8.out
          have hb9 := Below.step hbt hb8
          clear hcl h8
          cases hT : choT M with
          | none =>
            rw [hT] at hv8
            simp only [OptV] at hv8
            subst hv8
            have HT : Hid (choT M = none) := hT
            go_wp2
            go_roundw
            case rel => exact ⟨2, by omega, rfl, hb9, fun _ => t0 (by omega), fun _ => HT.out, fun h => by omega, fun h => by omega⟩
            case measure => simp [intOf]
          | some R9 =>
            rw [hT] at hv8
            obtain ⟨b9, hpb, hr9⟩ := hv8
            subst hpb
            have HE : Hid _ := HEN2.out w8 b9 R9 hb9 hr9 (by rw [HFO.out, t0 (by omega), hT]; rfl)
            clear hr9
            go_wp2
            go_ret
            exact HE.out
        · have hcl := HC2.out wr hbt
          have hix := Tryz.way2 wr
          go_wp2_with fail
          refine hcl.mono ?_
          intro e w8 h8
          obtain ⟨p8, rfl, hb8, hv8⟩ := h8.out
          have hb9 := Below.step hbt hb8
          clear hcl h8
          cases hT : forgT us M with
          | none =>
            rw [hT] at hv8
            simp only [OptV] at hv8
            subst hv8
            have HT : Hid (forgT us M = none) := hT
            go_wp2
            go_roundw
            case rel => exact ⟨3, by omega, rfl, hb9, fun _ => t0 (by omega), fun _ => t1 (by omega), fun _ => HT.out, fun h => by omega⟩
            case measure => simp [intOf]
          | some R9 =>
            rw [hT] at hv8
            obtain ⟨b9, hpb, hr9⟩ := hv8
            subst hpb
            have HE : Hid _ := HEN2.out w8 b9 R9 hb9 hr9 (by rw [HFO.out, t0 (by omega), t1 (by omega), hT]; rfl)
            clear hr9
            go_wp2
            go_ret
            exact HE.out
        · have hcl := HC3.out wr hbt
          have hix := Tryz.way3 wr
          go_wp2_with fail
          refine hcl.mono ?_
          intro e w8 h8
          obtain ⟨p8, rfl, hb8, hv8⟩ := h8.out
          have hb9 := Below.step hbt hb8
          clear hcl h8
          cases hT : bindT M with
          | none =>
            rw [hT] at hv8
            simp only [OptV] at hv8
            subst hv8
            have HT : Hid (bindT M = none) := hT
            go_wp2
            go_roundw
            case rel => exact ⟨4, by omega, rfl, hb9, fun _ => t0 (by omega), fun _ => t1 (by omega), fun _ => t2 (by omega), fun _ => HT.out⟩
            case measure => simp [intOf]
          | some R9 =>
            rw [hT] at hv8
            obtain ⟨b9, hpb, hr9⟩ := hv8
            subst hpb
            have HE : Hid _ := HEN2.out w8 b9 R9 hb9 hr9 (by rw [HFO.out, t0 (by omega), t1 (by omega), t2 (by omega), hT]; rfl)
            clear hr9
            go_wp2
            go_ret
            exact HE.out
        · have HE : Hid _ := HEN2.out wr bm M hbt (HRM.out.under hbt) (by rw [HFO.out, t0 (by omega), t1 (by omega), t2 (by omega), t3 (by omega)]; rfl)
          go_wp2
          go_ret
          exact HE.out
theorem write_any (L : LesAt) (bd us : Int → Nat) (T : Tre) : WrC L bd us T := by
  refine Tre.ind (p := WrC L bd us) ?_ T
  intro n ks ih b A w m P hP hG h hR hA hs
  by_cases hv : n.kind = 70 ∧ (P n.num).isSome = true
  · obtain ⟨h7, hsome⟩ := hv
    obtain ⟨V, hV⟩ := Option.isSome_iff_exists.1 hsome
    have e : lessT bd us (.mk n ks) P = (V, P) := by
      rw [lessT_eq]
      unfold lessStep
      rw [if_pos ⟨h7, hsome⟩, hV]
      rfl
    rw [e]
    exact write_var L bd us n ks V b A w m P h7 hV hP.node.num h hR _
  by_cases hl : n.kind = 80 ∧ singleT bd n.num = true ∧ (ks.head?.map (fun a => atomT bd a.nd)) = some true
  · obtain ⟨h8, hsi, hat⟩ := hl
    obtain ⟨x, y, rfl, -, -⟩ := hP.node.code2 (.inr (.inl h8))
    have hat2 : atomT bd x.nd = true := by simpa using hat
    have h2 : n.num ≤ 200000 := by
      unfold singleT at hsi
      simp only [Bool.and_eq_true, decide_eq_true_eq] at hsi
      exact hsi.1
    have e : lessT bd us (.mk n [x, y]) P = ((lessT bd us y (setP (lessT bd us x P).2 n.num (some (lessT bd us x P).1))).1, setP (lessT bd us y (setP (lessT bd us x P).2 n.num (some (lessT bd us x P).1))).2 n.num none) := by
      rw [lessT_eq]
      unfold lessStep
      rw [if_neg hv, if_pos ⟨h8, hsi, hat⟩]
      rfl
    rw [e]
    refine (write_let L bd us n x y b A w m P (fun e w' => WrR L bd us w A m (szT (.mk n [x, y])) ((lessT bd us y (setP (lessT bd us x P).2 n.num (some (lessT bd us x P).1))).1, setP (lessT bd us y (setP (lessT bd us x P).2 n.num (some (lessT bd us x P).1))).2 n.num none) e w') h8 hP hat2 hsi h hR (fun W hW => ?_)).mono (fun e w' h => h.1)
    refine (replace_any L bd us n x y b A W m P (ih x (by simp)) (ih y (by simp)) h8 hP hG hat2 h2 (h.under hW (fun q hq _ => hq) h.out) (hR.under hW) (fun q hq => hA q (by have := hW.size; omega)) hs).mono ?_
    rintro e w' ⟨b3, m3, rfl, h3, h4, h5, h6⟩
    exact ⟨⟨b3, m3, rfl, h3, h4, h5, (But.ofBelow hW).trans h6⟩, b3, rfl⟩
  · have e : lessT bd us (.mk n ks) P = (ruleT us (mkT n (seqF (ks.map (lessT bd us)) P).1), (seqF (ks.map (lessT bd us)) P).2) := by
      rw [lessT_eq]
      unfold lessStep
      rw [if_neg hv, if_neg hl]
    rw [e]
    refine write_rest L bd us n ks b A w m P ih hP hG h hR hA hs (fun h7 => ?_) (fun x y h8 e hsi => ?_)
    · cases hp : P n.num with
      | none => rfl
      | some V => exact absurd ⟨h7, by rw [hp]; rfl⟩ hv
    · cases ha : atomT bd x.nd with
      | false => rfl
      | true => exact absurd ⟨h8, hsi, by rw [e]; simp [ha]⟩ hl
end Go.Proofs.YtemancdlnakkmaaGreat
namespace Go.Proofs.YtemancdlnakkmaaGreat

end Go.Proofs.YtemancdlnakkmaaGreat
namespace Go.Proofs.YtemancdlnakkmaaGreat
open Go.RowKit
theorem OwnN.but9 {S : Nat → Prop} {w w' : World} {B g c l : Nat} {zs : List Nd} (h : OwnN w B g c l zs) (hb : But S w w') (hn : ¬ S g) : OwnN w' B g c l zs := ⟨h.1, owns_but h.2 hb hn⟩
theorem OwnN.made0 {w : World} {B n : Nat} (hB : B ≤ w.heap.size) (hn : n ≤ 1048576) : OwnN (w.alloc (.cells (madeCells #[.int .i64 0, .int .i64 0, .string ByteArray.empty, .int .i64 0, .int .i64 0] (n * 5)) 34)) B w.heap.size n 0 [] := by
  refine ⟨rfl, rfl, Or.inr ⟨_, n, _, rfl, hB, heap_alloc_new _ _, Nat.zero_le _, by unfold maxLen; omega, ?_, ?_⟩⟩
  · simp [madeCells]
  · simp [flat]
theorem make_nodes0 (n : Nat) (h : n ≤ 1048576) (w : World) :
    (Instr.makeSlice 24 (.int .i64 0) (.int .i64 (n : Int))).run Tryz.prog w = .ok (.slice (some ⟨w.heap.size, 0, none⟩) 0 n) (w.alloc (.cells (madeCells #[.int .i64 0, .int .i64 0, .string ByteArray.empty, .int .i64 0, .int .i64 0] (n * 5)) 34)) := by
  obtain ⟨i, hi, hzz⟩ := Option.map_eq_some_iff.1 Tryz.infoN
  simp only [Prod.mk.injEq] at hzz
  obtain ⟨hz, hs, hb⟩ := hzz
  have hr := run_make (P := Tryz.prog) w 24 34 i _ Tryz.underlying24 hi hz .i64 .i64 0 n (by omega) (by omega) (by rw [hb]; omega) (by omega)
  simp only [Int.toNat_natCast, Int.toNat_zero, hs] at hr
  exact hr
end Go.Proofs.YtemancdlnakkmaaGreat
