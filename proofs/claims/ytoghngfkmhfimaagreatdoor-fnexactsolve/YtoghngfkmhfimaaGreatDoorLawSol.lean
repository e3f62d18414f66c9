import Derived.Test.YtoghngfkmhfimaaGreatDoorWAL
import Derived.Test.YtoghngfkmhfimaaGreatDoorWAU
namespace Go.Proofs.YtoghngfkmhfimaaGreatDoor

open Go.RowKit

/-! The law FnExactSolve. -/

/-- A Solution in a box. -/
def SolB (w : World) (b : Nat) (ok : Bool) (at' : Int) (ao : Option Addr) (n c : Nat) : Prop := w.heap[b]? = some (.cells #[.bool ok, .int .i64 at', .slice ao n c] 26 (0, 0))

theorem SolB.new (w : World) (ok : Bool) (at' : Int) (ao : Option Addr) (n c : Nat) : SolB (w.alloc (.cells #[.bool ok, .int .i64 at', .slice ao n c] 26)) w.heap.size ok at' ao n c := heap_alloc_new _ _

theorem SolB.lt {w : World} {b : Nat} {ok : Bool} {at' : Int} {ao : Option Addr} {n c : Nat} (h : SolB w b ok at' ao n c) : b < w.heap.size := (Array.getElem?_eq_some_iff.1 h).1

theorem SolB.below {w w' : World} {b : Nat} {ok : Bool} {at' : Int} {ao : Option Addr} {n c : Nat} (h : SolB w b ok at' ao n c) (hb : Below w.heap.size w w') : SolB w' b ok at' ao n c := (hb.block b h.lt).trans h

theorem SolB.but {S : Nat → Prop} {w w' : World} {b : Nat} {ok : Bool} {at' : Int} {ao : Option Addr} {n c : Nat} (h : SolB w b ok at' ao n c) (hb : But S w w') (hn : ¬ S b) : SolB w' b ok at' ao n c := (hb.block b h.lt hn).trans h

theorem SolB.cell {w : World} {b : Nat} {ok : Bool} {at' : Int} {ao : Option Addr} {n c : Nat} (h : SolB w b ok at' ao n c) : w.cell? ⟨b, 0, none⟩ = some (.bool ok) ∧ w.cell? ⟨b, 1, none⟩ = some (.int .i64 at') ∧ w.cell? ⟨b, 2, none⟩ = some (.slice ao n c) ∧ b < w.heap.size := by
  refine ⟨?_, ?_, ?_, h.lt⟩ <;> (rw [cell_of_row _ _ _ _ 26 (0, 0) h]; rfl)

theorem BIn.butB {S : Nat → Prop} {w w' : World} {B C : Nat} {ao : Option Addr} {bs : List (Int × List Nd)} (h : BIn w B C ao bs) (hb : But S w w') (hS : ∀ q, B ≤ q → q < C → ¬ S q) : BIn w' B C ao bs := by
  rcases h with rfl | ⟨g, rs, rfl, h1, h2, hr⟩
  · exact Or.inl rfl
  · exact Or.inr ⟨g, rs, rfl, h1, h2, hr.but hb (hS g h1.1 h1.2) (fun r hm => hS r.1 (h2 r hm).1 (h2 r hm).2)⟩

theorem BIn.ans {w : World} {B C : Nat} {ao : Option Addr} {bs : List (Int × List Nd)} (h : BIn w B C ao bs) : BAns w B ao bs := by
  rcases h with rfl | ⟨g, rs, rfl, h1, h2, hr⟩
  · exact Or.inl rfl
  · exact Or.inr ⟨g, rs, rfl, h1.1, fun r hm => (h2 r hm).1, hr⟩

theorem markBindS_in (bs : List (Int × List Nd)) (n B C : Nat) (ao : Option Addr) (cap k : Nat) (w : World) (HN : Hid (bs.length = n)) (ha : BIn w B C ao bs) (ht : total (tys bs) ≤ 8000000) (HMB : Hid (∀ b ∈ bs, b.2.length ≤ 1048576)) (hn : n ≤ 1048576) (hk : k ≤ 1000) (hk0 : 0 < k) :
    Calls Tryz.prog 28 #[.slice ao n cap, .int .i64 k] w fun e w' =>
      e = .returned (.int .i64 (k + n + 5 * total (tys bs) : Nat)) ∧ BIn w' B C ao (mB k bs) ∧ But (fun q => B ≤ q ∧ q < C) w w' := by
  rcases ha with rfl | ⟨g, rs, rfl, h1, h2, hr⟩
  · have h0 : n = 0 := HN.out.symm
    subst h0
    exact (markBindS_none ao cap k w).mono (by rintro e w' ⟨rfl, rfl⟩; exact ⟨rfl, Or.inl rfl, But.refl _ _⟩)
  · refine (markBindR_any bs n HN g rs cap k w hr ht HMB hn hk hk0).mono ?_
    rintro e w' ⟨rfl, hr', hb⟩
    refine ⟨rfl, Or.inr ⟨g, rs, rfl, h1, h2, hr'⟩, hb.mono (fun q hq => ?_)⟩
    rcases hq with rfl | ⟨r, hr, rfl⟩
    · exact h1
    · exact h2 r hr

set_option maxRecDepth 20000 in
set_option maxHeartbeats 1000000 in
theorem markSolution_in (ok : Bool) (at' : Int) (bs : List (Int × List Nd)) (n B C : Nat) (ao : Option Addr) (cap k : Nat) (w : World) (HN : Hid (bs.length = n)) (ha : BIn w B C ao bs) (ht : total (tys bs) ≤ 8000000) (HMB : Hid (∀ b ∈ bs, b.2.length ≤ 1048576)) (hn : n ≤ 1048576) (hk : k ≤ 1000) (hk0 : 0 < k) :
    Calls Tryz.prog 11 #[.agg #[.bool ok, .int .i64 at', .slice ao n cap], .int .i64 k] w fun e w' =>
      e = .returned (.int .i64 (k + n + 5 * total (tys bs) : Nat)) ∧ BIn w' B C ao (mB k bs) ∧ But (fun q => B ≤ q ∧ q < C) w w' := by
  have hA : Below w.heap.size w (w.alloc (.cells #[.bool ok, .int .i64 at', .slice ao n cap] 26)) := (Below.refl _ w).alloc (Nat.le_refl _) _
  have HM := markBindS_in bs n B C ao cap k _ HN (ha.below hA) ht HMB hn hk hk0
  have HB : Hid (But (fun q => B ≤ q ∧ q < C) w (w.alloc (.cells #[.bool ok, .int .i64 at', .slice ao n cap] 26))) := But.ofBelow hA
  obtain ⟨t, htt⟩ : ∃ t, total (tys bs) = t := ⟨_, rfl⟩
  rw [htt] at HM ht ⊢
  clear ha hA htt
  go_enter Tryz.func11, Tryz.ntmps11
  go_wp2_with fail
  refine HM.mono ?_
  rintro e w1 ⟨rfl, hr, hb⟩
  have HB2 := HB.out.trans hb
  have HR : Hid (BIn w1 B C ao (mB k bs)) := hr
  clear HM hr hb
  go_wp2
  go_ret
  exact ⟨rfl, HR.out, HB2⟩

set_option maxRecDepth 20000 in
set_option maxHeartbeats 8000000 in
theorem lawSol (ps : List (List Nd × List Nd)) (ao : Option Addr) (cap : Nat) (w : World) (hx : Pairs w ao ps)
    (hs : ∀ p ∈ ps, (∀ x ∈ p.1, x.text.size ≤ maxLen) ∧ ∀ x ∈ p.2, x.text.size ≤ maxLen) (hm : ∀ p ∈ ps, p.1.length ≤ 9223372036854775807 ∧ p.2.length ≤ 9223372036854775807) (hlen : ps.length ≤ 9223372036854775807)
    (hI : ∀ (n : Nat) (g : Nat) (W : World), ps.length = n → n ≤ 1048576 → (∀ p ∈ ps, p.1.length ≤ 1048576 ∧ p.2.length ≤ 1048576) → Below w.heap.size w W → Pairs W (some ⟨g, 0, none⟩) ps → Calls Tryz.prog 7 #[.slice (some ⟨g, 0, none⟩) n n] W fun e w' => ∃ (ok : Bool) (at' : Int) (bo : Option Addr) (l c : Nat) (bs : List (Int × List Nd)), e = .returned (.agg #[.bool ok, .int .i64 at', .slice bo l c]) ∧ bs.length = l ∧ SolveRes ps ok at' bs ∧ BAns w' W.heap.size bo bs ∧ Below W.heap.size W w') :
    Calls Tryz.prog 3 #[.slice ao ps.length cap] w fun e w' => e = .returned (.bool true) ∧ Below w.heap.size w w' := by
  obtain ⟨n, hnn⟩ : ∃ n, ps.length = n := ⟨_, rfl⟩
  have HN : Hid (ps.length = n) := hnn
  rw [hnn] at hlen ⊢
  have HZ := szPairS_any ps n HN ao cap 1048576 w hx hs hm hlen (by omega) (by omega)
  have HX : Hid (Pairs w ao ps) := hx
  have HI0 : Hid _ := hI
  clear hx hs hm hI
  go_enter Tryz.func3, Tryz.ntmps3
  go_wp2_with fail
  refine HZ.mono ?_
  rintro e w1 ⟨⟨r, rfl, hr⟩, b1⟩
  clear HZ
  rcases hr with hr | ⟨hr0, hr1⟩
  · subst hr
    go_wp2
    go_ret
    exact ⟨rfl, b1⟩
  have hnl : n ≤ 1048576 := by omega
  have hpl : pairSum ps n ≤ 1048576 := by omega
  have tr : decide (r < 0) = false := decide_eq_false (by omega)
  have HPL : Hid (∀ p ∈ ps, p.1.length ≤ 1048576 ∧ p.2.length ≤ 1048576) := by
    intro p hp
    obtain ⟨i, hi, rfl⟩ := List.getElem_of_mem hp
    have h1 := pairSum_succ hi
    have h2 : pairSum ps (i + 1) ≤ pairSum ps n := by
      have h9 := pairSum_le (ps.take n) (i + 1)
      have e1 : pairSum (ps.take n) (i + 1) = pairSum ps (i + 1) := by
        unfold pairSum
        rw [List.take_take, Nat.min_eq_left (by omega)]
      rw [e1] at h9
      exact h9
    omega
  have TOP : Hid (∀ W, Below w.heap.size w W → Calls Tryz.prog 6 #[.slice ao n cap] W fun e w' => ∃ g gs, e = .returned (.slice (some ⟨g, 0, none⟩) n n) ∧ TwoQ w' g gs ps W.heap.size w'.heap.size ∧ Below W.heap.size W w') := fun W hW => toPairS_any ps n HN ao cap W (HX.out.below hW) HPL.out hnl
  have HI1 : Hid (∀ (g : Nat) (W : World), Below w.heap.size w W → Pairs W (some ⟨g, 0, none⟩) ps → Calls Tryz.prog 7 #[.slice (some ⟨g, 0, none⟩) n n] W fun e w' => ∃ (ok : Bool) (at' : Int) (bo : Option Addr) (l c : Nat) (bs : List (Int × List Nd)), e = .returned (.agg #[.bool ok, .int .i64 at', .slice bo l c]) ∧ bs.length = l ∧ SolveRes ps ok at' bs ∧ BAns w' W.heap.size bo bs ∧ Below W.heap.size W w') := fun g W hb hp => HI0.out n g W hnn hnl HPL.out hb hp
  clear HI0 hnn hlen hr1
  -- w0 := spec.Solve(toPairS(aPairs))
  go_wp2_with fail
  refine (TOP.out w1 b1).mono ?_
  rintro e w2 ⟨ga, gas, rfl, TA, b2⟩
  have b2 := Below.step b1 b2
  have HSP := specSolve_any ps n HN hnl HPL (some ⟨ga, 0, none⟩) n w2 TA.pairs
  clear b1 TA
  go_wp2_with fail
  refine HSP.mono ?_
  rintro e w3 ⟨ok, at', aw, p, cw, Z, rfl, hp, hRes, RW, b3⟩
  obtain ⟨hp2, hz3⟩ := solve_len hRes
  have HP : Hid (Z.length = p) := hp
  have hpb : p ≤ 20000 := by omega
  have htz : total (tys Z) ≤ 8000000 := by have := total_bound Z 300 hz3; omega
  have HPB : Hid (∀ b ∈ Z, b.2.length ≤ 1048576) := fun b hb => by have := hz3 b hb; omega
  have HI : Hid (∀ (g : Nat) (W : World), Below w.heap.size w W → Pairs W (some ⟨g, 0, none⟩) ps → Calls Tryz.prog 7 #[.slice (some ⟨g, 0, none⟩) n n] W fun e w' => ∃ ag cg, e = .returned (.agg #[.bool ok, .int .i64 at', .slice ag p cg]) ∧ BAns w' W.heap.size ag Z ∧ Below W.heap.size W w') := by
    intro g W hW hP
    refine (HI1.out g W hW hP).mono ?_
    rintro e w' ⟨ok2, at2, bo, l, c, bs, rfl, hl, hr2, ha, hb⟩
    obtain ⟨rfl, rfl, rfl⟩ := solve_res_same hRes hr2
    exact ⟨bo, c, by rw [← hl, hp], ha, hb⟩
  have RW := RW.within
  have b3 := Below.step b2 b3
  clear b2 HSP hRes HI1 hp hz3 hp2
  have BW := SolB.new w3 ok at' aw p cw
  have hA : Below w3.heap.size w3 (w3.alloc (.cells #[.bool ok, .int .i64 at', .slice aw p cw] 26)) := (Below.refl _ w3).alloc (Nat.le_refl _) _
  have RW := RW.below hA
  have b4 := Below.step b3 hA
  obtain ⟨C3, hC3⟩ : ∃ C, w3.heap.size = C := ⟨_, rfl⟩
  obtain ⟨W4, hW4⟩ : ∃ W, w3.alloc (.cells #[.bool ok, .int .i64 at', .slice aw p cw] 26) = W := ⟨_, rfl⟩
  rw [hW4] at BW RW b4
  rw [hC3] at BW RW
  have hwC : w.heap.size ≤ C3 := by have := b3.size; omega
  have hC4 := BW.lt
  clear b3 hA
  -- x0
  go_wp2_with fail
  refine (TOP.out W4 b4).mono ?_
  rintro e w5 ⟨gx, gxs, rfl, TX, b5⟩
  have RW := RW.below b5
  have BW := BW.below b5
  obtain ⟨L4, hL4⟩ : ∃ L, W4.heap.size = L := ⟨_, rfl⟩
  have hC4' : C3 < L4 := by omega
  rw [hL4] at TX
  have b5 := Below.step b4 b5
  clear b4 hL4 hC4 hW4 hC3
  -- g0
  go_wp2_with fail
  refine (HI.out gx w5 b5 TX.pairs).mono ?_
  rintro e w6 ⟨ag, cg, rfl, RG, b6⟩
  obtain ⟨H5, hH5⟩ : ∃ H, w5.heap.size = H := ⟨_, rfl⟩
  have hLH : L4 ≤ H5 := by have := TX.gin; omega
  rw [hH5] at RG TX
  have RW := RW.below b6
  have BW := BW.below b6
  have TX := TX.below b6
  have RG := RG.within
  have hs6 := b6.size
  have b6 := Below.step b5 b6
  clear b5
  have BG := SolB.new w6 ok at' ag p cg
  have hA : Below w6.heap.size w6 (w6.alloc (.cells #[.bool ok, .int .i64 at', .slice ag p cg] 26)) := (Below.refl _ w6).alloc (Nat.le_refl _) _
  have RW := RW.below hA
  have BW := BW.below hA
  have TX := TX.below hA
  have RG := RG.below hA
  have b7 := Below.step b6 hA
  obtain ⟨C6, hC6⟩ : ∃ C, w6.heap.size = C := ⟨_, rfl⟩
  obtain ⟨W7, hW7⟩ : ∃ W, w6.alloc (.cells #[.bool ok, .int .i64 at', .slice ag p cg] 26) = W := ⟨_, rfl⟩
  rw [hW7] at BW RW b7 TX RG BG
  rw [hC6] at BG RG
  have hHC : H5 ≤ C6 := by omega
  clear b6 hA hs6
  obtain ⟨x0, x1, x2, x3⟩ := BW.cell
  obtain ⟨y0, y1, y2, y3⟩ := BG.cell
  -- eqSolution(g0, w0)
  go_wp2_with fail
  refine (eqSolution_same ok at' Z p HP ag aw cg cw W7 RG.binds RW.binds HPB.out (by omega)).mono ?_
  rintro e w8 ⟨rfl, b8⟩
  have RW := RW.below b8
  have BW := BW.below b8
  have TX := TX.below b8
  have RG := RG.below b8
  have BG := BG.below b8
  have b8 := Below.step b7 b8
  clear b7 x0 x1 x2 x3 y0 y1 y2 y3 hW7
  -- eqPairS(x0, toPairS(aPairs))
  go_wp2_with fail
  refine (TOP.out w8 b8).mono ?_
  rintro e w9 ⟨g9, gs9, rfl, T9, b9⟩
  have RW := RW.below b9
  have BW := BW.below b9
  have TX := TX.below b9
  have RG := RG.below b9
  have BG := BG.below b9
  have b9 := Below.step b8 b9
  clear b8
  go_wp2_with fail
  refine (eqPairS_same ps n HN _ _ _ _ w9 TX.pairs T9.pairs HPL.out hnl).mono ?_
  rintro e w10 ⟨rfl, b10⟩
  have RW := RW.below b10
  have BW := BW.below b10
  have TX := TX.below b10
  have RG := RG.below b10
  have BG := BG.below b10
  have b10 := Below.step b9 b10
  clear b9 T9
  -- k = markPairS(x0, 1)
  go_wp2_with fail
  refine (markPairS_any ps n HN gx gxs L4 H5 n 1 w10 TX hpl hnl (by omega) (by omega)).mono ?_
  rintro e w11 ⟨rfl, bu⟩
  have RW := RW.but bu (fun q hq h => by omega)
  have RG := RG.butB bu (fun q hq hq' h => by omega)
  have BW := BW.but bu (by omega)
  have BG := BG.but bu (by omega)
  have b11 : Below w.heap.size w w11 := b10.trans (bu.below b10.size (fun q hq => by omega))
  clear b10 TX bu
  obtain ⟨km, hkm⟩ : ∃ km, 1 + 5 * pairSum ps n = km := ⟨_, rfl⟩
  have hkm1 : km ≤ 100000000 := by omega
  rw [hkm]
  have tk : decide ((km : Int) < 0) = false := decide_eq_false (by omega)
  clear hkm
  obtain ⟨x0, x1, x2, x3⟩ := BW.cell
  obtain ⟨y0, y1, y2, y3⟩ := BG.cell
  go_wp2_with fail
  refine (eqSolution_same ok at' Z p HP ag aw cg cw w11 RG.binds RW.binds HPB.out (by omega)).mono ?_
  rintro e w12 ⟨rfl, b12⟩
  have RW := RW.below b12
  have BW := BW.below b12
  have RG := RG.below b12
  have BG := BG.below b12
  have b12 := Below.step b11 b12
  clear b11 x0 x1 x2 x3 y0 y1 y2 y3
  -- m, q
  obtain ⟨y0, y1, y2, y3⟩ := BG.cell
  go_wp2_with fail
  refine (markSolution_in ok at' Z p H5 C6 ag cg 1 w12 HP RG htz HPB (by omega) (by omega) (by omega)).mono ?_
  rintro e w13 ⟨rfl, RM, bu⟩
  have RW := RW.but bu (fun q hq h => by omega)
  have BW := BW.but bu (by omega)
  have BG := BG.but bu (by omega)
  have b13 : Below w.heap.size w w13 := b12.trans (bu.below b12.size (fun q hq => by omega))
  clear b12 RG bu y0 y1 y2 y3
  obtain ⟨kz, hkz⟩ : ∃ kz, 1 + p + 5 * total (tys Z) = kz := ⟨_, rfl⟩
  have HKZ : Hid (1 + p + 5 * total (tys Z) = kz) := hkz
  have hkz1 : kz ≤ 200000000 := by omega
  rw [hkz]
  have tz : decide ((kz : Int) < 0) = false := decide_eq_false (by omega)
  have tzz : ((kz : Int) != (kz : Int)) = false := by simp
  clear hkz
  obtain ⟨y0, y1, y2, y3⟩ := BG.cell
  go_wp2_with fail
  refine (heldSolution_ans ok at' Z p H5 ag cg 1 w13 HP RM.ans htz HPB (by omega) (by omega) (by omega)).mono ?_
  rintro e w14 ⟨rfl, b14⟩
  rw [HKZ.out]
  have RW := RW.below b14
  have BW := BW.below b14
  have RM := RM.below b14
  have BG := BG.below b14
  have b14 := Below.step b13 b14
  clear b13 y0 y1 y2 y3
  -- h0
  go_wp2_with fail
  refine (TOP.out w14 b14).mono ?_
  rintro e w15 ⟨g15, gs15, rfl, T15, b15⟩
  have RW := RW.below b15
  have BW := BW.below b15
  have RM := RM.below b15
  have BG := BG.below b15
  have b15 := Below.step b14 b15
  clear b14
  go_wp2_with fail
  refine (HI.out g15 w15 b15 T15.pairs).mono ?_
  rintro e w16 ⟨ah, ch, rfl, RH, b16⟩
  have RW := RW.below b16
  have BW := BW.below b16
  have RM := RM.below b16
  have BG := BG.below b16
  have b16 := Below.step b15 b16
  clear b15 T15
  have BH := SolB.new w16 ok at' ah p ch
  have hA : Below w16.heap.size w16 (w16.alloc (.cells #[.bool ok, .int .i64 at', .slice ah p ch] 26)) := (Below.refl _ w16).alloc (Nat.le_refl _) _
  have RW := RW.below hA
  have BW := BW.below hA
  have RM := RM.below hA
  have BG := BG.below hA
  have RH := RH.below hA
  have b17 := Below.step b16 hA
  obtain ⟨C16, hC16⟩ : ∃ C, w16.heap.size = C := ⟨_, rfl⟩
  obtain ⟨W17, hW17⟩ : ∃ W, w16.alloc (.cells #[.bool ok, .int .i64 at', .slice ah p ch] 26) = W := ⟨_, rfl⟩
  rw [hW17] at BW RW b17 RM RH BG BH
  rw [hC16] at BH
  clear b16 hA
  obtain ⟨x0, x1, x2, x3⟩ := BW.cell
  obtain ⟨y0, y1, y2, y3⟩ := BH.cell
  go_wp2_with fail
  refine (eqSolution_same ok at' Z p HP ah aw ch cw W17 RH.binds RW.binds HPB.out (by omega)).mono ?_
  rintro e w18 ⟨rfl, b18⟩
  have RM := RM.below b18
  have BG := BG.below b18
  have b18 := Below.step b17 b18
  clear b17 x0 x1 x2 x3 y0 y1 y2 y3 hW17 RH BH RW BW
  obtain ⟨y0, y1, y2, y3⟩ := BG.cell
  go_wp2_with fail
  refine (heldSolution_ans ok at' Z p H5 ag cg 1 w18 HP RM.ans htz HPB (by omega) (by omega) (by omega)).mono ?_
  rintro e w19 ⟨rfl, b19⟩
  rw [HKZ.out]
  have b19 := Below.step b18 b19
  clear b18 RM BG y0 y1 y2 y3
  go_wp2
  go_ret
  exact ⟨rfl, b19⟩

end Go.Proofs.YtoghngfkmhfimaaGreatDoor
