import Derived.Test.YtoiiibplkhedcaaGreatDoorWBN
set_option maxRecDepth 100000
set_option maxHeartbeats 8000000
namespace Go.Proofs.YtoiiibplkhedcaaGreatDoor
open Go.RowKit
theorem BAns.lower {w : World} {B B' : Nat} {ao : Option Addr} {bs : List (Int × List Nd)} (h : BAns w B ao bs) (hB : B' ≤ B) : BAns w B' ao bs := by
  rcases h with h | ⟨g, rs, h1, h2, h3, h4⟩
  · exact .inl h
  · exact .inr ⟨g, rs, h1, by omega, fun r hr => Nat.le_trans hB (h3 r hr), h4⟩
theorem Qmg (ps : List (List Nd × List Nd)) (m : Nat) (HM : Hid (ps.length = m)) (hm : m ≤ 1048576) (HPL : Hid (∀ p ∈ ps, p.1.length ≤ 1048576 ∧ p.2.length ≤ 1048576)) (ao : Option Addr) (cap : Nat) (w : World) (hx : Pairs w ao ps) :
    Calls Tryz.prog 17 #[.slice ao m cap] w fun e w' => ∃ (ok : Bool) (at' : Int) (bo : Option Addr) (l c : Nat) (bs : List (Int × List Nd)), e = .returned (.agg #[.bool ok, .int .i64 at', .slice bo l c]) ∧ bs.length = l ∧ SolveRes ps ok at' bs ∧ BAns w' w.heap.size bo bs ∧ Below w.heap.size w w' := by
  obtain ⟨z, hz⟩ : ∃ z, w.heap.size = z := ⟨_, rfl⟩
  have HX : Hid (Pairs w ao ps) := hx
  have hA : Below z w (w.alloc (.cells #[.bool false, .int .i64 0, .slice none 0 0] 46)) := (Below.refl _ w).alloc (by omega) _
  have hzb : (w.alloc (.cells #[.bool false, .int .i64 0, .slice none 0 0] 46)).heap[z]? = some (.cells #[.bool false, .int .i64 0, .slice none 0 0] 46 (0, 0)) := by rw [← hz]; exact heap_alloc_new _ _
  have hxB : ∀ wr, Below z w wr → Pairs wr ao ps := fun wr h => hx.below (by rw [hz]; exact h)
  have HXB : Hid (∀ wr, Below z w wr → Pairs wr ao ps) := hxB
  clear hx hxB
  go_enter Tryz.func17, Tryz.ntmps17
  go_wp2
  go_loopw [3, 4] (fun vt vi wr => ∃ i : Nat, i ≤ m ∧ vi = .int .i64 (i : Int) ∧ vt = .int .i64 (pairSum ps i : Int) ∧ pairSum ps i ≤ 20000 ∧ (∀ p ∈ ps.take i, typeb p.1 = true ∧ typeb p.2 = true) ∧ Below z w wr ∧ wr.heap[z]? = some (.cells #[.bool false, .int .i64 0, .slice none 0 0] 46 (0, 0))) (fun _ vi _ => m - (intOf vi).toNat)
  case atStart => exact ⟨0, Nat.zero_le _, rfl, rfl, by simp [pairSum], by simp, hA, hzb⟩
  case round =>
    clear hA hzb
    obtain ⟨i, him, rfl, rfl, hsum, hall, hb, hrb⟩ := hrel
    have hbz := hb.size
    by_cases hlt : i < m
    · have hltx : i < ps.length := by have := HM.out; omega
      obtain ⟨b, o, a1, c1, a2, c2, hao, e1, e2, hn1, hn2⟩ := HXB.out wr hb i hltx
      subst hao
      obtain ⟨A, hA⟩ : ∃ A, ps[i].1 = A := ⟨_, rfl⟩
      obtain ⟨C, hC⟩ : ∃ C, ps[i].2 = C := ⟨_, rfl⟩
      rw [hA] at e1 hn1
      rw [hC] at e2 hn2
      obtain ⟨la, hla⟩ : ∃ la, A.length = la := ⟨_, rfl⟩
      obtain ⟨lc, hlc⟩ : ∃ lc, C.length = lc := ⟨_, rfl⟩
      rw [hla] at e1
      rw [hlc] at e2
      have hpl := HPL.out ps[i] (List.getElem_mem hltx)
      rw [hA, hC, hla, hlc] at hpl
      obtain ⟨t, ht⟩ : ∃ t, pairSum ps i = t := ⟨_, rfl⟩
      have HT : Hid (pairSum ps (i + 1) = t + la + lc) := by
        show pairSum ps (i + 1) = _
        rw [Qdz hltx, ht, hA, hC, hla, hlc]
      have HLA : Hid (A.length = la) := hla
      have HLC : Hid (C.length = lc) := hlc
      rw [ht] at hsum
      rw [ht]
      have HBAD : Hid ((¬ pairSum ps (i + 1) ≤ 20000 ∨ typeb A = false ∨ typeb C = false) → SolveRes ps false (-1) []) := by
        intro h9
        refine .bad (fun hv => ?_)
        have hmem : ps[i] ∈ ps := List.getElem_mem hltx
        rcases h9 with h9 | h9 | h9
        · have := Qdl ps (i + 1)
          have := hv.1
          omega
        · rw [← hA, (hv.2 _ hmem).1] at h9; cases h9
        · rw [← hC, (hv.2 _ hmem).2] at h9; cases h9
      have HALL : Hid (typeb A = true → typeb C = true → ∀ p ∈ ps.take (i + 1), typeb p.1 = true ∧ typeb p.2 = true) := by
        intro h1 h2 p hp
        rw [List.take_succ_eq_append_getElem hltx] at hp
        rcases List.mem_append.1 hp with h9 | h9
        · exact hall p h9
        · simp only [List.mem_singleton] at h9
          subst h9
          rw [hA, hC]
          exact ⟨h1, h2⟩
      have hbl : b < wr.heap.size := Qaa e1
      clear ht hla hlc hA hC hall
      go_wp2_with fail
      go_quiet (fail)
      have hdr := Qan wr nq
      have hb2 := hb.trans (hdr.mono (by omega))
      have hrb2 := (hdr.block z (by exact (Array.getElem?_eq_some_iff.1 hrb).1)).trans hrb
      have hn1' := hn1.below hdr
      have hn2' := hn2.below hdr
      have e1' := (hdr.cell (p := ⟨b, o + i * 2, none⟩) hbl).trans e1
      have e2' := (hdr.cell (p := ⟨b, o + i * 2 + 1, none⟩) hbl).trans e2
      have hbl2 : b < (wr.drewN nq).heap.size := hbl
      have hz2 : z ≤ (wr.drewN nq).heap.size := by have := hb2.size; have := hb.size; show z ≤ wr.heap.size; omega
      clear hdr hb hrb hn1 hn2 e1 e2 hbl hbz
      generalize wr.drewN nq = W at *
      obtain ⟨r0, r1, r2, f0, f1, f2, hzl, hrbut⟩ := Qkt (a' := .bool false) (b' := .int .i64 (-1)) (c' := .slice none 0 0) hrb2
      by_cases h20 : t + la + lc > 20000
      · have t20 : decide (((t : Int) + (la : Int) + (lc : Int)) > 20000) = true := decide_eq_true (by omega)
        have HRES : Hid (SolveRes ps false (-1) []) := HBAD.out (.inl (by rw [HT.out]; omega))
        have hfin : Below z w (((W.setCell ⟨z, 0, none⟩ (.bool false)).setCell ⟨z, 1, none⟩ (.int .i64 (-1))).setCell ⟨z, 2, none⟩ (.slice none 0 0)) := hb2.trans (hrbut.below (by omega) (fun q hq => by omega))
        go_wp2
        refine bodyPost_ret (v := .agg #[.bool false, .int .i64 (-1), .slice none 0 0]) (by simp [results, Tryz.results17, go_sem, r0, r1, r2]) rfl ?_
        exact ⟨false, -1, none, 0, 0, [], rfl, rfl, HRES.out, .inl rfl, by rw [hz]; exact hfin⟩
      · have t20 : decide (((t : Int) + (la : Int) + (lc : Int)) > 20000) = false := decide_eq_false (by omega)
        have HRB : Hid (W.heap[z]? = some (.cells #[.bool false, .int .i64 0, .slice none 0 0] 46 (0, 0))) := hrb2
        clear r0 r1 r2 f0 f1 f2 hrbut hrb2
        go_wp2_with fail
        refine (Qcx A la HLA hpl.1 a1 c1 W hn1').mono ?_
        rintro e W1 ⟨rfl, hb3⟩
        have hb4 := hb2.trans (hb3.mono hz2)
        have hn2'' := hn2'.below hb3
        have e2'' := (hb3.cell (p := ⟨b, o + i * 2 + 1, none⟩) hbl2).trans e2'
        have hrb3 := (hb3.block z hzl).trans HRB.out
        have hs3 := hb3.size
        have hbl3 : b < W1.heap.size := by omega
        obtain ⟨r0, r1, r2, f0, f1, f2, hzl1, hrbut⟩ := Qkt (a' := .bool false) (b' := .int .i64 (-1)) (c' := .slice none 0 0) hrb3
        clear hb2 hb3 hn1' hn2' e1' e2' HRB
        cases hta : typeb A
        · have HRES : Hid (SolveRes ps false (-1) []) := HBAD.out (.inr (.inl hta))
          have hfin : Below z w (((W1.setCell ⟨z, 0, none⟩ (.bool false)).setCell ⟨z, 1, none⟩ (.int .i64 (-1))).setCell ⟨z, 2, none⟩ (.slice none 0 0)) := hb4.trans (hrbut.below (by omega) (fun q hq => by omega))
          go_wp2
          refine bodyPost_ret (v := .agg #[.bool false, .int .i64 (-1), .slice none 0 0]) (by simp [results, Tryz.results17, go_sem, r0, r1, r2]) rfl ?_
          exact ⟨false, -1, none, 0, 0, [], rfl, rfl, HRES.out, .inl rfl, by rw [hz]; exact hfin⟩
        · have HRB : Hid (W1.heap[z]? = some (.cells #[.bool false, .int .i64 0, .slice none 0 0] 46 (0, 0))) := hrb3
          clear r0 r1 r2 f0 f1 f2 hrbut hrb3
          go_wp2_with fail
          refine (Qcx C lc HLC hpl.2 a2 c2 W1 hn2'').mono ?_
          rintro e W2 ⟨rfl, hb5⟩
          have hb6 := hb4.trans (hb5.mono (by omega))
          have hrb5 := (hb5.block z hzl1).trans HRB.out
          have hs5 := hb5.size
          obtain ⟨r0, r1, r2, f0, f1, f2, hzl2, hrbut⟩ := Qkt (a' := .bool false) (b' := .int .i64 (-1)) (c' := .slice none 0 0) hrb5
          clear hb4 hb5 hn2'' e2'' HRB
          cases htc : typeb C
          · have HRES : Hid (SolveRes ps false (-1) []) := HBAD.out (.inr (.inr htc))
            have hfin : Below z w (((W2.setCell ⟨z, 0, none⟩ (.bool false)).setCell ⟨z, 1, none⟩ (.int .i64 (-1))).setCell ⟨z, 2, none⟩ (.slice none 0 0)) := hb6.trans (hrbut.below (by omega) (fun q hq => by omega))
            go_wp2
            refine bodyPost_ret (v := .agg #[.bool false, .int .i64 (-1), .slice none 0 0]) (by simp [results, Tryz.results17, go_sem, r0, r1, r2]) rfl ?_
            exact ⟨false, -1, none, 0, 0, [], rfl, rfl, HRES.out, .inl rfl, by rw [hz]; exact hfin⟩
          · have HAL : Hid (∀ p ∈ ps.take (i + 1), typeb p.1 = true ∧ typeb p.2 = true) := HALL.out hta htc
            have HT2 : Hid (pairSum ps (i + 1) ≤ 20000) := by show pairSum ps (i + 1) ≤ 20000; rw [HT.out]; omega
            clear r0 r1 r2 f0 f1 f2 hrbut
            go_wp2
            go_roundw
            case rel => exact ⟨i + 1, by omega, by go_num, by rw [HT.out]; go_num, HT2.out, HAL.out, hb6, hrb5⟩
            case measure => simp [intOf]; omega
    · have hie : i = m := by omega
      subst hie
      have hse : pairSum ps i = (ps.map fun p => p.1.length + p.2.length).sum := by
        unfold pairSum
        rw [List.take_of_length_le (by have := HM.out; omega)]
      have HV : Hid (Qbf ps) := by
        refine ⟨by omega, ?_⟩
        rw [List.take_of_length_le (by have := HM.out; omega)] at hall
        exact hall
      have HSUM : Hid (∀ j, pairSum ps j ≤ 20000) := fun j => by have := Qdl ps j; omega
      obtain ⟨s, hs⟩ : ∃ s, wr.heap.size = s := ⟨_, rfl⟩
      have hSW := SW.start hz hb hrb hs
      have HTB : Hid (∀ j (hj : j < ps.length) a1 (wq : World), Nodes w a1 ps[j].1 → ∀ b o, a1 = some ⟨b, o, none⟩ → b < z) := by
        intro j hj a1 _ hn b o e
        rw [← hz]
        have ht := (HV.out.2 ps[j] (List.getElem_mem hj)).1
        obtain ⟨_, _, _, _, h0, _⟩ := Qbx rfl ht
        exact hn.inB h0 b o e
      have HTB2 : Hid (∀ j (hj : j < ps.length) a1 (wq : World), Nodes w a1 ps[j].2 → ∀ b o, a1 = some ⟨b, o, none⟩ → b < z) := by
        intro j hj a1 _ hn b o e
        rw [← hz]
        have ht := (HV.out.2 ps[j] (List.getElem_mem hj)).2
        obtain ⟨_, _, _, _, h0, _⟩ := Qbx rfl ht
        exact hn.inB h0 b o e
      clear hse hsum hall hb hrb hbz
      go_wp2
      go_loopw [6, 7] (fun vm vj wq => ∃ (j n c : Nat) (ao' : Option Addr) (st : List SK) (ka : Nat → Option Addr × Nat) (lk : Nat → Option Nat) (mk : Nat → Int) (gm l cm : Nat) (ms : List (Int × Nat)) (wk : Int), j ≤ i ∧ vj = .int .i64 (j : Int) ∧ vm = .slice (some ⟨gm, 0, none⟩) l cm ∧ SW w wq z s wk ao' n c st ka lk mk gm l cm ms ∧ LoopS ps j st lk ms ∧ l ≤ pairSum ps j ∧ n ≤ pairSum ps j) (fun _ vj _ => i - (intOf vj).toNat)
      case atStart => exact ⟨0, 0, 0, none, [], _, _, _, s + 1, 0, 0, [], 0, Nat.zero_le _, rfl, rfl, hSW, LoopS.start ps, Nat.zero_le _, Nat.zero_le _⟩
      case round =>
        clear hSW hs
        obtain ⟨j, n, c, ao', st, ka, lk, mk, gm, l, cm, ms, wk, hj, rfl, rfl, hW, hL, hll, hnn⟩ := hrel
        have hs6 := HSUM.out j
        have HL : Hid (LoopS ps j st lk ms) := hL
        clear hL
        by_cases hji : j < i
        · have hjx : j < ps.length := by have := HM.out; omega
          obtain ⟨b, o, a1, c1, a2, c2, hao, e1, e2, hn1, hn2⟩ := HXB.out wr hW.below j hjx
          obtain ⟨b', o', a1', c1', a2', c2', hao', e1', e2', hn1', hn2'⟩ := HX.out j hjx
          subst hao
          simp only [Option.some.injEq, Addr.mk.injEq, and_true] at hao'
          obtain ⟨rfl, rfl⟩ := hao'
          have hbz' : b < z := by rw [← hz]; exact Qaa e1'
          have ee1 := (hW.below.cell (p := ⟨b, o + j * 2, none⟩) hbz').trans e1'
          have ee2 := (hW.below.cell (p := ⟨b, o + j * 2 + 1, none⟩) hbz').trans e2'
          rw [e1] at ee1
          rw [e2] at ee2
          simp only [Option.some.injEq, Value.slice.injEq, true_and] at ee1 ee2
          obtain ⟨rfl, rfl⟩ := ee1
          obtain ⟨rfl, rfl⟩ := ee2
          have HB1 : Hid (∀ b o, a1 = some ⟨b, o, none⟩ → b < z) := HTB.out j hjx a1 wr hn1'
          have HB2 : Hid (∀ b o, a2 = some ⟨b, o, none⟩ → b < z) := HTB2.out j hjx a2 wr hn2'
          clear e1' e2' hn1' hn2'
          obtain ⟨tA, tC⟩ := HV.out.2 ps[j] (List.getElem_mem hjx)
          obtain ⟨A, hA⟩ : ∃ A, ps[j].1 = A := ⟨_, rfl⟩
          obtain ⟨C, hC⟩ : ∃ C, ps[j].2 = C := ⟨_, rfl⟩
          have HAC : Hid (ps[j].1 = A ∧ ps[j].2 = C) := ⟨hA, hC⟩
          rw [hA] at e1 hn1 tA
          rw [hC] at e2 hn2 tC
          obtain ⟨la, hla⟩ : ∃ la, A.length = la := ⟨_, rfl⟩
          obtain ⟨lc, hlc⟩ : ∃ lc, C.length = lc := ⟨_, rfl⟩
          have HLA : Hid (A.length = la) := hla
          have HLC : Hid (C.length = lc) := hlc
          have HPS : Hid (pairSum ps (j + 1) = pairSum ps j + la + lc) := by
            show pairSum ps (j + 1) = _
            rw [Qdz hjx, hA, hC, hla, hlc]
          have hs7 := HSUM.out (j + 1)
          rw [HPS.out] at hs7
          rw [hla] at e1
          rw [hlc] at e2
          have hdrew : Below wr.heap.size wr wr.drew := ⟨rfl, rfl, rfl, Nat.le_refl _, fun _ _ => rfl⟩
          obtain ⟨yA, sA, hA0, hsA, hspA, HC1⟩ := (hW.step hdrew).callPut HL.out.sts HL.out.msok HL.out.inv (by omega) (by omega) A la HLA tA a1 c1 (hn1.below hdrew) HB1.out
          have HSA : Hid (0 < la ∧ yA[la - 1]? = some sA ∧ span A sA.fr (la - 1) = A) := ⟨hA0, hsA, hspA⟩
          obtain ⟨x0, x1, x2, x3, hsl⟩ := Qay hW.sbox
          clear x2 x3
          have hbl : b < wr.heap.size := Qaa e1
          have HN2 : Hid (Nodes w a2 C) := by
            have h9 := HX.out j hjx
            obtain ⟨b', o', a1', c1', a2', c2', hao', e1', e2', hn1', hn2'⟩ := h9
            simp only [Option.some.injEq, Addr.mk.injEq, and_true] at hao'
            obtain ⟨rfl, rfl⟩ := hao'
            have ee2 := (hW.below.cell (p := ⟨b, o + j * 2 + 1, none⟩) hbz').trans e2'
            rw [e2] at ee2
            simp only [Option.some.injEq, Value.slice.injEq] at ee2
            obtain ⟨rfl, _, _⟩ := ee2
            rw [hC] at hn2'
            exact hn2'
          have HE2 : Hid (∀ W, Below z w W → W.cell? ⟨b, o + j * 2 + 1, none⟩ = some (.slice a2 lc c2)) := by
            intro W hW9
            have h8 := (hW9.cell (p := ⟨b, o + j * 2 + 1, none⟩) hbz')
            have h7 := (hW.below.cell (p := ⟨b, o + j * 2 + 1, none⟩) hbz')
            rw [h8, ← h7]
            exact e2
          clear hA hC hla hlc hn1 hn2 hW hA0 hsA hspA hdrew
          go_wp2_with fail
          go_cut [6, 8] from 63 to 74 (fun vm va wx => ∃ (g' n' c' gm' l' cm' a : Nat), vm = .slice (some ⟨gm', 0, none⟩) l' cm' ∧ va = .int .i64 (a : Int) ∧ Qyk w z s wk n st lk l ms A yA g' n' c' gm' l' cm' a wx)
          case first =>
            clear HL HSUM HV HPL HTB HTB2 HX HXB HM HAC HLA HLC HPS HSA HN2 HE2 HB1 HB2 e2 tA tC
            go_region_with (go_at_call 37; refine HC1.mono ?_; rintro e w5 ⟨g', n', c', gm', l', cm', a, rfl, hs5, hz5, hres⟩; obtain ⟨p0, p1, p2, p3, p4⟩ := Qay hs5)
            all_goals (try go_wp2_with fail)
            all_goals go_meet
            all_goals exact ⟨g', n', c', gm', l', cm', a, rfl, rfl, hres⟩
          case rest =>
            obtain ⟨g1, n1, k1, gm1, l1, cm1, a, rfl, rfl, hres1⟩ := hcut
            obtain ⟨st1, ka1, mk1, ms1, at1, hW1, hP1, ha1, hl1, hnn1⟩ := hres1
            have hI1 : Inv st1 lk := hP1.grown.inv lk HL.out.inv
            rw [HLA.out] at hP1 ha1 hl1 hnn1
            have hdrew1 : Below wc.heap.size wc wc.drew := ⟨rfl, rfl, rfl, Nat.le_refl _, fun _ _ => rfl⟩
            obtain ⟨yC, sC, hC0, hsC, hspC, HC2⟩ := (hW1.step hdrew1).callPut hP1.sts hP1.msok hI1 (by omega) (by omega) C lc HLC tC a2 c2 (HN2.out.below (by rw [hz]; exact (hW1.step hdrew1).below)) HB2.out
            have HSC : Hid (0 < lc ∧ yC[lc - 1]? = some sC ∧ span C sC.fr (lc - 1) = C) := ⟨hC0, hsC, hspC⟩
            have e2c := HE2.out wc hW1.below
            obtain ⟨x0c, x1c, x2c, x3c, hslc⟩ := Qay hW1.sbox
            have hblc : b < wc.heap.size := Qaa e2c
            have HP1 : Hid (PutS st ms A yA la st1 at1 ms1) := hP1
            have HA1 : Hid (at1[la - 1]? = some a) := ha1
            have HI1 : Hid (Inv st1 lk) := hI1
            clear x2c x3c x0 x1 e1 e2 HC1 hsl hbl hP1 ha1 hI1 hW1 hC0 hsC hspC hdrew1
            go_wp2_with fail
            go_cut [6, 9] from 75 to 86 (fun vm vb wx => ∃ (g' n' c' gm' l' cm' b' : Nat), vm = .slice (some ⟨gm', 0, none⟩) l' cm' ∧ vb = .int .i64 (b' : Int) ∧ Qyk w z s wk n1 st1 lk l1 ms1 C yC g' n' c' gm' l' cm' b' wx)
            case first =>
              clear HL HSUM HV HPL HTB HTB2 HX HXB HM HAC HLA HLC HPS HSA HSC HN2 HE2 HB1 HB2 tA tC HP1 HA1 HI1
              go_region_with (go_at_call 37; refine HC2.mono ?_; rintro e w5 ⟨g', n', c', gm', l', cm', b', rfl, hs5, hz5, hres⟩; obtain ⟨p0, p1, p2, p3, p4⟩ := Qay hs5)
              all_goals (try go_wp2_with fail)
              all_goals go_meet
              all_goals exact ⟨g', n', c', gm', l', cm', b', rfl, rfl, hres⟩
            case rest =>
              obtain ⟨g2, n2, k2, gm2, l2, cm2, b2, rfl, rfl, hres2⟩ := hcut
              obtain ⟨st2, ka2, mk2, ms2, at2, hW2, hP2, ha2, hl2, hnn2⟩ := hres2
              rw [HLC.out] at hP2 ha2 hl2 hnn2
              have hTwo : TwoPut A C st ms st2 a b2 ms2 := Jbu HLA.out HLC.out HP1.out hP2 ⟨sA, HSA.out⟩ ⟨sC, HSC.out⟩ HA1.out ha2
              have HTWO : Hid (TwoPut ps[j].1 ps[j].2 st ms st2 a b2 ms2) := by
                show TwoPut _ _ _ _ _ _ _ _
                rw [HAC.out.1, HAC.out.2]
                exact hTwo
              have hI2 : Inv st2 lk := hP2.grown.inv lk HI1.out
              have ha2n : a < n2 := by have := hTwo.ina.1; have := hW2.hn; omega
              have hb2n : b2 < n2 := by have := hTwo.inb.1; have := hW2.hn; omega
              have HC3 := hW2.callUnify hP2.sts hI2 (by omega) a b2 ha2n hb2n
              obtain ⟨x0d, x1d, x2d, x3d, hsld⟩ := Qay hW2.sbox
              clear x2d x3d x0c x1c HC2 hslc hblc e2c hTwo hP2 ha2 hI2 hW2
              go_wp2_with fail
              refine HC3.mono ?_
              rintro e w7 ⟨wk', ok, rfl, hs7b, hbw, hrb, hok, hno⟩
              obtain ⟨p0, p1, p2, p3, p4⟩ := Qay hs7b
              cases ok
              · have HRES : Hid (SolveRes ps false (j : Int) []) := HL.out.no HV.out hjx HTWO.out (hno rfl)
                obtain ⟨r0, r1, r2, f0, f1, f2, hzl, hrbut⟩ := Qkt (a' := .bool false) (b' := .int .i64 (j : Int)) (c' := .slice none 0 0) hrb
                have hfin := hbw.trans (hrbut.below (by omega) (fun q hq => by omega))
                clear hok hno x0d x1d HC3 hs7b hrb
                go_wp2
                refine bodyPost_ret (v := .agg #[.bool false, .int .i64 (j : Int), .slice none 0 0]) (by simp [results, Tryz.results17, go_sem, r0, r1, r2]) rfl ?_
                exact ⟨false, (j : Int), none, 0, 0, [], rfl, rfl, HRES.out, .inl rfl, by rw [hz]; exact hfin⟩
              · obtain ⟨lk', mk', hW3, hU⟩ := hok rfl
                have HL3 : Hid (LoopS ps (j + 1) st2 lk' ms2) := HL.out.next hjx HTWO.out hU
                clear hok hno x0d x1d HC3 hs7b hU hrb hbw
                go_wp2
                go_roundw
                case rel => exact ⟨j + 1, n2, k2, some ⟨g2, 0, none⟩, st2, ka2, lk', mk', gm2, l2, cm2, ms2, wk', by omega, by go_num, rfl, hW3, HL3.out, by rw [HPS.out]; omega, by rw [HPS.out]; omega⟩
                case measure => simp [intOf]; omega
        · have hje : j = i := by omega
          subst hje
          obtain ⟨D, hD, HC⟩ := hW.callBinds HL.out.sts HL.out.msok HL.out.inv (by omega) (by omega)
          have hjl : ps.length = j := HM.out
          have HDONE : Hid (∀ bs ok, Qef D (Qax (msI ms)) bs ok → SolveRes ps ok (if ok then 0 else -1) bs) := by
            intro bs ok h9
            have h8 := HL.out
            rw [← hjl] at h8
            exact Qyc h8 HV.out hD h9
          obtain ⟨x0, x1, x2, x3, hsl⟩ := Qay hW.sbox
          have hwb := hW.below
          have hrb0 := hW.rbox
          have hzl0 := hW.zlt
          clear x2 x3 hD hW hjl
          go_wp2_with fail
          refine HC.mono ?_
          rintro e w7 ⟨bo, l', c', bs, ok, rfl, hbl, hans, hb7, hres⟩
          have HRES := HDONE.out bs ok hres
          have hrb7 := (hb7.block z hzl0).trans hrb0
          have hbw := hwb.trans (hb7.mono (by omega))
          have hs7 := hb7.size
          cases ok
          · have hbs : bs = [] := (hres.2 rfl).1
            subst hbs
            have HR : Hid (SolveRes ps false (-1) []) := HRES
            obtain ⟨r0, r1, r2, f0, f1, f2, hzl, hrbut⟩ := Qkt (a' := .bool false) (b' := .int .i64 (-1)) (c' := .slice none 0 0) hrb7
            have hfin := hbw.trans (hrbut.below (by omega) (fun q hq => by omega))
            clear hres HRES x0 x1 HC hans hrb7 hrb0
            go_wp2
            refine bodyPost_ret (v := .agg #[.bool false, .int .i64 (-1), .slice none 0 0]) (by simp [results, Tryz.results17, go_sem, r0, r1, r2]) rfl ?_
            exact ⟨false, -1, none, 0, 0, [], rfl, rfl, HR.out, .inl rfl, by rw [hz]; exact hfin⟩
          · have HR : Hid (SolveRes ps true 0 bs) := HRES
            obtain ⟨r0, r1, r2, f0, f1, f2, hzl, hrbut⟩ := Qkt (a' := .bool true) (b' := .int .i64 0) (c' := .slice bo l' c') hrb7
            have hfin := hbw.trans (hrbut.below (by omega) (fun q hq => by omega))
            have hans2 := BAns.lower (hans.but hrbut (fun q hq e => by omega)) (B' := z) (by omega)
            clear hres HRES x0 x1 HC hans hrb7 hrb0
            go_wp2
            refine bodyPost_ret (v := .agg #[.bool true, .int .i64 0, .slice bo l' c']) (by simp [results, Tryz.results17, go_sem, r0, r1, r2]) rfl ?_
            exact ⟨true, 0, bo, l', c', bs, rfl, hbl, HR.out, by rw [hz]; exact hans2, by rw [hz]; exact hfin⟩
/-! Pairs as the laws hold them: sizes, copies, equality. -/
/-! Pairs that a law copies and marks. -/

theorem Qnv {ps : List (List Nd × List Nd)} {ok : Bool} {at' : Int} {bs : List (Int × List Nd)} (h : SolveRes ps ok at' bs) : bs.length ≤ 20000 ∧ ∀ b ∈ bs, b.2.length ≤ 300 := by
  cases h using SolveRes.inv with
  | bad _ => exact ⟨by simp, by simp⟩
  | no _ _ _ _ _ => exact ⟨by simp, by simp⟩
  | large _ _ _ _ _ _ => exact ⟨by simp, by simp⟩
  | ok σ _ hv _ hup hocc hlen =>
    refine ⟨?_, fun b hb => (hlen b hb).2⟩
    have h1 : (nums bs).length ≤ (ps.flatMap fun p => metas p.1 ++ metas p.2).length := by
      refine Qjt (hup.imp (fun {a b} hab e => by omega)) (fun x hx => ?_)
      obtain ⟨p, hp, h⟩ := (hocc x).1 hx
      refine List.mem_flatMap.2 ⟨p, hp, ?_⟩
      exact List.mem_append.2 h
    have h2 : ∀ qs : List (List Nd × List Nd), (qs.flatMap fun p => metas p.1 ++ metas p.2).length ≤ (qs.map fun p => p.1.length + p.2.length).sum := by
      intro qs
      induction qs with
      | nil => simp
      | cons q qs ih =>
        have h3 := Qhf q.1
        have h4 := Qhf q.2
        simp only [List.flatMap_cons, List.length_append, List.map_cons, List.sum_cons]
        omega
    have h3 := h2 ps
    have h4 := hv.1
    have h5 : (nums bs).length = bs.length := by simp [nums]
    omega
end Go.Proofs.YtoiiibplkhedcaaGreatDoor
