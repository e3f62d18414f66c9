import Derived.Test.YtkmlfpfgiblcdabZAF
import Derived.Test.YtkmlfpfgiblcdabBS
import Derived.Deep.RegionHeld3
import Derived.Test.YtkmlfpfgiblcdabCompLaw
import Derived.Test.YtkmlfpfgiblcdabIComp
import Derived.Test.YtkmlfpfgiblcdabZAG
namespace Go.Proofs.Ytkmlfpfgiblcdab
open Go.RowKit

set_option maxRecDepth 100000 in
set_option maxHeartbeats 4000000 in
theorem wSameBinds_same (bs : List (Int × List Nd)) (n : Nat) (HX : Hid (bs.length = n)) (HK : Hid (∀ b ∈ bs, b.2.length ≤ 1048576)) (ao bo : Option Addr) (cap cbp : Nat) (w : World) (hx : Binds w ao bs) (hy : Binds w bo bs) (hlx : n ≤ 1048576) :
    Calls Try.prog 34 #[.slice ao n cap, .slice bo n cbp] w fun e w' => e = .returned (.bool true) ∧ Below w.heap.size w w' := by
  go_enter Try.func34, Try.ntmps34
  go_wp2
  go_loopw [5] (fun i wr => ∃ (k : Nat), k ≤ n ∧ i = .int .i64 k ∧ Below w.heap.size w wr) (fun i _ => n - (intOf i).toNat)
  case atStart => exact ⟨0, Nat.zero_le _, rfl, Below.refl _ _⟩
  case round =>
    obtain ⟨k, hk, rfl, hb⟩ := hrel
    by_cases hlt : k < n
    · have hltk : k < bs.length := by have := HX.out; omega
      have hkl := HK.out bs[k] (List.getElem_mem hltk)
      obtain ⟨⟨x, ks⟩, hxk⟩ : ∃ x, bs[k] = x := ⟨_, rfl⟩
      obtain ⟨b, o, ai, ci, rfl, c0, c1, hn⟩ := hx.below hb k hltk
      obtain ⟨b', o', ai', ci', rfl, d0, d1, hn'⟩ := hy.below hb k hltk
      rw [hxk] at c0 c1 hn d0 d1 hn' hkl
      simp only at c0 c1 hn d0 d1 hn' hkl
      obtain ⟨l, hl⟩ : ∃ l, ks.length = l := ⟨_, rfl⟩
      rw [hl] at c1 d1 hkl
      have HL : Hid (ks.length = l) := hl
      have hbl : b < wr.heap.size := lt_of_cell c0
      have hbl' : b' < wr.heap.size := lt_of_cell d0
      have hnd := hn.below ((Below.refl _ wr).drew)
      have hnd' := hn'.below ((Below.refl _ wr).drew)
      clear hx hy hxk hl hn hn'
      go_wp2_with fail
      go_region_held3 (fun w' => w'.cell? ⟨b, o + k * 2, none⟩ = some (.int .i64 x) ∧ w'.cell? ⟨b, o + k * 2 + 1, none⟩ = some (.slice ai l ci) ∧ w'.cell? ⟨b', o' + k * 2, none⟩ = some (.int .i64 x) ∧ w'.cell? ⟨b', o' + k * 2 + 1, none⟩ = some (.slice ai' l ci')) (first | exact ⟨c0, c1, d0, d1⟩ | exact hc5 | go_keep)
        (first
        | (go_at_call 35; refine (wExact_same ks l HL ai ai' ci ci' _ hnd hnd' hkl).mono ?_; rintro e w5 ⟨rfl, hb5⟩; have hc5 : w5.cell? ⟨b, o + k * 2, none⟩ = some (.int .i64 x) ∧ w5.cell? ⟨b, o + k * 2 + 1, none⟩ = some (.slice ai l ci) ∧ w5.cell? ⟨b', o' + k * 2, none⟩ = some (.int .i64 x) ∧ w5.cell? ⟨b', o' + k * 2 + 1, none⟩ = some (.slice ai' l ci') := ⟨(bcell_drew hb5 b _ hbl).trans c0, (bcell_drew hb5 b _ hbl).trans c1, (bcell_drew hb5 b' _ hbl').trans d0, (bcell_drew hb5 b' _ hbl').trans d1⟩))
      have hbb := Below.step hb (undrew hb5)
      clear hb hb5 hc5 c0 c1 d0 d1 hnd hnd'
      go_wp2
      go_roundw
      case rel => exact ⟨k + 1, by omega, by go_num, hbb⟩
      case measure => simp [intOf]; omega
    · clear hx hy
      go_wp2
      go_ret
      exact ⟨rfl, hb⟩

end Go.Proofs.Ytkmlfpfgiblcdab

namespace Go.Proofs.Ytkmlfpfgiblcdab
open Go.RowKit

theorem BindOk.len {bs : List (Int × List Nd)} (h : BindOk bs) : ∀ b ∈ bs, b.2.length ≤ 1048576 := fun b hb => by have := (h b hb).2.2; omega
theorem BindOk.wf {bs : List (Int × List Nd)} (h : BindOk bs) : ∀ b ∈ bs, (Lit.int .i64 b.1).wf = true ∧ ∀ y ∈ b.2, (Lit.int .i64 y.num).wf = true := fun b hb => by
  have h9 := h b hb
  exact ⟨WalkArith.wf_i64 (by omega), h9.2.1.wf⟩

theorem NumD.putAll {bs : List (Int × List Nd)} {t : List Nd} (h : BindOk bs) (ht : NumD t) : NumD (putOf bs t) := by
  unfold putOf
  split
  · intro z hz
    obtain ⟨m, hm, hz⟩ := List.mem_flatMap.1 hz
    rw [putSub_fsAt] at hz
    by_cases hk : m.kind = 61
    · rw [if_pos hk] at hz
      cases hx : fsAt bs m.num with
      | none =>
        rw [hx] at hz
        simp at hz
        rw [hz]
        exact ht m hm
      | some u =>
        rw [hx] at hz
        obtain ⟨b, hb, rfl⟩ := fsAt_mem hx
        exact (h b hb).2.1 z hz
    · rw [if_neg hk] at hz
      simp at hz
      rw [hz]
      exact ht m hm
  · intro z hz
    simp at hz

theorem putOf_len (bs : List (Int × List Nd)) (t : List Nd) : (putOf bs t).length ≤ 300 := by
  unfold putOf
  split
  · rename_i h
    exact h.2.2
  · simp

theorem comp_ok {fs ts : List (Int × List Nd)} (hf : BindOk fs) (ht : BindOk ts) : (∀ b ∈ compOf fs ts, (Lit.int .i64 b.1).wf = true ∧ b.2.length ≤ 1048576) ∧ (compOf fs ts).length ≤ 2100 := by
  unfold compOf
  split
  · rename_i h
    obtain ⟨h1, h2, h3⟩ := h
    have hnum : ∀ x ∈ compNums fs ts, (Lit.int .i64 x).wf = true := by
      intro x hx
      obtain ⟨b, hb, rfl⟩ := ((compNums_facts fs ts).2 x).1 hx
      rcases List.mem_append.1 hb with hb | hb
      · exact (hf.wf b hb).1
      · exact (ht.wf b hb).1
    refine ⟨?_, ?_⟩
    · intro b hb
      obtain ⟨x, hx, rfl⟩ := List.mem_map.1 hb
      refine ⟨hnum x hx, ?_⟩
      show (compTy fs ts x).length ≤ 1048576
      unfold compTy
      split
      · have := putOf_len ts (by assumption : Int × List Nd).2
        omega
      · cases hg : ts[placeIn (ts.map Prod.fst) x]? with
        | none => simp
        | some b =>
          have := ht.len b (List.mem_of_getElem? hg)
          simpa using this
    · have := numTo_len (fs ++ ts) (fs ++ ts).length (Nat.le_refl _)
      simp only [compNums, List.length_map, sortedM_length]
      simp only [List.length_append] at this ⊢
      omega
  · simp

set_option maxRecDepth 100000 in
set_option maxHeartbeats 4000000 in
theorem lawCompose (n m : Nat) (ao bo : Option Addr) (ca cb : Nat) (w : World) (hc : Code w ao n) (hd : Code w bo m) (hn : n ≤ 9223372036854775807) (hm : m ≤ 9223372036854775807) :
    Calls Try.prog 8 #[.slice ao n ca, .slice bo m cb] w fun e w' => e = .returned (.bool true) ∧ Below w.heap.size w w' := by
  by_cases hn2 : n ≤ 1048576
  · have tn : decide ((n : Int) > 1048576) = false := decide_eq_false (by omega)
    by_cases hm2 : m ≤ 1048576
    · have tm : decide ((m : Int) > 1048576) = false := decide_eq_false (by omega)
      go_enter Try.func8, Try.ntmps8
      go_wp2_with fail
      refine (drawCompose_any n hn2 ao ca w hc).mono ?_
      rintro e w1 ⟨ga, cga, gb, cgb, fs, ts, rfl, hfs, hts, okf, okt, lf, lt, hb1⟩
      obtain ⟨lf', hlf⟩ : ∃ l, fs.length = l := ⟨_, rfl⟩
      obtain ⟨lt', hlt⟩ : ∃ l, ts.length = l := ⟨_, rfl⟩
      have HLF : Hid (fs.length = lf') := hlf
      have HLT : Hid (ts.length = lt') := hlt
      rw [hlf] at lf
      rw [hlt] at lt
      simp only [hlf, hlt]
      clear hlf hlt hc
      go_wp2_with fail
      refine (drawUnknowns_any m hm2 bo cb w1 (hd.below hb1)).mono ?_
      rintro e w2 ⟨gt, ct, l, t, rfl, hl, hl2, hr, hnk, hb2⟩
      have HL : Hid (t.length = l) := hl
      have hfs2 := hfs.below hb2
      have hts2 := hts.below hb2
      have hb2 := Below.step hb1 hb2
      clear hfs hts hb1 hd hl
      go_wp2_with fail
      refine (implCompose_any fs ts lf' lt' HLF (by omega) HLT (by omega) okf.len okt.len okf.wf (fun b hb => (okt.wf b hb).1) _ _ _ _ w2 hfs2 hts2).mono ?_
      rintro e w3 ⟨ag, cg, rfl, hBA, hb3⟩
      obtain ⟨C, hC⟩ : ∃ C, compOf fs ts = C := ⟨_, rfl⟩
      have HC : Hid (compOf fs ts = C) := hC
      have hcok := comp_ok okf okt
      rw [hC] at hBA hcok ⊢
      obtain ⟨q, hq⟩ : ∃ q, C.length = q := ⟨_, rfl⟩
      have HQ : Hid (C.length = q) := hq
      have hq2 : q ≤ 2100 := by rw [← hq]; exact hcok.2
      rw [hq]
      have hfs3 := hfs2.below hb3
      have hts3 := hts2.below hb3
      have hr3 := hr.below hb3
      have hb3 := Below.step hb2 hb3
      have hC3 := hBA.binds
      clear hfs2 hts2 hb2 hBA hr hC hq
      go_wp2_with fail
      refine (specCompose_any fs ts lf' lt' HLF HLT (by omega) (by omega) okf.len okt.len _ _ _ _ w3 hfs3 hts3).mono ?_
      rintro e w4 ⟨ag4, c4, l4, rfl, hl4, hBA4, hb4⟩
      rw [HC.out] at hl4 hBA4
      obtain rfl : l4 = q := by rw [← hl4]; exact HQ.out
      have hfs4 := hfs3.below hb4
      have hts4 := hts3.below hb4
      have hr4 := hr3.below hb4
      have hC4 := hC3.below hb4
      have hC4' := hBA4.binds
      have hb4 := Below.step hb3 hb4
      clear hfs3 hts3 hr3 hC3 hb3 hBA4 hl4
      go_wp2_with fail
      refine (wSameBinds_same C l4 HQ (fun b hb => (hcok.1 b hb).2) _ _ _ _ w4 hC4 hC4' (by omega)).mono ?_
      rintro e w5 ⟨rfl, hb5⟩
      have hfs5 := hfs4.below hb5
      have hts5 := hts4.below hb5
      have hr5 := hr4.below hb5
      have hC5 := hC4.below hb5
      have hb5 := Below.step hb4 hb5
      clear hfs4 hts4 hr4 hC4 hb4 hC4'
      go_wp2_with fail
      refine (specPut_any fs lf' HLF (by omega) okf.len t l HL (by omega) _ _ _ _ w5 hfs5 hr5.nodes).mono ?_
      rintro e w6 ⟨g6, c6, l6, rfl, _, hl6, hr6, hb6⟩
      obtain ⟨P, hP⟩ : ∃ P, putOf fs t = P := ⟨_, rfl⟩
      have HP : Hid (putOf fs t = P) := hP
      have hPn : NumD P := by rw [← hP]; exact hnk.putAll okf
      have hPl : P.length ≤ 300 := by rw [← hP]; exact putOf_len _ _
      rw [hP] at hl6 hr6
      have HL6 : Hid (P.length = l6) := hl6
      have hl6' : l6 ≤ 300 := by omega
      have hfs6 := hfs5.below hb6
      have hts6 := hts5.below hb6
      have hrt6 := hr5.below hb6
      have hC6 := hC5.below hb6
      have hb6 := Below.step hb5 hb6
      clear hfs5 hts5 hr5 hC5 hb5 hP hl6
      go_wp2_with fail
      refine (specPut_any ts lt' HLT (by omega) okt.len P l6 HL6 (by omega) _ _ _ _ w6 hts6 hr6.nodes).mono ?_
      rintro e w7 ⟨g7, c7, l7, rfl, _, hl7, hr7, hb7⟩
      obtain ⟨Z, hZ⟩ : ∃ Z, putOf ts P = Z := ⟨_, rfl⟩
      have HZ : Hid (putOf ts P = Z) := hZ
      rw [hZ] at hl7 hr7
      have HL7 : Hid (Z.length = l7) := hl7
      have hl7' : l7 ≤ 300 := by have := putOf_len ts P; rw [hZ] at this; omega
      have hfs7 := hfs6.below hb7
      have hts7 := hts6.below hb7
      have hrt7 := hrt6.below hb7
      have hC7 := hC6.below hb7
      have hb7 := Below.step hb6 hb7
      clear hfs6 hts6 hrt6 hC6 hb6 hZ hl7 hr6
      have HFIN : Hid (l7 ≠ 0 → (0 < lf' + lt' → l4 ≠ 0) → putOf C t = Z) := by
        intro h1 h2
        rw [← HC.out, ← HZ.out, ← HP.out]
        refine put_comp ?_ ?_
        · rw [HP.out, HZ.out]
          intro e0
          have := HL7.out
          rw [e0] at this
          simp at this
          omega
        · intro h9
          rw [HC.out]
          intro e0
          have := HQ.out
          rw [e0] at this
          have h8 := h2 (by have := HLF.out; have := HLT.out; omega)
          simp at this
          omega
      by_cases hl70 : l7 = 0
      · subst hl70
        clear HFIN
        go_wp2
        go_ret
        exact ⟨rfl, hb7⟩
      · have tl7 : ((l7 : Int) == 0) = false := by simp; omega
        by_cases hsum : 0 < lf' + lt'
        · have tsum : decide ((lf' : Int) + (lt' : Int) > 0) = true := decide_eq_true (by omega)
          by_cases hq0 : l4 = 0
          · subst hq0
            clear HFIN
            go_wp2
            go_ret
            exact ⟨rfl, hb7⟩
          · have tq0 : ((l4 : Int) == 0) = false := by simp; omega
            have HE : Hid (putOf C t = Z) := HFIN.out hl70 (fun _ => hq0)
            clear HFIN
            go_wp2_with fail
            refine (implPut_any fs lf' HLF (by omega) okf.len (fun b hb => (okf.wf b hb).1) t l HL (by omega) hnk.wf _ _ _ _ w7 hfs7 hrt7.nodes).mono ?_
            rintro e w8 ⟨a8, c8, rfl, hA8, hb8⟩
            rw [HP.out] at hA8 ⊢
            rw [HL6.out]
            have hts8 := hts7.below hb8
            have hrt8 := hrt7.below hb8
            have hC8 := hC7.below hb8
            have hz8 := hr7.below hb8
            have hb8 := Below.step hb7 hb8
            clear hfs7 hts7 hrt7 hC7 hr7 hb7
            go_wp2_with fail
            refine (implPut_any ts lt' HLT (by omega) okt.len (fun b hb => (okt.wf b hb).1) P l6 HL6 (by omega) hPn.wf _ _ _ _ w8 hts8 hA8.nodes).mono ?_
            rintro e w9 ⟨a9, c9, rfl, hA9, hb9⟩
            rw [HZ.out] at hA9 ⊢
            rw [HL7.out]
            have hrt9 := hrt8.below hb9
            have hC9 := hC8.below hb9
            have hz9 := hz8.below hb9
            have hb9 := Below.step hb8 hb9
            clear hts8 hrt8 hC8 hz8 hb8 hA8
            go_wp2_with fail
            refine (wExact_same Z l7 HL7 _ _ _ _ w9 hA9.nodes hz9.nodes (by omega)).mono ?_
            rintro e w10 ⟨rfl, hb10⟩
            have hrt10 := hrt9.below hb10
            have hC10 := hC9.below hb10
            have hz10 := hz9.below hb10
            have hb10 := Below.step hb9 hb10
            clear hrt9 hC9 hz9 hb9 hA9
            go_wp2_with fail
            refine (implPut_any C l4 HQ (by omega) (fun b hb => (hcok.1 b hb).2) (fun b hb => (hcok.1 b hb).1) t l HL (by omega) hnk.wf _ _ _ _ w10 hC10 hrt10.nodes).mono ?_
            rintro e w11 ⟨a11, c11, rfl, hA11, hb11⟩
            rw [HE.out] at hA11 ⊢
            rw [HL7.out]
            have hz11 := hz10.below hb11
            have hb11 := Below.step hb10 hb11
            clear hrt10 hC10 hz10 hb10
            go_wp2_with fail
            refine (wExact_same Z l7 HL7 _ _ _ _ w11 hA11.nodes hz11.nodes (by omega)).mono ?_
            rintro e w12 ⟨rfl, hb12⟩
            have hb12 := Below.step hb11 hb12
            clear hz11 hb11 hA11
            go_wp2
            go_ret
            exact ⟨rfl, hb12⟩
        · have tsum : decide ((lf' : Int) + (lt' : Int) > 0) = false := decide_eq_false (by omega)
          have HE : Hid (putOf C t = Z) := HFIN.out hl70 (fun h => absurd h hsum)
          clear HFIN
          go_wp2_with fail
          refine (implPut_any fs lf' HLF (by omega) okf.len (fun b hb => (okf.wf b hb).1) t l HL (by omega) hnk.wf _ _ _ _ w7 hfs7 hrt7.nodes).mono ?_
          rintro e w8 ⟨a8, c8, rfl, hA8, hb8⟩
          rw [HP.out] at hA8 ⊢
          rw [HL6.out]
          have hts8 := hts7.below hb8
          have hrt8 := hrt7.below hb8
          have hC8 := hC7.below hb8
          have hz8 := hr7.below hb8
          have hb8 := Below.step hb7 hb8
          clear hfs7 hts7 hrt7 hC7 hr7 hb7
          go_wp2_with fail
          refine (implPut_any ts lt' HLT (by omega) okt.len (fun b hb => (okt.wf b hb).1) P l6 HL6 (by omega) hPn.wf _ _ _ _ w8 hts8 hA8.nodes).mono ?_
          rintro e w9 ⟨a9, c9, rfl, hA9, hb9⟩
          rw [HZ.out] at hA9 ⊢
          rw [HL7.out]
          have hrt9 := hrt8.below hb9
          have hC9 := hC8.below hb9
          have hz9 := hz8.below hb9
          have hb9 := Below.step hb8 hb9
          clear hts8 hrt8 hC8 hz8 hb8 hA8
          go_wp2_with fail
          refine (wExact_same Z l7 HL7 _ _ _ _ w9 hA9.nodes hz9.nodes (by omega)).mono ?_
          rintro e w10 ⟨rfl, hb10⟩
          have hrt10 := hrt9.below hb10
          have hC10 := hC9.below hb10
          have hz10 := hz9.below hb10
          have hb10 := Below.step hb9 hb10
          clear hrt9 hC9 hz9 hb9 hA9
          go_wp2_with fail
          refine (implPut_any C l4 HQ (by omega) (fun b hb => (hcok.1 b hb).2) (fun b hb => (hcok.1 b hb).1) t l HL (by omega) hnk.wf _ _ _ _ w10 hC10 hrt10.nodes).mono ?_
          rintro e w11 ⟨a11, c11, rfl, hA11, hb11⟩
          rw [HE.out] at hA11 ⊢
          rw [HL7.out]
          have hz11 := hz10.below hb11
          have hb11 := Below.step hb10 hb11
          clear hrt10 hC10 hz10 hb10
          go_wp2_with fail
          refine (wExact_same Z l7 HL7 _ _ _ _ w11 hA11.nodes hz11.nodes (by omega)).mono ?_
          rintro e w12 ⟨rfl, hb12⟩
          have hb12 := Below.step hb11 hb12
          clear hz11 hb11 hA11
          go_wp2
          go_ret
          exact ⟨rfl, hb12⟩
    · have tm : decide ((m : Int) > 1048576) = true := decide_eq_true (by omega)
      clear hc hd
      go_enter Try.func8, Try.ntmps8
      go_wp2
      go_ret
      exact ⟨rfl, Below.refl _ _⟩
  · have tn : decide ((n : Int) > 1048576) = true := decide_eq_true (by omega)
    clear hc hd
    go_enter Try.func8, Try.ntmps8
    go_wp2
    go_ret
    exact ⟨rfl, Below.refl _ _⟩

end Go.Proofs.Ytkmlfpfgiblcdab
