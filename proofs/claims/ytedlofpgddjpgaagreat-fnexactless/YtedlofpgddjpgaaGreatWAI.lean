import Derived.Test.YtedlofpgddjpgaaGreatWAH
import Derived.Deep.RegionWith
import Derived.BigQuiet
import Derived.BigCall
import Derived.BigGuard
import Derived.Deep.RegionHeld3
import Derived.Test.YtedlofpgddjpgaaGreatWAD
namespace Go.Proofs.YtedlofpgddjpgaaGreat
open Go.RowKit
def tupP (x : Nd) : Bool := x.kids == 1 && (x.kind == 75 || x.kind == 20)
def barB (k : Int) : Bool := letK k == 45 || letK k == 116 || letK k == 115 || k == 78 || k == 79
def okP (t : List Nd) (k : Nat) : Bool :=
  !barB (ndAt t k).kind && (ownB (ndAt t k) && (!tupP (ndAt t k) && fitsB (shapeP (ndAt t k)) (starOf (shapeP (ndAt t k))) (kidsN t k)))
def PlainS (t : List Nd) : Prop := t.length ≤ 60000 ∧ rawDeep t ≠ 0 ∧ letK (ndAt t (t.length - 1)).kind = 99 ∧ ∀ i, i < t.length → okP t i = true
set_option maxRecDepth 100000 in
set_option maxHeartbeats 20000000 in
theorem specPlain_any (t : List Nd) (m : Nat) (HM : Hid (t.length = m)) (hm : m ≤ 1048576) (ao : Option Addr) (cap : Nat) (w : World) (hx : Nodes w ao t) :
    Calls Tryz.prog 15 #[.slice ao m cap] w fun e w' => (∃ b : Bool, e = .returned (.bool b) ∧ (b = true ↔ PlainS t)) ∧ Below w.heap.size w w' := by
  by_cases h0 : m = 0
  · subst h0
    have HF : Hid (¬ PlainS t) := by
      rintro ⟨-, h9, -⟩
      have := (raw_after h9).1
      have := HM.out
      omega
    clear hx
    go_enter Tryz.func15, Tryz.ntmps15
    go_wp2
    go_ret
    exact ⟨⟨false, rfl, by simp only [Bool.false_eq_true, false_iff]; exact HF.out⟩, Below.refl _ _⟩
  by_cases h6 : m ≤ 60000
  rotate_left
  · have HF : Hid (¬ PlainS t) := by
      rintro ⟨h9, -⟩
      have := HM.out
      omega
    have h0' : ((m : Int) == 0) = false := by simp; omega
    clear hx
    go_enter Tryz.func15, Tryz.ntmps15
    go_wp2
    go_ret
    exact ⟨⟨false, rfl, by simp only [Bool.false_eq_true, false_iff]; exact HF.out⟩, Below.refl _ _⟩
  have h0' : ((m : Int) == 0) = false := by simp; omega
  go_enter Tryz.func15, Tryz.ntmps15
  go_wp2_with fail
  refine (sizes60_any t m HM h6 ao cap w hx).mono ?_
  rintro e w1 ⟨gz, cz, n, rfl, hz, hb⟩
  have hx1 := hx.below hb
  clear hx
  cases hA : after t m with
  | none =>
    have HF : Hid (¬ PlainS t) := by
      rintro ⟨-, h9, -⟩
      exact h9 (raw_none (by rw [HM.out]; exact hA))
    have hn0 : n = 0 := by
      have h9 := hz.1
      unfold sizesOf at h9
      rw [HM.out, hA] at h9
      simpa using h9.symm
    subst hn0
    clear hz hA hx1
    go_wp2
    go_ret
    exact ⟨⟨false, rfl, by simp only [Bool.false_eq_true, false_iff]; exact HF.out⟩, hb⟩
  | some p =>
    obtain ⟨S, ys⟩ := p
    have HA : Hid (after t m = some (S, ys)) := hA
    have hsz : sizesOf t = ys.map szOf := by unfold sizesOf; rw [HM.out, hA]
    rw [hsz] at hz
    have hyl := (after_fine hA).len
    have hnm : n = m := by have h9 := hz.1; simp at h9; omega
    subst hnm
    obtain ⟨s, hs, hd1, hd3, hd4, hd5⟩ := raw_some HM.out (by omega) hA
    have cz1 : w1.cell? ⟨gz, n - 1, none⟩ = some (.int .i64 ((n : Int) - (s.fr : Int))) := by
      rw [hz.at (n - 1) (by simp; omega)]
      obtain ⟨h8, h9⟩ := List.getElem?_eq_some_iff.1 hs
      simp [szOf, h9]
      omega
    have HYL : Hid (ys.length = n) := hyl
    have hbz := hz.block
    clear hA hsz hs hyl
    by_cases hfr : s.fr = 0
    rotate_left
    · have HF : Hid (¬ PlainS t) := by
        rintro ⟨-, h9, -⟩
        exact h9 (by rw [hd1, if_neg hfr])
      have hne : (((n : Int) - (s.fr : Int)) != (n : Int)) = true := by simp; omega
      clear hz hx1
      go_wp2
      go_ret
      exact ⟨⟨false, rfl, by simp only [Bool.false_eq_true, false_iff]; exact HF.out⟩, hb⟩
    have HRD : Hid (rawDeep t ≠ 0) := by show rawDeep t ≠ 0; rw [hd1, if_pos hfr]; omega
    rw [hfr] at cz1
    have cz2 : w1.cell? ⟨gz, n - 1, none⟩ = some (.int .i64 (n : Int)) := by simpa using cz1
    clear cz1 hd1
    have hn1 : n - 1 < t.length := by have := HM.out; omega
    obtain ⟨b0, o0, rfl, hnL⟩ := hx1 (n - 1) hn1
    obtain ⟨k0, -, -, -, -⟩ := hnL
    have HLK := letter_any (t[n - 1]'hn1).kind
    obtain ⟨lk, hlk⟩ : ∃ lk, letK (t[n - 1]'hn1).kind = lk := ⟨_, rfl⟩
    rw [hlk] at HLK
    obtain ⟨kd0, hkd0⟩ : ∃ kd0, (t[n - 1]'hn1).kind = kd0 := ⟨_, rfl⟩
    rw [hkd0] at k0 HLK
    have HLL : Hid (letK (ndAt t (t.length - 1)).kind = lk) := by
      show letK _ = _
      have e : t.length - 1 = n - 1 := by have := HM.out; omega
      rw [e, ndAt_get hn1, hlk]
    clear hlk hkd0
    by_cases hc99 : lk = 99
    rotate_left
    · have HF : Hid (¬ PlainS t) := by
        rintro ⟨-, -, h9, -⟩
        exact hc99 (HLL.out.symm.trans h9)
      have t9 : ((lk : Int) != 99) = true := by simp; omega
      clear hz hx1
      go_wp2_with fail
      refine (HLK w1).mono ?_
      rintro e w2 ⟨rfl, rfl⟩
      clear HLK cz2 k0
      go_wp2
      go_ret
      exact ⟨⟨false, rfl, by simp only [Bool.false_eq_true, false_iff]; exact HF.out⟩, hb⟩
    subst hc99
    go_wp2_with fail
    refine (HLK w1).mono ?_
    rintro e w2 ⟨rfl, rfl⟩
    clear HLK cz2 k0
    go_wp2
    go_loopw [5] (fun vi wr => ∃ k : Nat, k ≤ n ∧ vi = .int .i64 (k : Int) ∧ (∀ i, i < k → okP t i = true) ∧ Below w.heap.size w wr ∧ Below w2.heap.size w2 wr) (fun vi _ => n - (intOf vi).toNat)
    case atStart => exact ⟨0, Nat.zero_le _, rfl, fun i hi => absurd hi (Nat.not_lt_zero _), hb, Below.refl _ _⟩
    case round =>
      obtain ⟨k, hk, rfl, hall, hbw, hb2⟩ := hrel
      by_cases hkn : k < n
      rotate_left
      · obtain rfl : k = n := by omega
        have HF : Hid (PlainS t) := ⟨by have := HM.out; omega, HRD.out, HLL.out, fun i hi => hall i (by have := HM.out; omega)⟩
        clear hall hx1 hz
        go_wp2
        go_ret
        exact ⟨⟨true, rfl, by simp only [true_iff]; exact HF.out⟩, hbw⟩
      have hkt : k < t.length := by have := HM.out; omega
      have HALL : Hid (∀ i, i < k → okP t i = true) := hall
      clear hall
      obtain ⟨b, o, hbo, hn⟩ := hx1.below hb2 k hkt
      simp only [Option.some.injEq, Addr.mk.injEq, and_true] at hbo
      obtain ⟨rfl, rfl⟩ := hbo
      obtain ⟨x, hxk⟩ : ∃ x, t[k] = x := ⟨_, rfl⟩
      rw [hxk] at hn
      have HX : Hid (ndAt t k = x) := by show ndAt t k = x; rw [ndAt_get hkt, hxk]
      clear hxk
      obtain ⟨kd, nm, tx, ks, pl⟩ := x
      obtain ⟨c0, c1, c2, c3, c4⟩ := hn
      simp only at c0 c1 c2 c3 c4
      have HN : Hid (okP t k = (!barB kd && (ownB ⟨kd, nm, tx, ks, pl⟩ && (!tupP ⟨kd, nm, tx, ks, pl⟩ && fitsB (shapeP ⟨kd, nm, tx, ks, pl⟩) (starOf (shapeP ⟨kd, nm, tx, ks, pl⟩)) (kidsN t k))))) := by
        show okP t k = _
        unfold okP
        rw [HX.out]
      have HRET : Hid (okP t k = false → (false = true ↔ PlainS t)) := by
        intro h9
        simp only [Bool.false_eq_true, false_iff]
        intro h8
        rw [h8.2.2.2 k hkt] at h9
        cases h9
      have HSTEP : Hid (okP t k = true → ∀ i, i < k + 1 → okP t i = true) := by
        intro h9 i hi
        by_cases e : i = k
        · subst e; exact h9
        · exact HALL.out i (by omega)
      clear HALL HX
      obtain ⟨Si, hSi, hkt', hK⟩ := kids_atS HA.out k hkn
      have HKN : Hid (kidsN t k = ((Si.drop (Si.length - (t[k]).kids.toNat)).map (fun s => s.rt)).map (ndAt t)) := by
        show kidsN t k = _
        rw [kidsN_eq hSi hkt, List.map_map]
        rfl
      obtain ⟨K, hKe⟩ : ∃ K, Si.drop (Si.length - (t[k]).kids.toNat) = K := ⟨_, rfl⟩
      rw [hKe] at hK HKN
      have HK : Hid (KidsAt t ys k K) := hK
      have hKl : K.length ≤ 60000 := by have := hK.len; omega
      have HR : Hid (∀ j (h : j < (K.map (fun s => s.rt)).length), (K.map (fun s => s.rt))[j] < n) := by
        intro j h
        have h9 := (HK.out.mem j (by simpa using h)).2.2
        simp only [List.getElem_map]
        omega
      obtain ⟨q, hq⟩ : ∃ q, K.length = q := ⟨_, rfl⟩
      have HQ : Hid (K.length = q) := hq
      have HQR : Hid ((K.map (fun s => s.rt)).length = q) := by show _ = q; rw [List.length_map]; exact hq
      rw [hq] at hKl
      have hNat : natsI (K.map (fun s => s.rt)) = rts K := by
        unfold natsI rts
        rw [List.map_map]
        rfl
      clear hK hKe hSi hkt' hq
      have nW : NodeAt (wr.alloc (.cells #[.int .i64 kd, .int .i64 nm, .string tx, .int .i64 ks, .int .i64 pl] 34)) wr.heap.size 0 ⟨kd, nm, tx, ks, pl⟩ := by
        refine ⟨?_, ?_, ?_, ?_, ?_⟩ <;> (rw [cell_of_row _ _ _ _ _ _ (heap_alloc_new _ _)]; rfl)
      have bW := (Below.refl wr.heap.size wr).alloc (Nat.le_refl _) (.cells #[.int .i64 kd, .int .i64 nm, .string tx, .int .i64 ks, .int .i64 pl] 34)
      have b1W := Below.step hbw bW
      have b2W := Below.step hb2 bW
      have LK := letter_any kd
      obtain ⟨lk, hlk⟩ : ∃ lk, letK kd = lk := ⟨_, rfl⟩
      have OW := own_any ⟨kd, nm, tx, ks, pl⟩
      simp only at OW
      obtain ⟨ow, how⟩ : ∃ ow, ownB ⟨kd, nm, tx, ks, pl⟩ = ow := ⟨_, rfl⟩
      have SH := shapeP_any ⟨kd, nm, tx, ks, pl⟩
      simp only at SH
      have hbar : barB kd = (lk == 45 || lk == 116 || lk == 115 || kd == 78 || kd == 79) := by unfold barB; rw [hlk]
      rw [hlk] at LK
      rw [how] at OW
      rw [hbar, how] at HN
      have hlk2 : lk < 256 := by rw [← hlk]; exact letK_lt kd
      clear hlk how hbar
      by_cases h45 : lk = 45
      · subst h45
        go_wp2_with fail
        refine (LK _).mono ?_
        rintro e w3 ⟨rfl, rfl⟩
        generalize wr.alloc (.cells #[.int .i64 kd, .int .i64 nm, .string tx, .int .i64 ks, .int .i64 pl] 34) = W1 at nW bW b1W b2W ⊢
        obtain ⟨n0, n1, n2, n3, n4⟩ := nW
        simp only [Nat.zero_add] at n0 n1 n2 n3 n4
        have lW : wr.heap.size < W1.heap.size := lt_of_cell n0
        clear LK OW SH hz hx1 hbw hb2 bW c0 c1 c2 c3 c4
        go_wp2
        go_ret
        exact ⟨⟨false, rfl, HRET.out (by rw [HN.out]; simp)⟩, b1W⟩
      have t45 : ((lk : Int) == 45) = false := by simp; omega
      have t45n : (lk == 45) = false := by simpa using h45
      by_cases h116 : lk = 116
      · subst h116
        go_wp2_with fail
        refine (LK _).mono ?_
        rintro e w3 ⟨rfl, rfl⟩
        generalize wr.alloc (.cells #[.int .i64 kd, .int .i64 nm, .string tx, .int .i64 ks, .int .i64 pl] 34) = W1 at nW bW b1W b2W ⊢
        obtain ⟨n0, n1, n2, n3, n4⟩ := nW
        simp only [Nat.zero_add] at n0 n1 n2 n3 n4
        have lW : wr.heap.size < W1.heap.size := lt_of_cell n0
        clear LK OW SH hz hx1 hbw hb2 bW c0 c1 c2 c3 c4
        go_wp2
        go_ret
        exact ⟨⟨false, rfl, HRET.out (by rw [HN.out]; simp)⟩, b1W⟩
      have t116 : ((lk : Int) == 116) = false := by simp; omega
      have t116n : (lk == 116) = false := by simpa using h116
      by_cases h115 : lk = 115
      · subst h115
        go_wp2_with fail
        refine (LK _).mono ?_
        rintro e w3 ⟨rfl, rfl⟩
        generalize wr.alloc (.cells #[.int .i64 kd, .int .i64 nm, .string tx, .int .i64 ks, .int .i64 pl] 34) = W1 at nW bW b1W b2W ⊢
        obtain ⟨n0, n1, n2, n3, n4⟩ := nW
        simp only [Nat.zero_add] at n0 n1 n2 n3 n4
        have lW : wr.heap.size < W1.heap.size := lt_of_cell n0
        clear LK OW SH hz hx1 hbw hb2 bW c0 c1 c2 c3 c4
        go_wp2
        go_ret
        exact ⟨⟨false, rfl, HRET.out (by rw [HN.out]; simp)⟩, b1W⟩
      have t115 : ((lk : Int) == 115) = false := by simp; omega
      have t115n : (lk == 115) = false := by simpa using h115
      by_cases h78 : kd = 78
      · subst h78
        go_wp2_with fail
        refine (LK _).mono ?_
        rintro e w3 ⟨rfl, rfl⟩
        generalize wr.alloc (.cells #[.int .i64 78, .int .i64 nm, .string tx, .int .i64 ks, .int .i64 pl] 34) = W1 at nW bW b1W b2W ⊢
        obtain ⟨n0, n1, n2, n3, n4⟩ := nW
        simp only [Nat.zero_add] at n0 n1 n2 n3 n4
        have lW : wr.heap.size < W1.heap.size := lt_of_cell n0
        clear LK OW SH hz hx1 hbw hb2 bW c0 c1 c2 c3 c4
        go_wp2
        go_ret
        exact ⟨⟨false, rfl, HRET.out (by rw [HN.out]; simp)⟩, b1W⟩
      have t78 : (kd == 78) = false := by simpa using h78
      by_cases h79 : kd = 79
      · subst h79
        go_wp2_with fail
        refine (LK _).mono ?_
        rintro e w3 ⟨rfl, rfl⟩
        generalize wr.alloc (.cells #[.int .i64 79, .int .i64 nm, .string tx, .int .i64 ks, .int .i64 pl] 34) = W1 at nW bW b1W b2W ⊢
        obtain ⟨n0, n1, n2, n3, n4⟩ := nW
        simp only [Nat.zero_add] at n0 n1 n2 n3 n4
        have lW : wr.heap.size < W1.heap.size := lt_of_cell n0
        clear LK OW SH hz hx1 hbw hb2 bW c0 c1 c2 c3 c4
        go_wp2
        go_ret
        exact ⟨⟨false, rfl, HRET.out (by rw [HN.out]; simp)⟩, b1W⟩
      have t79 : (kd == 79) = false := by simpa using h79
      rw [t45n, t116n, t115n, t78, t79] at HN
      simp only [Bool.or_false, Bool.not_false, Bool.true_and] at HN
      go_wp2_with fail
      refine (LK _).mono ?_
      rintro e w3 ⟨rfl, rfl⟩
      generalize wr.alloc (.cells #[.int .i64 kd, .int .i64 nm, .string tx, .int .i64 ks, .int .i64 pl] 34) = W1 at nW bW b1W b2W ⊢
      obtain ⟨n0, n1, n2, n3, n4⟩ := nW
      simp only [Nat.zero_add] at n0 n1 n2 n3 n4
      have lW : wr.heap.size < W1.heap.size := lt_of_cell n0
      clear LK
      cases ow
      · go_wp2_with fail
        refine (OW _).mono ?_
        rintro e w4 ⟨rfl, hb4⟩
        have b1 := Below.step b1W hb4
        clear OW SH hz hx1 hbw hb2 bW c0 c1 c2 c3 c4 n0 n1 n2 n3 n4 hb4
        go_wp2
        go_ret
        exact ⟨⟨false, rfl, HRET.out (by rw [HN.out]; simp)⟩, b1⟩
      go_wp2_with fail
      refine (OW _).mono ?_
      rintro e w4 ⟨rfl, hb4⟩
      have b1 := Below.step b1W hb4
      have b2 := Below.step b2W hb4
      have nW4 : NodeAt w4 wr.heap.size 0 ⟨kd, nm, tx, ks, pl⟩ := by
        have h9 : NodeAt W1 wr.heap.size 0 ⟨kd, nm, tx, ks, pl⟩ := ⟨n0, n1, n2, n3, n4⟩
        exact h9.below hb4
      obtain ⟨m0, m1, m2, m3, m4⟩ := nW4
      simp only [Nat.zero_add] at m0 m1 m2 m3 m4
      have lW4 : wr.heap.size < w4.heap.size := lt_of_cell m0
      clear OW hbw hb2 bW c0 c1 c2 c3 c4 n0 n1 n2 n3 n4 hb4 b1W b2W
      have N4 : NodeAt w4 wr.heap.size 0 ⟨kd, nm, tx, ks, pl⟩ := ⟨by simpa using m0, by simpa using m1, by simpa using m2, by simpa using m3, by simpa using m4⟩
      have hbd : Below w4.heap.size w4 w4.drew := Below.drew (Below.refl _ _)
      cases htu : tupP ⟨kd, nm, tx, ks, pl⟩
      rotate_left
      · rw [htu] at HN
        have hks : ks = 1 := by
          unfold tupP at htu
          simp at htu
          exact htu.1
        subst hks
        have hkd : kd = 75 ∨ kd = 20 := by
          unfold tupP at htu
          simp at htu
          omega
        have HF : Hid (false = true ↔ PlainS t) := HRET.out (by rw [HN.out]; simp)
        clear HN HRET HSTEP SH hx1 hz htu
        rcases hkd with rfl | rfl
        all_goals
          go_wp2_with fail
          go_quiet (fail)
          have b8 := Below.step b1 (quietB w4 nq)
          go_wp2
          go_ret
          exact ⟨⟨false, rfl, HF.out⟩, b8⟩
      rw [htu] at HN
      have hnt : ks = 1 → kd ≠ 75 ∧ kd ≠ 20 := by
        intro h8
        subst h8
        unfold tupP at htu
        simp at htu
        omega
      clear htu
      have hz4 : Ints w4 w.heap.size gz cz n (ys.map szOf) := hz.below b2
      have hx4 : Nodes w4 (some ⟨b0, o0, none⟩) t := hx1.below b2
      clear hz hx1
      have RT := fun (W : World) (hW : Below w4.heap.size w4 W) => roots60_any t ys K n k q HM h6 HK HQ hkn HYL (some ⟨b0, o0, none⟩) cap gz cz w.heap.size W (hx4.below hW) (hz4.below hW)
      have FT := fun (W : World) (hW : Below w4.heap.size w4 W) (G : Nat) (hG : Ints W w4.heap.size G q q (rts K)) => fits_shapeP ⟨kd, nm, tx, ks, pl⟩ t n HM (K.map (fun s => s.rt)) q HQR hKl HR (some ⟨b0, o0, none⟩) cap G w4.heap.size W (hx4.below hW) (by rw [hNat]; exact hG)
      obtain ⟨sh, hsh⟩ : ∃ sh, shapeP ⟨kd, nm, tx, ks, pl⟩ = sh := ⟨_, rfl⟩
      rw [hsh] at SH FT HN
      obtain ⟨z, hzz⟩ : ∃ z, fitsB sh (starOf sh) ((K.map (fun s => s.rt)).map (ndAt t)) = z := ⟨_, rfl⟩
      rw [hzz] at FT
      rw [HKN.out, hzz] at HN
      clear hsh hzz hx4 hz4
      by_cases hk1 : ks = 1
      · obtain ⟨h75, h20⟩ := hnt hk1
        subst hk1
        have u75 : (kd == 75) = false := by simpa using h75
        have u20 : (kd == 20) = false := by simpa using h20
        have N4s : ∀ W : World, Below w4.heap.size w4 W → W.cell? ⟨wr.heap.size, 0, none⟩ = some (.int .i64 kd) ∧ W.cell? ⟨wr.heap.size, 1, none⟩ = some (.int .i64 nm) ∧ W.cell? ⟨wr.heap.size, 2, none⟩ = some (.string tx) ∧ W.cell? ⟨wr.heap.size, 3, none⟩ = some (.int .i64 1) ∧ W.cell? ⟨wr.heap.size, 4, none⟩ = some (.int .i64 pl) := by
          intro W hW
          obtain ⟨p0, p1, p2, p3, p4⟩ := N4.below hW
          simp only [Nat.zero_add] at p0 p1 p2 p3 p4
          exact ⟨p0, p1, p2, p3, p4⟩
        go_wp2_with fail
        go_region_held3 (fun w' => w'.cell? ⟨wr.heap.size, 0, none⟩ = some (.int .i64 kd) ∧ w'.cell? ⟨wr.heap.size, 1, none⟩ = some (.int .i64 nm) ∧ w'.cell? ⟨wr.heap.size, 2, none⟩ = some (.string tx) ∧ w'.cell? ⟨wr.heap.size, 3, none⟩ = some (.int .i64 1) ∧ w'.cell? ⟨wr.heap.size, 4, none⟩ = some (.int .i64 pl))
            (first | exact ⟨m0, m1, m2, m3, m4⟩ | exact ⟨p0, p1, p2, p3, p4⟩ | exact hS6 | exact hS7)
            (first
            | (go_at_call 32; refine (RT _ hbd).mono ?_; rintro e w5 ⟨G, rfl, hG, hb5⟩; have hbe := Below.step hbd hb5; have hS5 := N4s w5 hbe; obtain ⟨p0, p1, p2, p3, p4⟩ := hS5; have l5 : wr.heap.size < w5.heap.size := lt_of_cell p0)
            | (go_at_call 33; refine (SH _).mono ?_; rintro e w6 ⟨rfl, hb6⟩; have hbf := Below.step hbe hb6; have hS6 := N4s w6 hbf)
            | (go_at_call 31; refine (FT _ hbf G (hG.below hb6)).mono ?_; rintro e w7 ⟨rfl, hb7⟩; have hbg := Below.step hbf hb7; have hS7 := N4s w7 hbg))
        all_goals
          have b9 := Below.step b1 hbg
          have b8 := Below.step b2 hbg
          clear RT SH FT hbd hbe hbf hbg hb5 hb6 hb7 hG m0 m1 m2 m3 m4 N4 N4s p0 p1 p2 p3 p4
          cases z
          · have HF : Hid (false = true ↔ PlainS t) := HRET.out (by rw [HN.out]; rfl)
            clear HN HRET HSTEP
            go_wp2
            go_ret
            exact ⟨⟨false, rfl, HF.out⟩, b9⟩
          · have HF : Hid (∀ i, i < k + 1 → okP t i = true) := HSTEP.out (by rw [HN.out]; rfl)
            clear HN HRET HSTEP
            go_wp2
            go_roundw
            case rel => exact ⟨k + 1, by omega, by go_num, HF.out, b9, b8⟩
            case measure => simp [intOf]; omega
      · have tk1 : (ks == 1) = false := by simpa using hk1
        have N4s : ∀ W : World, Below w4.heap.size w4 W → W.cell? ⟨wr.heap.size, 0, none⟩ = some (.int .i64 kd) ∧ W.cell? ⟨wr.heap.size, 1, none⟩ = some (.int .i64 nm) ∧ W.cell? ⟨wr.heap.size, 2, none⟩ = some (.string tx) ∧ W.cell? ⟨wr.heap.size, 3, none⟩ = some (.int .i64 ks) ∧ W.cell? ⟨wr.heap.size, 4, none⟩ = some (.int .i64 pl) := by
          intro W hW
          obtain ⟨p0, p1, p2, p3, p4⟩ := N4.below hW
          simp only [Nat.zero_add] at p0 p1 p2 p3 p4
          exact ⟨p0, p1, p2, p3, p4⟩
        go_wp2_with fail
        have hu : undef = Value.tuple #[] := rfl
        first | (go_region_with (first
            | (go_at_call 32; refine (RT _ hbd).mono ?_; rintro e w5 ⟨G, rfl, hG, hb5⟩; have hbe := Below.step hbd hb5; have hS5 := N4s w5 hbe; obtain ⟨p0, p1, p2, p3, p4⟩ := hS5; have l5 : wr.heap.size < w5.heap.size := lt_of_cell p0)
            | (go_at_call 33; refine (SH _).mono ?_; rintro e w6 ⟨rfl, hb6⟩; have hbf := Below.step hbe hb6; have hS6 := N4s w6 hbf)
            | (go_at_call 31; refine (FT _ hbf G (hG.below hb6)).mono ?_; rintro e w7 ⟨rfl, hb7⟩; have hbg := Below.step hbf hb7; have hS7 := N4s w7 hbg))) | fail
        all_goals (try rw [← hu])
        all_goals clear hu
        all_goals
          have b9 := Below.step b1 hbg
          have b8 := Below.step b2 hbg
          clear RT SH FT hbd hbe hbf hbg hb5 hb6 hb7 hG m0 m1 m2 m3 m4 N4 N4s p0 p1 p2 p3 p4
          cases z
          · have HF : Hid (false = true ↔ PlainS t) := HRET.out (by rw [HN.out]; rfl)
            clear HN HRET HSTEP
            go_wp2
            go_ret
            exact ⟨⟨false, rfl, HF.out⟩, b9⟩
          · have HF : Hid (∀ i, i < k + 1 → okP t i = true) := HSTEP.out (by rw [HN.out]; rfl)
            clear HN HRET HSTEP
            go_wp2
            go_roundw
            case rel => exact ⟨k + 1, by omega, by go_num, HF.out, b9, b8⟩
            case measure => simp [intOf]; omega
end Go.Proofs.YtedlofpgddjpgaaGreat

namespace Go.Proofs.YtedlofpgddjpgaaGreat
open Go.RowKit Go.Shelf
def IterW {α : Type} (F : Fence) (n : Nat) (P : Program) (g : Nat) (lb : Array Value) (encs : α → Array Value) (S Sp : List α → Prop) (Fit : List α → α → World → Prop) (Rd : World → Prop) (N n₀ : Nat) (w : World) : Prop :=
  ∀ (J Jx : List α → World → Prop), (∀ s A C, J s A → Below (w.heap.size + 2) A C → J s C) → (∀ s A, J s A → Rd A) →
    (∀ pre x W1, J pre W1 → pre.length < N → Fit pre x W1 → YieldAt F (n - 1) P (w.heap.size + 1) (encs x) W1 fun e W' =>
      (e = .returned (.bool true) ∧ J (pre ++ [x]) W' ∧ But (Mine n₀ (w.heap.size + 2)) W1 W') ∨ (e = .returned (.bool false) ∧ Jx (pre ++ [x]) W')) →
    ∀ W, Below w.heap.size w W → W.heap.size = w.heap.size + 2 → J [] W →
    CallsIn F n P g (#[.func (.yield (w.heap.size + 1)) #[] #[]] ++ lb) W fun e W' => (∃ v, e = .returned v) ∧ ((∃ xs, S xs ∧ J xs W') ∨ (∃ pre, Sp pre ∧ Jx pre W'))
theorem wpIn_rangeW {F : Fence} {n : Nat} {P : Program} {α : Type} {g : Operand} {ps : Array Tmp} {assign body : Code} {Q : Exit → Act → World → Prop} {a : Act} {w : World}
    (hro : F.round = none) (h1 : 1 ≤ n) {gf : Nat} {lb : Array Value} (hg : a.eval g = .func (.func gf) #[] lb) (hFg : F.fn gf) (eg : ∀ args w, (callFunc gf args).run P w = .ok (.enter gf args) w)
    {encs : α → Array Value} {S Sp : List α → Prop} {Fit : List α → α → World → Prop} {Rd : World → Prop} {N : Nat} (n₀ : Nat) (hn₀ : n₀ ≤ w.heap.size) (hseq : IterW F (n - 1) P gf lb encs S Sp Fit Rd N n₀ w) (hps : ∀ x, (encs x).size = ps.size)
    (I : List α → World → Prop) (Ix : Code → List α → World → Prop) (hI : ∀ s A C, I s A → Below w.heap.size A C → I s C) (hIx : ∀ c s A C, Ix c s A → But (· = w.heap.size + 1) A C → Ix c s C) (hRd : ∀ s A, I s A → Rd A) (h0 : I [] w)
    (hround : ∀ (pre : List α) (x : α) (W : World), I pre W → pre.length < N → Fit pre x W → w.heap.size + 1 < W.heap.size →
      assign.wpIn (F.inRound (w.heap.size + 1)) (n - 1 - 1) P
        (Exit.then (fun a' Wa => But (Mine n₀ w.heap.size) W Wa ∧ ∀ Wb, But (· = w.heap.size + 1) Wa Wb → body.wpIn (F.inRound (w.heap.size + 1)) (n - 1 - 1) P (leftAt n₀ w.heap.size I Ix (pre ++ [x]) Wb) a' Wb) (fun _ _ _ => False))
        { tmps := (ps.zip (encs x)).foldl (fun t (p, v) => t.setIfInBounds p v) a.tmps, defers := [] } W)
    (hdone : ∀ (xs : List α) (W : World), S xs → I xs W → W.heap[w.heap.size]? = some (.deferred (some [])) → Q .normal { a with defers := { target := .collected w.heap.size, args := #[] } :: a.defers } W)
    (hstop : ∀ (c : Code) (pre : List α) (W : World), Sp pre → Ix c pre W → W.heap[w.heap.size]? = some (.deferred (some [])) → c.wpIn F n P Q { a with defers := { target := .collected w.heap.size, args := #[] } :: a.defers } W) :
    (Code.rangeFunc g ps assign body).wpIn F n P Q a w := by
  refine wpIn_rangeFunc ?_
  intro fn hfn
  rw [hro]
  obtain ⟨B, hB⟩ : ∃ B, B = w.heap.size := ⟨_, rfl⟩
  obtain ⟨rec, hrec⟩ : ∃ rec : LoopState → Option Code → Loop, rec = fun st pe => { state := st, pending := pe, fn, tmps := a.tmps, params := ps, assign, body, defers := w.heap.size } := ⟨_, rfl⟩
  obtain ⟨W1, hW1⟩ : ∃ W1, (w.alloc (.deferred (some []))).alloc (.loop (rec .ready none)) = W1 := ⟨_, rfl⟩
  have hs1 : W1.heap.size = w.heap.size + 2 := by rw [← hW1]; simp
  have hb1 : Below w.heap.size w W1 := by rw [← hW1]; exact ((Below.refl _ w).alloc (Nat.le_refl _) _).alloc (by simp) _
  have hL1 : W1.heap[w.heap.size + 1]? = some (.loop (rec .ready none)) := by
    rw [← hW1]; have := World.alloc_heap_new (w.alloc (.deferred (some []))) (.loop (rec .ready none)); rwa [World.size_alloc] at this
  have hK1 : W1.heap[w.heap.size]? = some (.deferred (some [])) := by
    rw [← hW1]; exact (Below.heap_alloc _ _ _ (by simp)).trans (World.alloc_heap_new w _)
  refine ⟨w.heap.size + 1, [{ target := .collected w.heap.size, args := #[] }], W1, { target := .fn (.func gf) lb, args := #[.func (.yield (w.heap.size + 1)) #[] #[]] }, W1, gf,
    #[.func (.yield (w.heap.size + 1)) #[] #[]] ++ lb, W1, ?_, ?_, ?_, ?_, fun _ => h1, ?_⟩
  · rw [← hW1, hrec]; exact run_enterLoop_outer _ _ _ _ _
  · simp only [resolve, hg]
    simp [go_sem]
  · intro f' hf'; simp [Target.leads] at hf'; subst hf'; exact hFg
  · simp [invoke, go_sem, eg]
  · refine (hseq
      (fun pre W => I pre W ∧ W.heap[w.heap.size + 1]? = some (.loop (rec .ready none)) ∧ W.heap[w.heap.size]? = some (.deferred (some [])))
      (fun pre W => ∃ c, Ix c pre W ∧ W.heap[w.heap.size + 1]? = some (.loop (rec .done (some c))) ∧ W.heap[w.heap.size]? = some (.deferred (some [])))
      (fun s A C hs hb => ⟨hI s A C hs.1 (hb.mono (by omega)), (hb.block _ (by omega)).trans hs.2.1, (hb.block _ (by omega)).trans hs.2.2⟩)
      (fun s A hs => hRd s A hs.1)
      ?_ W1 hb1 hs1 ⟨hI _ _ _ h0 hb1, hL1, hK1⟩).mono ?_
    · rintro pre x W ⟨hi, hl, hk⟩ hlen hfit
      have hlt : w.heap.size + 1 < W.heap.size := (Array.getElem?_eq_some_iff.1 hl).1
      have hy := run_yield (P := P) (args := encs x) hl (by rw [hrec]; exact hps x)
      rw [hrec] at hy
      refine ⟨fn, _, assign, body, hy, roundIn_of_wpIn hfn (wpIn_mono (hround pre x W hi hlen hfit hlt) ?_)⟩
      clear hy
      intro e a' Wa hp
      cases e with
      | normal =>
        obtain ⟨hba, hbody⟩ := hp
        have hla := (hba.block (w.heap.size + 1) hlt (fun h => by have := h.2; omega)).trans hl
        have hka := (hba.block w.heap.size (by omega) (fun h => by have := h.2; omega)).trans hk
        have hlta : w.heap.size + 1 < Wa.heap.size := (Array.getElem?_eq_some_iff.1 hla).1
        refine ⟨_, run_beginRound hla (by rw [hrec]), ?_⟩
        have hbb : But (· = w.heap.size + 1) Wa (Wa.putObj (w.heap.size + 1) (.loop { rec .ready none with state := .busy })) := But.putObj _ _ _ rfl
        have hl2 : (Wa.putObj (w.heap.size + 1) (.loop { rec .ready none with state := .busy })).heap[w.heap.size + 1]? = some (.loop { rec .ready none with state := .busy }) := World.putObj_heap_same hlta
        have hk2 : (Wa.putObj (w.heap.size + 1) (.loop { rec .ready none with state := .busy })).heap[w.heap.size]? = some (.deferred (some [])) := (World.putObj_heap_other (by omega)).trans hka
        have hab : But (Mine n₀ (w.heap.size + 2)) W (Wa.putObj (w.heap.size + 1) (.loop { rec .ready none with state := .busy })) :=
          (hba.mono (fun k hk => ⟨hk.1, by have := hk.2; omega⟩)).trans (hbb.mono (fun k hk => ⟨by omega, by omega⟩))
        refine wpIn_mono (hbody _ hbb) ?_
        have fin : ∀ (jump : Option Code) (W3 : World), But (Mine n₀ w.heap.size) (Wa.putObj (w.heap.size + 1) (.loop { rec .ready none with state := .busy })) W3 →
            (Instr.endRound (w.heap.size + 1) jump).run P W3 = .ok (.bool jump.isNone) (W3.putObj (w.heap.size + 1) (.loop (rec (if jump.isNone then .ready else .done) jump))) ∧
            (W3.putObj (w.heap.size + 1) (.loop (rec (if jump.isNone then .ready else .done) jump))).heap[w.heap.size + 1]? = some (.loop (rec (if jump.isNone then .ready else .done) jump)) ∧
            (W3.putObj (w.heap.size + 1) (.loop (rec (if jump.isNone then .ready else .done) jump))).heap[w.heap.size]? = some (.deferred (some [])) ∧
            But (· = w.heap.size + 1) W3 (W3.putObj (w.heap.size + 1) (.loop (rec (if jump.isNone then .ready else .done) jump))) ∧
            But (Mine n₀ (w.heap.size + 2)) W (W3.putObj (w.heap.size + 1) (.loop (rec (if jump.isNone then .ready else .done) jump))) := fun jump W3 hk3 => by
          have hl3 := (hk3.block (w.heap.size + 1) (by simp; omega) (fun h => by have := h.2; omega)).trans hl2
          have hd3 := (hk3.block w.heap.size (by simp; omega) (fun h => by have := h.2; omega)).trans hk2
          have hr := run_endRound (P := P) jump hl3
          have hlt3 := (Array.getElem?_eq_some_iff.1 hl3).1
          have hput : But (· = w.heap.size + 1) W3 (W3.putObj (w.heap.size + 1) (.loop (rec (if jump.isNone then .ready else .done) jump))) := But.putObj _ _ _ rfl
          refine ⟨by rw [hrec] at hr ⊢; exact hr, World.putObj_heap_same hlt3, (World.putObj_heap_other (by omega)).trans hd3, hput, ?_⟩
          exact (hab.trans (hk3.mono (fun k hk => ⟨hk.1, by have := hk.2; omega⟩))).trans (hput.mono (fun k hk => ⟨by omega, by omega⟩))
        rintro e a3 W3 hp
        cases e with
        | normal =>
          obtain ⟨hk3, hi3⟩ := hp
          obtain ⟨hr, hl4, hk4, hb4, hbut⟩ := fin none W3 hk3
          have hs3 : w.heap.size ≤ W3.heap.size := by have := hk3.size; simp at this; omega
          exact ⟨_, _, hr, .inl ⟨rfl, ⟨hI _ _ _ hi3 (hb4.below hs3 (fun k hk => by omega)), hl4, hk4⟩, hbut⟩⟩
        | ret =>
          obtain ⟨hk3, hi3⟩ := hp
          obtain ⟨hr, hl4, hk4, hb4, hbut⟩ := fin (some .ret) W3 hk3
          exact ⟨_, _, hr, .inr ⟨rfl, .ret, hIx _ _ _ _ hi3 hb4, hl4, hk4⟩⟩
        | exit id =>
          obtain ⟨hk3, hi3⟩ := hp
          obtain ⟨hr, hl4, hk4, hb4, hbut⟩ := fin (some (.exit id)) W3 hk3
          exact ⟨_, _, hr, .inr ⟨rfl, .exit id, hIx _ _ _ _ hi3 hb4, hl4, hk4⟩⟩
        | goto t =>
          obtain ⟨hk3, hi3⟩ := hp
          obtain ⟨hr, hl4, hk4, hb4, hbut⟩ := fin (some (.goto t)) W3 hk3
          exact ⟨_, _, hr, .inr ⟨rfl, .goto t, hIx _ _ _ _ hi3 hb4, hl4, hk4⟩⟩
        | panic ch => exact hp.elim
        | outgrown => exact hp.elim
      | ret => exact hp.elim
      | exit id => exact hp.elim
      | goto t => exact hp.elim
      | panic ch => exact hp.elim
      | outgrown => exact hp.elim
    · rintro e W2 ⟨⟨v, rfl⟩, (⟨xs, hS, hi, hl, hk⟩ | ⟨pre, hSp, c, hi, hl, hk⟩)⟩
      · have hlt2 := (Array.getElem?_eq_some_iff.1 hl).1
        have hput : ∀ o, Below w.heap.size W2 (W2.putObj (w.heap.size + 1) o) := fun o => (But.putObj (S := (· = w.heap.size + 1)) W2 _ o rfl).below (by omega) (fun k hk => by omega)
        exact ⟨none, _, by have := run_endLoop (P := P) hl (by rw [hrec]; simp); rw [hrec] at this; exact this, hdone xs _ hS (hI _ _ _ hi (hput _)) ((World.putObj_heap_other (by omega)).trans hk)⟩
      · have hput : ∀ o, But (· = w.heap.size + 1) W2 (W2.putObj (w.heap.size + 1) o) := fun o => But.putObj W2 _ o rfl
        exact ⟨some c, _, by have := run_endLoop (P := P) hl (by rw [hrec]; simp); rw [hrec] at this; exact this, hstop c pre _ hSp (hIx _ _ _ _ hi (hput _)) ((World.putObj_heap_other (by omega)).trans hk)⟩
end Go.Proofs.YtedlofpgddjpgaaGreat
