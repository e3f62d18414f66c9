import Derived.Test.YtekogjmmfhbinaaWBA
import Derived.Deep.RegionWith
import Derived.BigQuiet
import Derived.BigCall
import Derived.BigGuard
import Derived.Deep.RegionHeld3
namespace Go.Proofs.Ytekogjmmfhbinaa

open Go.RowKit

/-- A tuple of one. -/
def tupP (x : Nd) : Bool := x.kids == 1 && (x.kind == 75 || x.kind == 20)

/-- A kind that plain code has nothing for. -/
def barB (k : Int) : Bool := letK k == 45 || letK k == 116 || letK k == 115 || k == 78 || k == 79

/-- What the model asks of a node of plain code and of its kids. -/
def okP (t : List Nd) (k : Nat) : Bool :=
  !barB (ndAt t k).kind && (ownB (ndAt t k) && (!tupP (ndAt t k) && fitsB (shapeP (ndAt t k)) (starOf (shapeP (ndAt t k))) (kidsN t k)))

/-- The model's answer. -/
def PlainS (t : List Nd) : Prop := t.length ≤ 60000 ∧ rawDeep t ≠ 0 ∧ letK (ndAt t (t.length - 1)).kind = 99 ∧ ∀ i, i < t.length → okP t i = true

set_option maxRecDepth 100000 in
set_option maxHeartbeats 20000000 in
theorem specPlain_any (t : List Nd) (m : Nat) (HM : Hid (t.length = m)) (hm : m ≤ 1048576) (ao : Option Addr) (cap : Nat) (w : World) (hx : Nodes w ao t) :
    Calls Try.prog 15 #[.slice ao m cap] w fun e w' => (∃ b : Bool, e = .returned (.bool b) ∧ (b = true ↔ PlainS t)) ∧ Below w.heap.size w w' := by
  by_cases h0 : m = 0
  · subst h0
    have HF : Hid (¬ PlainS t) := by
      rintro ⟨-, h9, -⟩
      have := (raw_after h9).1
      have := HM.out
      omega
    clear hx
    go_enter Try.func15, Try.ntmps15
    go_wp2
    go_ret
    exact ⟨⟨false, rfl, by simp only [Bool.false_eq_true, false_iff]; exact HF.out⟩, Below.refl _ _⟩
  by_cases h6 : m ≤ 60000
  rotate_left
  · have HF : Hid (¬ PlainS t) := by
      rintro ⟨h9, -⟩
      have := HM.out
      omega
    have h0' : ((m : Int) == 0) = false := by simp; omega
    clear hx
    go_enter Try.func15, Try.ntmps15
    go_wp2
    go_ret
    exact ⟨⟨false, rfl, by simp only [Bool.false_eq_true, false_iff]; exact HF.out⟩, Below.refl _ _⟩
  have h0' : ((m : Int) == 0) = false := by simp; omega
  go_enter Try.func15, Try.ntmps15
  go_wp2_with fail
  refine (sizes60_any t m HM h6 ao cap w hx).mono ?_
  rintro e w1 ⟨gz, cz, n, rfl, hz, hb⟩
  have hx1 := hx.below hb
  clear hx
  cases hA : after t m with
  | none =>
    have HF : Hid (¬ PlainS t) := by
      rintro ⟨-, h9, -⟩
      exact h9 (raw_none (by rw [HM.out]; exact hA))
    have hn0 : n = 0 := by
      have h9 := hz.1
      unfold sizesOf at h9
      rw [HM.out, hA] at h9
      simpa using h9.symm
    subst hn0
    clear hz hA hx1
    go_wp2
    go_ret
    exact ⟨⟨false, rfl, by simp only [Bool.false_eq_true, false_iff]; exact HF.out⟩, hb⟩
  | some p =>
    obtain ⟨S, ys⟩ := p
    have HA : Hid (after t m = some (S, ys)) := hA
    have hsz : sizesOf t = ys.map szOf := by unfold sizesOf; rw [HM.out, hA]
    rw [hsz] at hz
    have hyl := (after_fine hA).len
    have hnm : n = m := by have h9 := hz.1; simp at h9; omega
    subst hnm
    obtain ⟨s, hs, hd1, hd3, hd4, hd5⟩ := raw_some HM.out (by omega) hA
    have cz1 : w1.cell? ⟨gz, n - 1, none⟩ = some (.int .i64 ((n : Int) - (s.fr : Int))) := by
      rw [hz.at (n - 1) (by simp; omega)]
      obtain ⟨h8, h9⟩ := List.getElem?_eq_some_iff.1 hs
      simp [szOf, h9]
      omega
    have HYL : Hid (ys.length = n) := hyl
    have hbz := hz.block
    clear hA hsz hs hyl
    by_cases hfr : s.fr = 0
    rotate_left
    · have HF : Hid (¬ PlainS t) := by
        rintro ⟨-, h9, -⟩
        exact h9 (by rw [hd1, if_neg hfr])
      have hne : (((n : Int) - (s.fr : Int)) != (n : Int)) = true := by simp; omega
      clear hz hx1
      go_wp2
      go_ret
      exact ⟨⟨false, rfl, by simp only [Bool.false_eq_true, false_iff]; exact HF.out⟩, hb⟩
    have HRD : Hid (rawDeep t ≠ 0) := by show rawDeep t ≠ 0; rw [hd1, if_pos hfr]; omega
    rw [hfr] at cz1
    have cz2 : w1.cell? ⟨gz, n - 1, none⟩ = some (.int .i64 (n : Int)) := by simpa using cz1
    clear cz1 hd1
    have hn1 : n - 1 < t.length := by have := HM.out; omega
    obtain ⟨b0, o0, rfl, hnL⟩ := hx1 (n - 1) hn1
    obtain ⟨k0, -, -, -, -⟩ := hnL
    have HLK := letter_any (t[n - 1]'hn1).kind
    obtain ⟨lk, hlk⟩ : ∃ lk, letK (t[n - 1]'hn1).kind = lk := ⟨_, rfl⟩
    rw [hlk] at HLK
    obtain ⟨kd0, hkd0⟩ : ∃ kd0, (t[n - 1]'hn1).kind = kd0 := ⟨_, rfl⟩
    rw [hkd0] at k0 HLK
    have HLL : Hid (letK (ndAt t (t.length - 1)).kind = lk) := by
      show letK _ = _
      have e : t.length - 1 = n - 1 := by have := HM.out; omega
      rw [e, ndAt_get hn1, hlk]
    clear hlk hkd0
    by_cases hc99 : lk = 99
    rotate_left
    · have HF : Hid (¬ PlainS t) := by
        rintro ⟨-, -, h9, -⟩
        exact hc99 (HLL.out.symm.trans h9)
      have t9 : ((lk : Int) != 99) = true := by simp; omega
      clear hz hx1
      go_wp2_with fail
      refine (HLK w1).mono ?_
      rintro e w2 ⟨rfl, rfl⟩
      clear HLK cz2 k0
      go_wp2
      go_ret
      exact ⟨⟨false, rfl, by simp only [Bool.false_eq_true, false_iff]; exact HF.out⟩, hb⟩
    subst hc99
    go_wp2_with fail
    refine (HLK w1).mono ?_
    rintro e w2 ⟨rfl, rfl⟩
    clear HLK cz2 k0
    go_wp2
    go_loopw [5] (fun vi wr => ∃ k : Nat, k ≤ n ∧ vi = .int .i64 (k : Int) ∧ (∀ i, i < k → okP t i = true) ∧ Below w.heap.size w wr ∧ Below w2.heap.size w2 wr) (fun vi _ => n - (intOf vi).toNat)
    case atStart => exact ⟨0, Nat.zero_le _, rfl, fun i hi => absurd hi (Nat.not_lt_zero _), hb, Below.refl _ _⟩
    case round =>
      obtain ⟨k, hk, rfl, hall, hbw, hb2⟩ := hrel
      by_cases hkn : k < n
      rotate_left
      · obtain rfl : k = n := by omega
        have HF : Hid (PlainS t) := ⟨by have := HM.out; omega, HRD.out, HLL.out, fun i hi => hall i (by have := HM.out; omega)⟩
        clear hall hx1 hz
        go_wp2
        go_ret
        exact ⟨⟨true, rfl, by simp only [true_iff]; exact HF.out⟩, hbw⟩
      have hkt : k < t.length := by have := HM.out; omega
      have HALL : Hid (∀ i, i < k → okP t i = true) := hall
      clear hall
      obtain ⟨b, o, hbo, hn⟩ := hx1.below hb2 k hkt
      simp only [Option.some.injEq, Addr.mk.injEq, and_true] at hbo
      obtain ⟨rfl, rfl⟩ := hbo
      obtain ⟨x, hxk⟩ : ∃ x, t[k] = x := ⟨_, rfl⟩
      rw [hxk] at hn
      have HX : Hid (ndAt t k = x) := by show ndAt t k = x; rw [ndAt_get hkt, hxk]
      clear hxk
      obtain ⟨kd, nm, tx, ks, pl⟩ := x
      obtain ⟨c0, c1, c2, c3, c4⟩ := hn
      simp only at c0 c1 c2 c3 c4
      have HN : Hid (okP t k = (!barB kd && (ownB ⟨kd, nm, tx, ks, pl⟩ && (!tupP ⟨kd, nm, tx, ks, pl⟩ && fitsB (shapeP ⟨kd, nm, tx, ks, pl⟩) (starOf (shapeP ⟨kd, nm, tx, ks, pl⟩)) (kidsN t k))))) := by
        show okP t k = _
        unfold okP
        rw [HX.out]
      have HRET : Hid (okP t k = false → (false = true ↔ PlainS t)) := by
        intro h9
        simp only [Bool.false_eq_true, false_iff]
        intro h8
        rw [h8.2.2.2 k hkt] at h9
        cases h9
      have HSTEP : Hid (okP t k = true → ∀ i, i < k + 1 → okP t i = true) := by
        intro h9 i hi
        by_cases e : i = k
        · subst e; exact h9
        · exact HALL.out i (by omega)
      clear HALL HX
      obtain ⟨Si, hSi, hkt', hK⟩ := kids_atS HA.out k hkn
      have HKN : Hid (kidsN t k = ((Si.drop (Si.length - (t[k]).kids.toNat)).map (fun s => s.rt)).map (ndAt t)) := by
        show kidsN t k = _
        rw [kidsN_eq hSi hkt, List.map_map]
        rfl
      obtain ⟨K, hKe⟩ : ∃ K, Si.drop (Si.length - (t[k]).kids.toNat) = K := ⟨_, rfl⟩
      rw [hKe] at hK HKN
      have HK : Hid (KidsAt t ys k K) := hK
      have hKl : K.length ≤ 60000 := by have := hK.len; omega
      have HR : Hid (∀ j (h : j < (K.map (fun s => s.rt)).length), (K.map (fun s => s.rt))[j] < n) := by
        intro j h
        have h9 := (HK.out.mem j (by simpa using h)).2.2
        simp only [List.getElem_map]
        omega
      obtain ⟨q, hq⟩ : ∃ q, K.length = q := ⟨_, rfl⟩
      have HQ : Hid (K.length = q) := hq
      have HQR : Hid ((K.map (fun s => s.rt)).length = q) := by show _ = q; rw [List.length_map]; exact hq
      rw [hq] at hKl
      have hNat : natsI (K.map (fun s => s.rt)) = rts K := by
        unfold natsI rts
        rw [List.map_map]
        rfl
      clear hK hKe hSi hkt' hq
      have nW : NodeAt (wr.alloc (.cells #[.int .i64 kd, .int .i64 nm, .string tx, .int .i64 ks, .int .i64 pl] 39)) wr.heap.size 0 ⟨kd, nm, tx, ks, pl⟩ := by
        refine ⟨?_, ?_, ?_, ?_, ?_⟩ <;> (rw [cell_of_row _ _ _ _ _ _ (heap_alloc_new _ _)]; rfl)
      have bW := (Below.refl wr.heap.size wr).alloc (Nat.le_refl _) (.cells #[.int .i64 kd, .int .i64 nm, .string tx, .int .i64 ks, .int .i64 pl] 39)
      have b1W := Below.step hbw bW
      have b2W := Below.step hb2 bW
      have LK := letter_any kd
      obtain ⟨lk, hlk⟩ : ∃ lk, letK kd = lk := ⟨_, rfl⟩
      have OW := own_any ⟨kd, nm, tx, ks, pl⟩
      simp only at OW
      obtain ⟨ow, how⟩ : ∃ ow, ownB ⟨kd, nm, tx, ks, pl⟩ = ow := ⟨_, rfl⟩
      have SH := shapeP_any ⟨kd, nm, tx, ks, pl⟩
      simp only at SH
      have hbar : barB kd = (lk == 45 || lk == 116 || lk == 115 || kd == 78 || kd == 79) := by unfold barB; rw [hlk]
      rw [hlk] at LK
      rw [how] at OW
      rw [hbar, how] at HN
      have hlk2 : lk < 256 := by rw [← hlk]; exact letK_lt kd
      clear hlk how hbar
      by_cases h45 : lk = 45
      · subst h45
        go_wp2_with fail
        refine (LK _).mono ?_
        rintro e w3 ⟨rfl, rfl⟩
        generalize wr.alloc (.cells #[.int .i64 kd, .int .i64 nm, .string tx, .int .i64 ks, .int .i64 pl] 39) = W1 at nW bW b1W b2W ⊢
        obtain ⟨n0, n1, n2, n3, n4⟩ := nW
        simp only [Nat.zero_add] at n0 n1 n2 n3 n4
        have lW : wr.heap.size < W1.heap.size := lt_of_cell n0
        clear LK OW SH hz hx1 hbw hb2 bW c0 c1 c2 c3 c4
        go_wp2
        go_ret
        exact ⟨⟨false, rfl, HRET.out (by rw [HN.out]; simp)⟩, b1W⟩
      have t45 : ((lk : Int) == 45) = false := by simp; omega
      have t45n : (lk == 45) = false := by simpa using h45
      by_cases h116 : lk = 116
      · subst h116
        go_wp2_with fail
        refine (LK _).mono ?_
        rintro e w3 ⟨rfl, rfl⟩
        generalize wr.alloc (.cells #[.int .i64 kd, .int .i64 nm, .string tx, .int .i64 ks, .int .i64 pl] 39) = W1 at nW bW b1W b2W ⊢
        obtain ⟨n0, n1, n2, n3, n4⟩ := nW
        simp only [Nat.zero_add] at n0 n1 n2 n3 n4
        have lW : wr.heap.size < W1.heap.size := lt_of_cell n0
        clear LK OW SH hz hx1 hbw hb2 bW c0 c1 c2 c3 c4
        go_wp2
        go_ret
        exact ⟨⟨false, rfl, HRET.out (by rw [HN.out]; simp)⟩, b1W⟩
      have t116 : ((lk : Int) == 116) = false := by simp; omega
      have t116n : (lk == 116) = false := by simpa using h116
      by_cases h115 : lk = 115
      · subst h115
        go_wp2_with fail
        refine (LK _).mono ?_
        rintro e w3 ⟨rfl, rfl⟩
        generalize wr.alloc (.cells #[.int .i64 kd, .int .i64 nm, .string tx, .int .i64 ks, .int .i64 pl] 39) = W1 at nW bW b1W b2W ⊢
        obtain ⟨n0, n1, n2, n3, n4⟩ := nW
        simp only [Nat.zero_add] at n0 n1 n2 n3 n4
        have lW : wr.heap.size < W1.heap.size := lt_of_cell n0
        clear LK OW SH hz hx1 hbw hb2 bW c0 c1 c2 c3 c4
        go_wp2
        go_ret
        exact ⟨⟨false, rfl, HRET.out (by rw [HN.out]; simp)⟩, b1W⟩
      have t115 : ((lk : Int) == 115) = false := by simp; omega
      have t115n : (lk == 115) = false := by simpa using h115
      by_cases h78 : kd = 78
      · subst h78
        go_wp2_with fail
        refine (LK _).mono ?_
        rintro e w3 ⟨rfl, rfl⟩
        generalize wr.alloc (.cells #[.int .i64 78, .int .i64 nm, .string tx, .int .i64 ks, .int .i64 pl] 39) = W1 at nW bW b1W b2W ⊢
        obtain ⟨n0, n1, n2, n3, n4⟩ := nW
        simp only [Nat.zero_add] at n0 n1 n2 n3 n4
        have lW : wr.heap.size < W1.heap.size := lt_of_cell n0
        clear LK OW SH hz hx1 hbw hb2 bW c0 c1 c2 c3 c4
        go_wp2
        go_ret
        exact ⟨⟨false, rfl, HRET.out (by rw [HN.out]; simp)⟩, b1W⟩
      have t78 : (kd == 78) = false := by simpa using h78
      by_cases h79 : kd = 79
      · subst h79
        go_wp2_with fail
        refine (LK _).mono ?_
        rintro e w3 ⟨rfl, rfl⟩
        generalize wr.alloc (.cells #[.int .i64 79, .int .i64 nm, .string tx, .int .i64 ks, .int .i64 pl] 39) = W1 at nW bW b1W b2W ⊢
        obtain ⟨n0, n1, n2, n3, n4⟩ := nW
        simp only [Nat.zero_add] at n0 n1 n2 n3 n4
        have lW : wr.heap.size < W1.heap.size := lt_of_cell n0
        clear LK OW SH hz hx1 hbw hb2 bW c0 c1 c2 c3 c4
        go_wp2
        go_ret
        exact ⟨⟨false, rfl, HRET.out (by rw [HN.out]; simp)⟩, b1W⟩
      have t79 : (kd == 79) = false := by simpa using h79
      rw [t45n, t116n, t115n, t78, t79] at HN
      simp only [Bool.or_false, Bool.not_false, Bool.true_and] at HN
      go_wp2_with fail
      refine (LK _).mono ?_
      rintro e w3 ⟨rfl, rfl⟩
      generalize wr.alloc (.cells #[.int .i64 kd, .int .i64 nm, .string tx, .int .i64 ks, .int .i64 pl] 39) = W1 at nW bW b1W b2W ⊢
      obtain ⟨n0, n1, n2, n3, n4⟩ := nW
      simp only [Nat.zero_add] at n0 n1 n2 n3 n4
      have lW : wr.heap.size < W1.heap.size := lt_of_cell n0
      clear LK
      cases ow
      · go_wp2_with fail
        refine (OW _).mono ?_
        rintro e w4 ⟨rfl, hb4⟩
        have b1 := Below.step b1W hb4
        clear OW SH hz hx1 hbw hb2 bW c0 c1 c2 c3 c4 n0 n1 n2 n3 n4 hb4
        go_wp2
        go_ret
        exact ⟨⟨false, rfl, HRET.out (by rw [HN.out]; simp)⟩, b1⟩
      go_wp2_with fail
      refine (OW _).mono ?_
      rintro e w4 ⟨rfl, hb4⟩
      have b1 := Below.step b1W hb4
      have b2 := Below.step b2W hb4
      have nW4 : NodeAt w4 wr.heap.size 0 ⟨kd, nm, tx, ks, pl⟩ := by
        have h9 : NodeAt W1 wr.heap.size 0 ⟨kd, nm, tx, ks, pl⟩ := ⟨n0, n1, n2, n3, n4⟩
        exact h9.below hb4
      obtain ⟨m0, m1, m2, m3, m4⟩ := nW4
      simp only [Nat.zero_add] at m0 m1 m2 m3 m4
      have lW4 : wr.heap.size < w4.heap.size := lt_of_cell m0
      clear OW hbw hb2 bW c0 c1 c2 c3 c4 n0 n1 n2 n3 n4 hb4 b1W b2W
      have N4 : NodeAt w4 wr.heap.size 0 ⟨kd, nm, tx, ks, pl⟩ := ⟨by simpa using m0, by simpa using m1, by simpa using m2, by simpa using m3, by simpa using m4⟩
      have hbd : Below w4.heap.size w4 w4.drew := Below.drew (Below.refl _ _)
      cases htu : tupP ⟨kd, nm, tx, ks, pl⟩
      rotate_left
      · rw [htu] at HN
        have hks : ks = 1 := by
          unfold tupP at htu
          simp at htu
          exact htu.1
        subst hks
        have hkd : kd = 75 ∨ kd = 20 := by
          unfold tupP at htu
          simp at htu
          omega
        have HF : Hid (false = true ↔ PlainS t) := HRET.out (by rw [HN.out]; simp)
        clear HN HRET HSTEP SH hx1 hz htu
        rcases hkd with rfl | rfl
        all_goals
          go_wp2_with fail
          go_quiet (fail)
          have b8 := Below.step b1 (quietB w4 nq)
          go_wp2
          go_ret
          exact ⟨⟨false, rfl, HF.out⟩, b8⟩
      rw [htu] at HN
      have hnt : ks = 1 → kd ≠ 75 ∧ kd ≠ 20 := by
        intro h8
        subst h8
        unfold tupP at htu
        simp at htu
        omega
      clear htu
      have hz4 : Ints w4 w.heap.size gz cz n (ys.map szOf) := hz.below b2
      have hx4 : Nodes w4 (some ⟨b0, o0, none⟩) t := hx1.below b2
      clear hz hx1
      have RT := fun (W : World) (hW : Below w4.heap.size w4 W) => roots60_any t ys K n k q HM h6 HK HQ hkn HYL (some ⟨b0, o0, none⟩) cap gz cz w.heap.size W (hx4.below hW) (hz4.below hW)
      have FT := fun (W : World) (hW : Below w4.heap.size w4 W) (G : Nat) (hG : Ints W w4.heap.size G q q (rts K)) => fits_shapeP ⟨kd, nm, tx, ks, pl⟩ t n HM (K.map (fun s => s.rt)) q HQR hKl HR (some ⟨b0, o0, none⟩) cap G w4.heap.size W (hx4.below hW) (by rw [hNat]; exact hG)
      obtain ⟨sh, hsh⟩ : ∃ sh, shapeP ⟨kd, nm, tx, ks, pl⟩ = sh := ⟨_, rfl⟩
      rw [hsh] at SH FT HN
      obtain ⟨z, hzz⟩ : ∃ z, fitsB sh (starOf sh) ((K.map (fun s => s.rt)).map (ndAt t)) = z := ⟨_, rfl⟩
      rw [hzz] at FT
      rw [HKN.out, hzz] at HN
      clear hsh hzz hx4 hz4
      by_cases hk1 : ks = 1
      · obtain ⟨h75, h20⟩ := hnt hk1
        subst hk1
        have u75 : (kd == 75) = false := by simpa using h75
        have u20 : (kd == 20) = false := by simpa using h20
        have N4s : ∀ W : World, Below w4.heap.size w4 W → W.cell? ⟨wr.heap.size, 0, none⟩ = some (.int .i64 kd) ∧ W.cell? ⟨wr.heap.size, 1, none⟩ = some (.int .i64 nm) ∧ W.cell? ⟨wr.heap.size, 2, none⟩ = some (.string tx) ∧ W.cell? ⟨wr.heap.size, 3, none⟩ = some (.int .i64 1) ∧ W.cell? ⟨wr.heap.size, 4, none⟩ = some (.int .i64 pl) := by
          intro W hW
          obtain ⟨p0, p1, p2, p3, p4⟩ := N4.below hW
          simp only [Nat.zero_add] at p0 p1 p2 p3 p4
          exact ⟨p0, p1, p2, p3, p4⟩
        go_wp2_with fail
        go_region_held3 (fun w' => w'.cell? ⟨wr.heap.size, 0, none⟩ = some (.int .i64 kd) ∧ w'.cell? ⟨wr.heap.size, 1, none⟩ = some (.int .i64 nm) ∧ w'.cell? ⟨wr.heap.size, 2, none⟩ = some (.string tx) ∧ w'.cell? ⟨wr.heap.size, 3, none⟩ = some (.int .i64 1) ∧ w'.cell? ⟨wr.heap.size, 4, none⟩ = some (.int .i64 pl))
            (first | exact ⟨m0, m1, m2, m3, m4⟩ | exact ⟨p0, p1, p2, p3, p4⟩ | exact hS6 | exact hS7)
            (first
            | (go_at_call 31; refine (RT _ hbd).mono ?_; rintro e w5 ⟨G, rfl, hG, hb5⟩; have hbe := Below.step hbd hb5; have hS5 := N4s w5 hbe; obtain ⟨p0, p1, p2, p3, p4⟩ := hS5; have l5 : wr.heap.size < w5.heap.size := lt_of_cell p0)
            | (go_at_call 32; refine (SH _).mono ?_; rintro e w6 ⟨rfl, hb6⟩; have hbf := Below.step hbe hb6; have hS6 := N4s w6 hbf)
            | (go_at_call 30; refine (FT _ hbf G (hG.below hb6)).mono ?_; rintro e w7 ⟨rfl, hb7⟩; have hbg := Below.step hbf hb7; have hS7 := N4s w7 hbg))
        all_goals
          have b9 := Below.step b1 hbg
          have b8 := Below.step b2 hbg
          clear RT SH FT hbd hbe hbf hbg hb5 hb6 hb7 hG m0 m1 m2 m3 m4 N4 N4s p0 p1 p2 p3 p4
          cases z
          · have HF : Hid (false = true ↔ PlainS t) := HRET.out (by rw [HN.out]; rfl)
            clear HN HRET HSTEP
            go_wp2
            go_ret
            exact ⟨⟨false, rfl, HF.out⟩, b9⟩
          · have HF : Hid (∀ i, i < k + 1 → okP t i = true) := HSTEP.out (by rw [HN.out]; rfl)
            clear HN HRET HSTEP
            go_wp2
            go_roundw
            case rel => exact ⟨k + 1, by omega, by go_num, HF.out, b9, b8⟩
            case measure => simp [intOf]; omega
      · have tk1 : (ks == 1) = false := by simpa using hk1
        have N4s : ∀ W : World, Below w4.heap.size w4 W → W.cell? ⟨wr.heap.size, 0, none⟩ = some (.int .i64 kd) ∧ W.cell? ⟨wr.heap.size, 1, none⟩ = some (.int .i64 nm) ∧ W.cell? ⟨wr.heap.size, 2, none⟩ = some (.string tx) ∧ W.cell? ⟨wr.heap.size, 3, none⟩ = some (.int .i64 ks) ∧ W.cell? ⟨wr.heap.size, 4, none⟩ = some (.int .i64 pl) := by
          intro W hW
          obtain ⟨p0, p1, p2, p3, p4⟩ := N4.below hW
          simp only [Nat.zero_add] at p0 p1 p2 p3 p4
          exact ⟨p0, p1, p2, p3, p4⟩
        go_wp2_with fail
        have hu : undef = Value.tuple #[] := rfl
        first | (go_region_with (first
            | (go_at_call 31; refine (RT _ hbd).mono ?_; rintro e w5 ⟨G, rfl, hG, hb5⟩; have hbe := Below.step hbd hb5; have hS5 := N4s w5 hbe; obtain ⟨p0, p1, p2, p3, p4⟩ := hS5; have l5 : wr.heap.size < w5.heap.size := lt_of_cell p0)
            | (go_at_call 32; refine (SH _).mono ?_; rintro e w6 ⟨rfl, hb6⟩; have hbf := Below.step hbe hb6; have hS6 := N4s w6 hbf)
            | (go_at_call 30; refine (FT _ hbf G (hG.below hb6)).mono ?_; rintro e w7 ⟨rfl, hb7⟩; have hbg := Below.step hbf hb7; have hS7 := N4s w7 hbg))) | fail
        all_goals (try rw [← hu])
        all_goals clear hu
        all_goals
          have b9 := Below.step b1 hbg
          have b8 := Below.step b2 hbg
          clear RT SH FT hbd hbe hbf hbg hb5 hb6 hb7 hG m0 m1 m2 m3 m4 N4 N4s p0 p1 p2 p3 p4
          cases z
          · have HF : Hid (false = true ↔ PlainS t) := HRET.out (by rw [HN.out]; rfl)
            clear HN HRET HSTEP
            go_wp2
            go_ret
            exact ⟨⟨false, rfl, HF.out⟩, b9⟩
          · have HF : Hid (∀ i, i < k + 1 → okP t i = true) := HSTEP.out (by rw [HN.out]; rfl)
            clear HN HRET HSTEP
            go_wp2
            go_roundw
            case rel => exact ⟨k + 1, by omega, by go_num, HF.out, b9, b8⟩
            case measure => simp [intOf]; omega

end Go.Proofs.Ytekogjmmfhbinaa
