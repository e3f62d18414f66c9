
import Derived.Test.YtocidoamfofefaaYAJ
import Derived.Test.YtocidoamfofefaaYAK
import Derived.Test.YtocidoamfofefaaYAL
import Derived.Deep.RegionWith
import Derived.BigQuiet
namespace Go.Proofs.Ytocidoamfofefaa
open Go.RowKit

/-- Where the star stands. -/
def starOf (sh : ByteArray) : Nat := sh.data.toList.findIdx (fun b => b == 42)

theorem star_is (sh : ByteArray) : IsStar sh (starOf sh) := by
  have hl : sh.data.toList.length = sh.size := Array.length_toList (xs := sh.data)
  have e : ∀ j (h : j < sh.size), sh.data[j]! = sh.data.toList[j]'(by omega) := by
    intro j h
    rw [getElem!_pos sh.data j h]
    simp
  refine ⟨?_, ?_, ?_⟩
  · have := List.findIdx_le_length (p := fun b => b == (42 : UInt8)) (xs := sh.data.toList)
    unfold starOf
    omega
  · intro j hj
    have h1 := List.findIdx_le_length (p := fun b => b == (42 : UInt8)) (xs := sh.data.toList)
    have h2 : j < sh.size := by unfold starOf at hj; omega
    rw [e j h2]
    have h3 := List.not_of_lt_findIdx (p := fun b => b == (42 : UInt8)) (xs := sh.data.toList) hj
    simpa using h3
  · intro h
    rw [e _ h]
    have h3 := List.findIdx_getElem (p := fun b => b == (42 : UInt8)) (xs := sh.data.toList) (w := by rw [hl]; exact h)
    unfold starOf at h ⊢
    simpa using h3

theorem shape_star (x : Nd) : (shapeB x).size ≤ 4 ∧ (starOf (shapeB x) = (shapeB x).size ∨ 1 ≤ starOf (shapeB x)) := by
  unfold shapeB
  repeat' split
  all_goals first
    | (constructor; decide; decide)
    | (unfold shapeN; split <;> (constructor; decide; decide))

/-- A tuple of one. -/
def tup1 (x : Nd) : Bool := x.kids == 1 && (x.kind == 75 || x.kind == 20 || x.kind == 14)

/-- What the model asks of a node and of its kids. -/
def okS (t : List Nd) (k : Nat) : Bool :=
  decide (alls t (k + 1) ≤ 1000) && (letK (ndAt t k).kind != 45 && (ownB (ndAt t k) && (!tup1 (ndAt t k) && fitsB (shapeB (ndAt t k)) (starOf (shapeB (ndAt t k))) (kidsN t k))))

/-- The model's answer. -/
def FormS (t : List Nd) : Prop := t.length ≤ 60000 ∧ rawDeep t ≠ 0 ∧ letK (ndAt t (t.length - 1)).kind = 99 ∧ ∀ i, i < t.length → okS t i = true

theorem fits_shape (x : Nd) (t : List Nd) (m : Nat) (HM : Hid (t.length = m)) (R : List Nat) (q : Nat) (HQ : Hid (R.length = q)) (hq : q ≤ 60000) (HR : Hid (∀ j (h : j < R.length), R[j] < m)) (ao : Option Addr) (cap G B : Nat) (w : World) (hx : Nodes w ao t) (hz : Ints w B G q q (natsI R)) :
    Calls Try.prog 24 #[.slice ao m cap, .slice (some ⟨G, 0, none⟩) q q, .string (shapeB x)] w fun e w' => e = .returned (.bool (fitsB (shapeB x) (starOf (shapeB x)) (R.map (ndAt t)))) ∧ Below w.heap.size w w' := by
  obtain ⟨h4, h5⟩ := shape_star x
  have hs := star_is (shapeB x)
  by_cases h : starOf (shapeB x) = (shapeB x).size
  · exact fits_plain (shapeB x) _ hs h4 h t m HM R q HQ hq HR ao cap G B w hx hz
  · have := hs.le
    exact fits_star (shapeB x) _ _ rfl hs h4 (by omega) (by omega) t m HM R q HQ hq HR ao cap G B w hx hz

theorem raw_none {t : List Nd} (h : after t t.length = none) : rawDeep t = 0 := by
  unfold rawDeep
  rw [h]

theorem raw_some {t : List Nd} {S ys : List Sp} {m : Nat} (hm : t.length = m) (h0 : 0 < m) (h : after t m = some (S, ys)) :
    ∃ s, ys[m - 1]? = some s ∧ rawDeep t = (if s.fr = 0 then s.dp else 0) ∧ s.fr ≤ m - 1 ∧ 1 ≤ s.dp ∧ s.rt = m - 1 := by
  have hf := after_fine h
  have hl : m - 1 < ys.length := by have := hf.len; omega
  have hr := hf.root (m - 1) hl
  refine ⟨ys[m - 1], List.getElem?_eq_getElem hl, ?_, hr.2.1, hr.2.2.1, hr.1⟩
  unfold rawDeep
  rw [hm, h]
  have hg : ys.getLast? = some ys[m - 1] := by
    have := hf.len
    rw [List.getLast?_eq_getElem?]
    have e : ys.length - 1 = m - 1 := by omega
    rw [e, List.getElem?_eq_getElem hl]
  simp only [hg]

set_option maxRecDepth 100000 in
set_option maxHeartbeats 4000000 in
theorem specForm_any (t : List Nd) (m : Nat) (HM : Hid (t.length = m)) (hm : m ≤ 1048576) (ao : Option Addr) (cap : Nat) (w : World) (hx : Nodes w ao t) :
    Calls Try.prog 8 #[.slice ao m cap] w fun e w' => (∃ b : Bool, e = .returned (.bool b) ∧ (b = true ↔ FormS t)) ∧ Below w.heap.size w w' := by
  by_cases h0 : m = 0
  · subst h0
    have HF : Hid (¬ FormS t) := by
      rintro ⟨-, h9, -⟩
      have := (raw_after h9).1
      have := HM.out
      omega
    clear hx
    go_enter Try.func8, Try.ntmps8
    go_wp2
    go_ret
    exact ⟨⟨false, rfl, by simp only [Bool.false_eq_true, false_iff]; exact HF.out⟩, Below.refl _ _⟩
  by_cases h6 : m ≤ 60000
  rotate_left
  · have HF : Hid (¬ FormS t) := by
      rintro ⟨h9, -⟩
      have := HM.out
      omega
    have h0' : ((m : Int) == 0) = false := by simp; omega
    clear hx
    go_enter Try.func8, Try.ntmps8
    go_wp2
    go_ret
    exact ⟨⟨false, rfl, by simp only [Bool.false_eq_true, false_iff]; exact HF.out⟩, Below.refl _ _⟩
  have h0' : ((m : Int) == 0) = false := by simp; omega
  go_enter Try.func8, Try.ntmps8
  go_wp2_with fail
  refine (sizes60_any t m HM h6 ao cap w hx).mono ?_
  rintro e w1 ⟨gz, cz, n, rfl, hz, hb⟩
  have hx1 := hx.below hb
  clear hx
  cases hA : after t m with
  | none =>
    have HF : Hid (¬ FormS t) := by
      rintro ⟨-, h9, -⟩
      exact h9 (raw_none (by rw [HM.out]; exact hA))
    have hn0 : n = 0 := by
      have h9 := hz.1
      unfold sizesOf at h9
      rw [HM.out, hA] at h9
      simpa using h9.symm
    subst hn0
    clear hz hA hx1
    go_wp2
    go_ret
    exact ⟨⟨false, rfl, by simp only [Bool.false_eq_true, false_iff]; exact HF.out⟩, hb⟩
  | some p =>
    obtain ⟨S, ys⟩ := p
    have HA : Hid (after t m = some (S, ys)) := hA
    have hsz : sizesOf t = ys.map szOf := by unfold sizesOf; rw [HM.out, hA]
    rw [hsz] at hz
    have hyl := (after_fine hA).len
    have hnm : n = m := by have h9 := hz.1; simp at h9; omega
    subst hnm
    obtain ⟨s, hs, hd1, hd3, hd4, hd5⟩ := raw_some HM.out (by omega) hA
    have cz1 : w1.cell? ⟨gz, n - 1, none⟩ = some (.int .i64 ((n : Int) - (s.fr : Int))) := by
      rw [hz.at (n - 1) (by simp; omega)]
      obtain ⟨h8, h9⟩ := List.getElem?_eq_some_iff.1 hs
      simp [szOf, h9]
      omega
    have HYL : Hid (ys.length = n) := hyl
    have hbz := hz.block
    clear hA hsz hs hyl
    by_cases hfr : s.fr = 0
    rotate_left
    · have HF : Hid (¬ FormS t) := by
        rintro ⟨-, h9, -⟩
        exact h9 (by rw [hd1, if_neg hfr])
      have hne : (((n : Int) - (s.fr : Int)) != (n : Int)) = true := by simp; omega
      clear hz hx1
      go_wp2
      go_ret
      exact ⟨⟨false, rfl, by simp only [Bool.false_eq_true, false_iff]; exact HF.out⟩, hb⟩
    have HRD : Hid (rawDeep t ≠ 0) := by show rawDeep t ≠ 0; rw [hd1, if_pos hfr]; omega
    rw [hfr] at cz1
    have cz2 : w1.cell? ⟨gz, n - 1, none⟩ = some (.int .i64 (n : Int)) := by simpa using cz1
    clear cz1 hd1
    have hn1 : n - 1 < t.length := by have := HM.out; omega
    obtain ⟨b0, o0, rfl, hnL⟩ := hx1 (n - 1) hn1
    obtain ⟨k0, -, -, -, -⟩ := hnL
    have HLK := letter_any (t[n - 1]'hn1).kind
    obtain ⟨lk, hlk⟩ : ∃ lk, letK (t[n - 1]'hn1).kind = lk := ⟨_, rfl⟩
    rw [hlk] at HLK
    obtain ⟨kd0, hkd0⟩ : ∃ kd0, (t[n - 1]'hn1).kind = kd0 := ⟨_, rfl⟩
    rw [hkd0] at k0 HLK
    have HLL : Hid (letK (ndAt t (t.length - 1)).kind = lk) := by
      show letK _ = _
      have e : t.length - 1 = n - 1 := by have := HM.out; omega
      rw [e, ndAt_get hn1, hlk]
    clear hlk hkd0
    by_cases hc99 : lk = 99
    rotate_left
    · have HF : Hid (¬ FormS t) := by
        rintro ⟨-, -, h9, -⟩
        exact hc99 (HLL.out.symm.trans h9)
      have t9 : ((lk : Int) != 99) = true := by simp; omega
      clear hz hx1
      go_wp2_with fail
      refine (HLK w1).mono ?_
      rintro e w2 ⟨rfl, rfl⟩
      clear HLK cz2 k0
      go_wp2
      go_ret
      exact ⟨⟨false, rfl, by simp only [Bool.false_eq_true, false_iff]; exact HF.out⟩, hb⟩
    subst hc99
    go_wp2_with fail
    refine (HLK w1).mono ?_
    rintro e w2 ⟨rfl, rfl⟩
    clear HLK cz2 k0
    go_wp2
    go_loopw [5, 6] (fun va vi wr => ∃ k : Nat, k ≤ n ∧ va = .int .i64 (alls t k : Int) ∧ vi = .int .i64 (k : Int) ∧ (∀ i, i < k → okS t i = true) ∧ Below w.heap.size w wr ∧ Below w2.heap.size w2 wr) (fun _ vi _ => n - (intOf vi).toNat)
    case atStart => exact ⟨0, Nat.zero_le _, rfl, rfl, fun i hi => absurd hi (Nat.not_lt_zero _), hb, Below.refl _ _⟩
    case round =>
      obtain ⟨k, hk, rfl, rfl, hall, hbw, hb2⟩ := hrel
      by_cases hkn : k < n
      rotate_left
      · obtain rfl : k = n := by omega
        have HF : Hid (FormS t) := ⟨by have := HM.out; omega, HRD.out, HLL.out, fun i hi => hall i (by have := HM.out; omega)⟩
        clear hall hx1 hz
        go_wp2
        go_ret
        exact ⟨⟨true, rfl, by simp only [true_iff]; exact HF.out⟩, hbw⟩
      have hkt : k < t.length := by have := HM.out; omega
      have HALL : Hid (∀ i, i < k → okS t i = true) := hall
      clear hall
      obtain ⟨b, o, hbo, hn⟩ := hx1.below hb2 k hkt
      simp only [Option.some.injEq, Addr.mk.injEq, and_true] at hbo
      obtain ⟨rfl, rfl⟩ := hbo
      obtain ⟨x, hxk⟩ : ∃ x, t[k] = x := ⟨_, rfl⟩
      rw [hxk] at hn
      have HX : Hid (ndAt t k = x) := by show ndAt t k = x; rw [ndAt_get hkt, hxk]
      clear hxk
      obtain ⟨a, ha⟩ : ∃ a, alls t k = a := ⟨_, rfl⟩
      have hak : a ≤ k := by rw [← ha]; exact alls_le t k
      rw [ha]
      obtain ⟨kd, nm, tx, ks, pl⟩ := x
      obtain ⟨c0, c1, c2, c3, c4⟩ := hn
      simp only at c0 c1 c2 c3 c4
      have HN : Hid (okS t k = (decide (alls t (k + 1) ≤ 1000) && (letK kd != 45 && (ownB ⟨kd, nm, tx, ks, pl⟩ && (!tup1 ⟨kd, nm, tx, ks, pl⟩ && fitsB (shapeB ⟨kd, nm, tx, ks, pl⟩) (starOf (shapeB ⟨kd, nm, tx, ks, pl⟩)) (kidsN t k)))))) := by
        show okS t k = _
        unfold okS
        rw [HX.out]
      have HNO : Hid (okS t k = false → ¬ FormS t) := by
        intro h9 h8
        rw [h8.2.2.2 k hkt] at h9
        cases h9
      have HRET : Hid (okS t k = false → (false = true ↔ FormS t)) := by
        intro h9
        simp only [Bool.false_eq_true, false_iff]
        exact HNO.out h9
      clear HNO
      have HSTEP : Hid (okS t k = true → ∀ i, i < k + 1 → okS t i = true) := by
        intro h9 i hi
        by_cases e : i = k
        · subst e; exact h9
        · exact HALL.out i (by omega)
      clear HALL
      have HAL : Hid (alls t (k + 1) = if kd = 62 then a + 1 else 0) := by
        show alls t (k + 1) = _
        rw [alls, HX.out, ha]
      clear HX ha
      -- the kids
      obtain ⟨Si, hSi, hkt', hK⟩ := kids_atS HA.out k hkn
      have HKN : Hid (kidsN t k = ((Si.drop (Si.length - (t[k]).kids.toNat)).map (fun s => s.rt)).map (ndAt t)) := by
        show kidsN t k = _
        rw [kidsN_eq hSi hkt, List.map_map]
        rfl
      obtain ⟨K, hKe⟩ : ∃ K, Si.drop (Si.length - (t[k]).kids.toNat) = K := ⟨_, rfl⟩
      rw [hKe] at hK HKN
      have HK : Hid (KidsAt t ys k K) := hK
      have hKl : K.length ≤ 60000 := by have := hK.len; omega
      have HR : Hid (∀ j (h : j < (K.map (fun s => s.rt)).length), (K.map (fun s => s.rt))[j] < n) := by
        intro j h
        have h9 := (HK.out.mem j (by simpa using h)).2.2
        simp only [List.getElem_map]
        omega
      obtain ⟨q, hq⟩ : ∃ q, K.length = q := ⟨_, rfl⟩
      have HQ : Hid (K.length = q) := hq
      have HQR : Hid ((K.map (fun s => s.rt)).length = q) := by show _ = q; rw [List.length_map]; exact hq
      rw [hq] at hKl
      have hNat : natsI (K.map (fun s => s.rt)) = rts K := by
        unfold natsI rts
        rw [List.map_map]
        rfl
      clear hK hKe hSi hkt' hq
      have nW : NodeAt (wr.alloc (.cells #[.int .i64 kd, .int .i64 nm, .string tx, .int .i64 ks, .int .i64 pl] 39)) wr.heap.size 0 ⟨kd, nm, tx, ks, pl⟩ := by
        refine ⟨?_, ?_, ?_, ?_, ?_⟩ <;> (rw [cell_of_row _ _ _ _ _ _ (heap_alloc_new _ _)]; rfl)
      have bW := (Below.refl wr.heap.size wr).alloc (Nat.le_refl _) (.cells #[.int .i64 kd, .int .i64 nm, .string tx, .int .i64 ks, .int .i64 pl] 39)
      have b1W := Below.step hbw bW
      have b2W := Below.step hb2 bW
      have LK := letter_any kd
      obtain ⟨lk, hlk⟩ : ∃ lk, letK kd = lk := ⟨_, rfl⟩
      have OW := own_any ⟨kd, nm, tx, ks, pl⟩
      simp only at OW
      obtain ⟨ow, how⟩ : ∃ ow, ownB ⟨kd, nm, tx, ks, pl⟩ = ow := ⟨_, rfl⟩
      have SH := shape_any ⟨kd, nm, tx, ks, pl⟩
      simp only at SH
      rw [hlk] at LK
      rw [how] at OW
      rw [hlk, how] at HN
      have hlk2 : lk < 256 := by rw [← hlk]; exact letK_lt kd
      clear hlk how
      by_cases h62 : kd = 62
      · subst h62
        have HAA : Hid (alls t (k + 1) = a + 1) := by rw [HAL.out, if_pos rfl]; rfl
        clear HAL
        rw [HAA.out] at HN
        by_cases h1000 : a + 1 ≤ 1000
        rotate_left
        · have u1 : decide ((a : Int) + 1 > 1000) = true := decide_eq_true (by omega)
          clear hz hx1 LK OW SH hbw hb2 b2W nW
          go_wp2
          go_ret
          exact ⟨⟨false, rfl, HRET.out (by rw [HN.out, decide_eq_false h1000]; rfl)⟩, b1W⟩
        have u1 : decide ((a : Int) + 1 > 1000) = false := decide_eq_false (by omega)
        rw [decide_eq_true h1000] at HN
        by_cases h45 : lk = 45
        · subst h45
          go_wp2_with fail
          refine (LK _).mono ?_
          rintro e w3 ⟨rfl, rfl⟩
          generalize wr.alloc (.cells #[.int .i64 62, .int .i64 nm, .string tx, .int .i64 ks, .int .i64 pl] 39) = W1 at nW bW b1W b2W ⊢
          clear LK OW SH hz hx1 hbw hb2 bW c0 c1 c2 c3 c4
          go_wp2
          go_ret
          exact ⟨⟨false, rfl, HRET.out (by rw [HN.out]; simp)⟩, b1W⟩
        have t45 : ((lk : Int) == 45) = false := by simp; omega
        have t45n : (lk != 45) = true := by simpa using h45
        rw [t45n] at HN
        go_wp2_with fail
        refine (LK _).mono ?_
        rintro e w3 ⟨rfl, rfl⟩
        generalize wr.alloc (.cells #[.int .i64 62, .int .i64 nm, .string tx, .int .i64 ks, .int .i64 pl] 39) = W1 at nW bW b1W b2W ⊢
        obtain ⟨n0, n1, n2, n3, n4⟩ := nW
        simp only [Nat.zero_add] at n0 n1 n2 n3 n4
        have lW : wr.heap.size < W1.heap.size := lt_of_cell n0
        clear LK
        cases ow
        · go_wp2_with fail
          refine (OW _).mono ?_
          rintro e w4 ⟨rfl, hb4⟩
          have b1 := Below.step b1W hb4
          clear OW SH hz hx1 hbw hb2 bW c0 c1 c2 c3 c4 n0 n1 n2 n3 n4 hb4
          go_wp2
          go_ret
          exact ⟨⟨false, rfl, HRET.out (by rw [HN.out]; simp)⟩, b1⟩
        go_wp2_with fail
        refine (OW _).mono ?_
        rintro e w4 ⟨rfl, hb4⟩
        have b1 := Below.step b1W hb4
        have b2 := Below.step b2W hb4
        have nW4 : NodeAt w4 wr.heap.size 0 ⟨62, nm, tx, ks, pl⟩ := by
          have h9 : NodeAt W1 wr.heap.size 0 ⟨62, nm, tx, ks, pl⟩ := ⟨n0, n1, n2, n3, n4⟩
          exact h9.below hb4
        obtain ⟨m0, m1, m2, m3, m4⟩ := nW4
        simp only [Nat.zero_add] at m0 m1 m2 m3 m4
        have lW4 : wr.heap.size < w4.heap.size := lt_of_cell m0
        clear OW hbw hb2 bW c0 c1 c2 c3 c4 n0 n1 n2 n3 n4 hb4 b1W b2W
        have htu : tup1 ⟨62, nm, tx, ks, pl⟩ = false := by unfold tup1; simp
        rw [htu] at HN
        have hz4 : Ints w4 w.heap.size gz cz n (ys.map szOf) := hz.below b2
        have hx4 : Nodes w4 (some ⟨b0, o0, none⟩) t := hx1.below b2
        clear hz hx1
        have RT := fun (W : World) (hW : Below w4.heap.size w4 W) => roots60_any t ys K n k q HM h6 HK HQ hkn HYL (some ⟨b0, o0, none⟩) cap gz cz w.heap.size W (hx4.below hW) (hz4.below hW)
        have FT := fun (W : World) (hW : Below w4.heap.size w4 W) (G : Nat) (hG : Ints W w4.heap.size G q q (rts K)) => fits_shape ⟨62, nm, tx, ks, pl⟩ t n HM (K.map (fun s => s.rt)) q HQR hKl HR (some ⟨b0, o0, none⟩) cap G w4.heap.size W (hx4.below hW) (by rw [hNat]; exact hG)
        obtain ⟨sh, hsh⟩ : ∃ sh, shapeB ⟨62, nm, tx, ks, pl⟩ = sh := ⟨_, rfl⟩
        rw [hsh] at SH FT HN
        obtain ⟨z, hzz⟩ : ∃ z, fitsB sh (starOf sh) ((K.map (fun s => s.rt)).map (ndAt t)) = z := ⟨_, rfl⟩
        rw [hzz] at FT
        rw [HKN.out, hzz] at HN
        clear hsh hzz hx4 hz4
        have N4 : NodeAt w4 wr.heap.size 0 ⟨62, nm, tx, ks, pl⟩ := ⟨by simpa using m0, by simpa using m1, by simpa using m2, by simpa using m3, by simpa using m4⟩
        have hbd : Below w4.heap.size w4 w4.drew := Below.drew (Below.refl _ _)
        by_cases hk1 : ks = 1
        · subst hk1
          cases z
          · have HF : Hid (false = true ↔ FormS t) := HRET.out (by rw [HN.out]; rfl)
            clear HN HRET HSTEP
            go_wp2_with fail
            go_region_with (first
              | (go_at_call 25; refine (RT _ hbd).mono ?_; rintro e w5 ⟨G, rfl, hG, hb5⟩; have hbe := Below.step hbd hb5; obtain ⟨p0, p1, p2, p3, p4⟩ := N4.below hbe; simp only [Nat.zero_add] at p0 p1 p2 p3 p4; have l5 : wr.heap.size < w5.heap.size := lt_of_cell p0)
              | (go_at_call 26; refine (SH _).mono ?_; rintro e w6 ⟨rfl, hb6⟩; have hbf := Below.step hbe hb6)
              | (go_at_call 24; refine (FT _ hbf G (hG.below hb6)).mono ?_; rintro e w7 ⟨rfl, hb7⟩; have hbg := Below.step hbf hb7))
            all_goals
              have b9 := Below.step b1 hbg
              clear RT SH FT hbd hbe hbf hbg hb5 hb6 hb7 hG p0 p1 p2 p3 p4 m0 m1 m2 m3 m4 N4
              go_wp2
              go_ret
              exact ⟨⟨false, rfl, HF.out⟩, b9⟩
          · have HF : Hid (∀ i, i < k + 1 → okS t i = true) := HSTEP.out (by rw [HN.out]; rfl)
            clear HN HRET HSTEP
            go_wp2_with fail
            go_region_with (first
              | (go_at_call 25; refine (RT _ hbd).mono ?_; rintro e w5 ⟨G, rfl, hG, hb5⟩; have hbe := Below.step hbd hb5; obtain ⟨p0, p1, p2, p3, p4⟩ := N4.below hbe; simp only [Nat.zero_add] at p0 p1 p2 p3 p4; have l5 : wr.heap.size < w5.heap.size := lt_of_cell p0)
              | (go_at_call 26; refine (SH _).mono ?_; rintro e w6 ⟨rfl, hb6⟩; have hbf := Below.step hbe hb6)
              | (go_at_call 24; refine (FT _ hbf G (hG.below hb6)).mono ?_; rintro e w7 ⟨rfl, hb7⟩; have hbg := Below.step hbf hb7))
            all_goals
              have b9 := Below.step b1 hbg
              have b8 := Below.step b2 hbg
              clear RT SH FT hbd hbe hbf hbg hb5 hb6 hb7 hG p0 p1 p2 p3 p4 m0 m1 m2 m3 m4 N4
              go_wp2
              go_roundw
              case rel => exact ⟨k + 1, by omega, by rw [HAA.out]; go_num, by go_num, HF.out, b9, b8⟩
              case measure => simp [intOf]; omega
        · have tk1 : (ks == 1) = false := by simpa using hk1
          cases z
          · have HF : Hid (false = true ↔ FormS t) := HRET.out (by rw [HN.out]; rfl)
            clear HN HRET HSTEP
            go_wp2_with fail
            go_region_with (first
              | (go_at_call 25; refine (RT _ hbd).mono ?_; rintro e w5 ⟨G, rfl, hG, hb5⟩; have hbe := Below.step hbd hb5; obtain ⟨p0, p1, p2, p3, p4⟩ := N4.below hbe; simp only [Nat.zero_add] at p0 p1 p2 p3 p4; have l5 : wr.heap.size < w5.heap.size := lt_of_cell p0)
              | (go_at_call 26; refine (SH _).mono ?_; rintro e w6 ⟨rfl, hb6⟩; have hbf := Below.step hbe hb6)
              | (go_at_call 24; refine (FT _ hbf G (hG.below hb6)).mono ?_; rintro e w7 ⟨rfl, hb7⟩; have hbg := Below.step hbf hb7))
            all_goals
              have b9 := Below.step b1 hbg
              clear RT SH FT hbd hbe hbf hbg hb5 hb6 hb7 hG p0 p1 p2 p3 p4 m0 m1 m2 m3 m4 N4
              go_wp2
              go_ret
              exact ⟨⟨false, rfl, HF.out⟩, b9⟩
          · have HF : Hid (∀ i, i < k + 1 → okS t i = true) := HSTEP.out (by rw [HN.out]; rfl)
            clear HN HRET HSTEP
            go_wp2_with fail
            go_region_with (first
              | (go_at_call 25; refine (RT _ hbd).mono ?_; rintro e w5 ⟨G, rfl, hG, hb5⟩; have hbe := Below.step hbd hb5; obtain ⟨p0, p1, p2, p3, p4⟩ := N4.below hbe; simp only [Nat.zero_add] at p0 p1 p2 p3 p4; have l5 : wr.heap.size < w5.heap.size := lt_of_cell p0)
              | (go_at_call 26; refine (SH _).mono ?_; rintro e w6 ⟨rfl, hb6⟩; have hbf := Below.step hbe hb6)
              | (go_at_call 24; refine (FT _ hbf G (hG.below hb6)).mono ?_; rintro e w7 ⟨rfl, hb7⟩; have hbg := Below.step hbf hb7))
            all_goals
              have b9 := Below.step b1 hbg
              have b8 := Below.step b2 hbg
              clear RT SH FT hbd hbe hbf hbg hb5 hb6 hb7 hG p0 p1 p2 p3 p4 m0 m1 m2 m3 m4 N4
              go_wp2
              go_roundw
              case rel => exact ⟨k + 1, by omega, by rw [HAA.out]; go_num, by go_num, HF.out, b9, b8⟩
              case measure => simp [intOf]; omega

      · have t62 : (kd != 62) = true := by simpa using h62
        have HAA : Hid (alls t (k + 1) = 0) := by rw [HAL.out, if_neg h62]; rfl
        clear HAL h62
        rw [HAA.out] at HN
        rw [decide_eq_true (Nat.zero_le 1000)] at HN
        by_cases h45 : lk = 45
        · subst h45
          go_wp2_with fail
          refine (LK _).mono ?_
          rintro e w3 ⟨rfl, rfl⟩
          generalize wr.alloc (.cells #[.int .i64 kd, .int .i64 nm, .string tx, .int .i64 ks, .int .i64 pl] 39) = W1 at nW bW b1W b2W ⊢
          clear LK OW SH hz hx1 hbw hb2 bW c0 c1 c2 c3 c4
          go_wp2
          go_ret
          exact ⟨⟨false, rfl, HRET.out (by rw [HN.out]; simp)⟩, b1W⟩
        have t45 : ((lk : Int) == 45) = false := by simp; omega
        have t45n : (lk != 45) = true := by simpa using h45
        rw [t45n] at HN
        go_wp2_with fail
        refine (LK _).mono ?_
        rintro e w3 ⟨rfl, rfl⟩
        generalize wr.alloc (.cells #[.int .i64 kd, .int .i64 nm, .string tx, .int .i64 ks, .int .i64 pl] 39) = W1 at nW bW b1W b2W ⊢
        obtain ⟨n0, n1, n2, n3, n4⟩ := nW
        simp only [Nat.zero_add] at n0 n1 n2 n3 n4
        have lW : wr.heap.size < W1.heap.size := lt_of_cell n0
        clear LK
        cases ow
        · go_wp2_with fail
          refine (OW _).mono ?_
          rintro e w4 ⟨rfl, hb4⟩
          have b1 := Below.step b1W hb4
          clear OW SH hz hx1 hbw hb2 bW c0 c1 c2 c3 c4 n0 n1 n2 n3 n4 hb4
          go_wp2
          go_ret
          exact ⟨⟨false, rfl, HRET.out (by rw [HN.out]; simp)⟩, b1⟩
        go_wp2_with fail
        refine (OW _).mono ?_
        rintro e w4 ⟨rfl, hb4⟩
        have b1 := Below.step b1W hb4
        have b2 := Below.step b2W hb4
        have nW4 : NodeAt w4 wr.heap.size 0 ⟨kd, nm, tx, ks, pl⟩ := by
          have h9 : NodeAt W1 wr.heap.size 0 ⟨kd, nm, tx, ks, pl⟩ := ⟨n0, n1, n2, n3, n4⟩
          exact h9.below hb4
        obtain ⟨m0, m1, m2, m3, m4⟩ := nW4
        simp only [Nat.zero_add] at m0 m1 m2 m3 m4
        have lW4 : wr.heap.size < w4.heap.size := lt_of_cell m0
        clear OW hbw hb2 bW c0 c1 c2 c3 c4 n0 n1 n2 n3 n4 hb4 b1W b2W
        cases htu : tup1 ⟨kd, nm, tx, ks, pl⟩
        rotate_left
        · rw [htu] at HN
          have hks : ks = 1 := by
            unfold tup1 at htu
            simp at htu
            exact htu.1
          subst hks
          have hkd : kd = 75 ∨ kd = 20 ∨ kd = 14 := by
            unfold tup1 at htu
            simp at htu
            omega
          have HF : Hid (false = true ↔ FormS t) := HRET.out (by rw [HN.out]; simp)
          clear HN HRET HSTEP SH hx1 hz htu
          rcases hkd with rfl | rfl | rfl
          all_goals
            go_wp2
            go_ret
            exact ⟨⟨false, rfl, HF.out⟩, b1⟩
        rw [htu] at HN
        have hnt : ks = 1 → kd ≠ 75 ∧ kd ≠ 20 ∧ kd ≠ 14 := by
          intro h8
          subst h8
          unfold tup1 at htu
          simp at htu
          omega
        clear htu
        have hz4 : Ints w4 w.heap.size gz cz n (ys.map szOf) := hz.below b2
        have hx4 : Nodes w4 (some ⟨b0, o0, none⟩) t := hx1.below b2
        clear hz hx1
        have RT := fun (W : World) (hW : Below w4.heap.size w4 W) => roots60_any t ys K n k q HM h6 HK HQ hkn HYL (some ⟨b0, o0, none⟩) cap gz cz w.heap.size W (hx4.below hW) (hz4.below hW)
        have FT := fun (W : World) (hW : Below w4.heap.size w4 W) (G : Nat) (hG : Ints W w4.heap.size G q q (rts K)) => fits_shape ⟨kd, nm, tx, ks, pl⟩ t n HM (K.map (fun s => s.rt)) q HQR hKl HR (some ⟨b0, o0, none⟩) cap G w4.heap.size W (hx4.below hW) (by rw [hNat]; exact hG)
        obtain ⟨sh, hsh⟩ : ∃ sh, shapeB ⟨kd, nm, tx, ks, pl⟩ = sh := ⟨_, rfl⟩
        rw [hsh] at SH FT HN
        obtain ⟨z, hzz⟩ : ∃ z, fitsB sh (starOf sh) ((K.map (fun s => s.rt)).map (ndAt t)) = z := ⟨_, rfl⟩
        rw [hzz] at FT
        rw [HKN.out, hzz] at HN
        clear hsh hzz hx4 hz4
        have N4 : NodeAt w4 wr.heap.size 0 ⟨kd, nm, tx, ks, pl⟩ := ⟨by simpa using m0, by simpa using m1, by simpa using m2, by simpa using m3, by simpa using m4⟩
        have hbd : Below w4.heap.size w4 w4.drew := Below.drew (Below.refl _ _)
        by_cases hk1 : ks = 1
        · obtain ⟨h75, h20, h14⟩ := hnt hk1
          subst hk1
          have u75 : (kd == 75) = false := by simpa using h75
          have u20 : (kd == 20) = false := by simpa using h20
          have u14 : (kd == 14) = false := by simpa using h14
          cases z
          · have HF : Hid (false = true ↔ FormS t) := HRET.out (by rw [HN.out]; rfl)
            clear HN HRET HSTEP
            go_wp2_with fail
            go_region_with (first
              | (go_at_call 25; refine (RT _ hbd).mono ?_; rintro e w5 ⟨G, rfl, hG, hb5⟩; have hbe := Below.step hbd hb5; obtain ⟨p0, p1, p2, p3, p4⟩ := N4.below hbe; simp only [Nat.zero_add] at p0 p1 p2 p3 p4; have l5 : wr.heap.size < w5.heap.size := lt_of_cell p0)
              | (go_at_call 26; refine (SH _).mono ?_; rintro e w6 ⟨rfl, hb6⟩; have hbf := Below.step hbe hb6)
              | (go_at_call 24; refine (FT _ hbf G (hG.below hb6)).mono ?_; rintro e w7 ⟨rfl, hb7⟩; have hbg := Below.step hbf hb7))
            all_goals
              have b9 := Below.step b1 hbg
              clear RT SH FT hbd hbe hbf hbg hb5 hb6 hb7 hG p0 p1 p2 p3 p4 m0 m1 m2 m3 m4 N4
              go_wp2
              go_ret
              exact ⟨⟨false, rfl, HF.out⟩, b9⟩
          · have HF : Hid (∀ i, i < k + 1 → okS t i = true) := HSTEP.out (by rw [HN.out]; rfl)
            clear HN HRET HSTEP
            go_wp2_with fail
            go_region_with (first
              | (go_at_call 25; refine (RT _ hbd).mono ?_; rintro e w5 ⟨G, rfl, hG, hb5⟩; have hbe := Below.step hbd hb5; obtain ⟨p0, p1, p2, p3, p4⟩ := N4.below hbe; simp only [Nat.zero_add] at p0 p1 p2 p3 p4; have l5 : wr.heap.size < w5.heap.size := lt_of_cell p0)
              | (go_at_call 26; refine (SH _).mono ?_; rintro e w6 ⟨rfl, hb6⟩; have hbf := Below.step hbe hb6)
              | (go_at_call 24; refine (FT _ hbf G (hG.below hb6)).mono ?_; rintro e w7 ⟨rfl, hb7⟩; have hbg := Below.step hbf hb7))
            all_goals
              have b9 := Below.step b1 hbg
              have b8 := Below.step b2 hbg
              clear RT SH FT hbd hbe hbf hbg hb5 hb6 hb7 hG p0 p1 p2 p3 p4 m0 m1 m2 m3 m4 N4
              go_wp2
              go_roundw
              case rel => exact ⟨k + 1, by omega, by rw [HAA.out]; rfl, by go_num, HF.out, b9, b8⟩
              case measure => simp [intOf]; omega
        · have tk1 : (ks == 1) = false := by simpa using hk1
          cases z
          · have HF : Hid (false = true ↔ FormS t) := HRET.out (by rw [HN.out]; rfl)
            clear HN HRET HSTEP
            go_wp2_with fail
            go_region_with (first
              | (go_at_call 25; refine (RT _ hbd).mono ?_; rintro e w5 ⟨G, rfl, hG, hb5⟩; have hbe := Below.step hbd hb5; obtain ⟨p0, p1, p2, p3, p4⟩ := N4.below hbe; simp only [Nat.zero_add] at p0 p1 p2 p3 p4; have l5 : wr.heap.size < w5.heap.size := lt_of_cell p0)
              | (go_at_call 26; refine (SH _).mono ?_; rintro e w6 ⟨rfl, hb6⟩; have hbf := Below.step hbe hb6)
              | (go_at_call 24; refine (FT _ hbf G (hG.below hb6)).mono ?_; rintro e w7 ⟨rfl, hb7⟩; have hbg := Below.step hbf hb7))
            all_goals
              have b9 := Below.step b1 hbg
              clear RT SH FT hbd hbe hbf hbg hb5 hb6 hb7 hG p0 p1 p2 p3 p4 m0 m1 m2 m3 m4 N4
              go_wp2
              go_ret
              exact ⟨⟨false, rfl, HF.out⟩, b9⟩
          · have HF : Hid (∀ i, i < k + 1 → okS t i = true) := HSTEP.out (by rw [HN.out]; rfl)
            clear HN HRET HSTEP
            go_wp2_with fail
            go_region_with (first
              | (go_at_call 25; refine (RT _ hbd).mono ?_; rintro e w5 ⟨G, rfl, hG, hb5⟩; have hbe := Below.step hbd hb5; obtain ⟨p0, p1, p2, p3, p4⟩ := N4.below hbe; simp only [Nat.zero_add] at p0 p1 p2 p3 p4; have l5 : wr.heap.size < w5.heap.size := lt_of_cell p0)
              | (go_at_call 26; refine (SH _).mono ?_; rintro e w6 ⟨rfl, hb6⟩; have hbf := Below.step hbe hb6)
              | (go_at_call 24; refine (FT _ hbf G (hG.below hb6)).mono ?_; rintro e w7 ⟨rfl, hb7⟩; have hbg := Below.step hbf hb7))
            all_goals
              have b9 := Below.step b1 hbg
              have b8 := Below.step b2 hbg
              clear RT SH FT hbd hbe hbf hbg hb5 hb6 hb7 hG p0 p1 p2 p3 p4 m0 m1 m2 m3 m4 N4
              go_wp2
              go_roundw
              case rel => exact ⟨k + 1, by omega, by rw [HAA.out]; rfl, by go_num, HF.out, b9, b8⟩
              case measure => simp [intOf]; omega

end Go.Proofs.Ytocidoamfofefaa
