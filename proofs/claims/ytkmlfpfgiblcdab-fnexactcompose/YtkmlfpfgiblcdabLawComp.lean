
import Derived.Test.YtkmlfpfgiblcdabSComp
namespace Go.Proofs.Ytkmlfpfgiblcdab
open Go.RowKit

theorem TwoB.mem_lt {w : World} {g : Nat} {gs : List Nat} {bs : List (Int × List Nd)} (h : TwoB w g gs bs) : ∀ x ∈ gs, x < w.heap.size := by
  intro x hx
  obtain ⟨i, hi, rfl⟩ := List.getElem_of_mem hx
  have h9 := h.rows.1
  exact (h.rows.2 i hi (by omega)).lt

theorem TwoB.lt {w : World} {g : Nat} {gs : List Nat} {bs : List (Int × List Nd)} (h : TwoB w g gs bs) : g < w.heap.size := OwnT.lt h.lead

theorem total_mem (bs : List (Int × List Nd)) (b : Int × List Nd) (h : b ∈ bs) : b.2.length ≤ total (tys bs) := by
  obtain ⟨i, hi, rfl⟩ := List.getElem_of_mem h
  have h9 := length_le_total (tys bs) i (by simpa [tys] using hi)
  rw [tys_get bs i hi] at h9
  exact h9

/-- An answer that lies between two blocks. -/
def BIn (w : World) (B C : Nat) (ao : Option Addr) (bs : List (Int × List Nd)) : Prop := bs = [] ∨ ∃ g rs, ao = some ⟨g, 0, none⟩ ∧ (B ≤ g ∧ g < C) ∧ (∀ r ∈ rs, B ≤ r.1 ∧ r.1 < C) ∧ TwoR w g rs bs

theorem BAns.within {w : World} {B : Nat} {ao : Option Addr} {bs : List (Int × List Nd)} (h : BAns w B ao bs) : BIn w B w.heap.size ao bs := by
  rcases h with h | ⟨g, rs, e, h1, h2, hr⟩
  · exact Or.inl h
  · exact Or.inr ⟨g, rs, e, ⟨h1, hr.lt⟩, fun r hm => ⟨h2 r hm, (hr.mem_lt r hm).1⟩, hr⟩

theorem BIn.binds {w : World} {B C : Nat} {ao : Option Addr} {bs : List (Int × List Nd)} (h : BIn w B C ao bs) : Binds w ao bs := by
  rcases h with rfl | ⟨g, rs, rfl, _, _, hr⟩
  · exact fun i hi => by simp at hi
  · exact hr.binds

theorem BIn.below {w w' : World} {B C : Nat} {ao : Option Addr} {bs : List (Int × List Nd)} (h : BIn w B C ao bs) (hb : Below w.heap.size w w') : BIn w' B C ao bs := by
  rcases h with rfl | ⟨g, rs, rfl, h1, h2, hr⟩
  · exact Or.inl rfl
  · exact Or.inr ⟨g, rs, rfl, h1, h2, hr.below hb⟩

theorem BIn.but {S : Nat → Prop} {w w' : World} {B C : Nat} {ao : Option Addr} {bs : List (Int × List Nd)} (h : BIn w B C ao bs) (hb : But S w w') (hS : ∀ q, q < C → ¬ S q) : BIn w' B C ao bs := by
  rcases h with rfl | ⟨g, rs, rfl, h1, h2, hr⟩
  · exact Or.inl rfl
  · exact Or.inr ⟨g, rs, rfl, h1, h2, hr.but hb (hS g h1.2) (fun r hm => hS r.1 (h2 r hm).2)⟩

theorem putOf_le (bs : List (Int × List Nd)) (t : List Nd) : (putOf bs t).length ≤ 300 := by
  unfold putOf
  split
  · rename_i h
    exact h.2.2
  · simp

theorem total_bound (bs : List (Int × List Nd)) (c : Nat) (h : ∀ b ∈ bs, b.2.length ≤ c) : total (tys bs) ≤ bs.length * c := by
  induction bs with
  | nil => simp [tys, total]
  | cons b bs ih =>
    have h1 := h b (List.mem_cons_self ..)
    have h2 := ih (fun x hx => h x (List.mem_cons_of_mem _ hx))
    simp only [tys, total, List.map_cons, List.sum_cons, List.length_cons] at h2 ⊢
    rw [Nat.add_mul]
    omega

theorem compOf_bounds (fs ts : List (Int × List Nd)) : (compOf fs ts).length ≤ 1000 ∧ (∀ b ∈ compOf fs ts, b.2.length ≤ 300) := by
  unfold compOf
  split
  · rename_i h
    obtain ⟨h1, h2, h3⟩ := h
    constructor
    · have := numTo_len (fs ++ ts) (fs ++ ts).length (Nat.le_refl _)
      simp only [compNums, List.length_map, sortedM_length]
      simp only [List.length_append] at this ⊢
      omega
    · intro b hb
      obtain ⟨x, hx, rfl⟩ := List.mem_map.1 hb
      show (compTy fs ts x).length ≤ 300
      unfold compTy
      split
      · exact putOf_le _ _
      · cases hg : ts[placeIn (ts.map Prod.fst) x]? with
        | none => simp
        | some b =>
          have hm := List.mem_of_getElem? hg
          have := typeb_len (h2 b (List.mem_append_right _ hm))
          simpa using this
  · simp

set_option maxHeartbeats 2000000 in
theorem lawComp (fs ts : List (Int × List Nd)) (ao bo : Option Addr) (ca cb : Nat) (w : World) (hfs : Binds w ao fs) (hts : Binds w bo ts)
    (hsf : ∀ b ∈ fs, ∀ x ∈ b.2, x.text.size ≤ maxLen) (hmf : ∀ b ∈ fs, b.2.length ≤ 9223372036854775807) (hlf : fs.length ≤ 9223372036854775807)
    (hst : ∀ b ∈ ts, ∀ x ∈ b.2, x.text.size ≤ maxLen) (hmt : ∀ b ∈ ts, b.2.length ≤ 9223372036854775807) (hlt : ts.length ≤ 9223372036854775807)
    (hI : ∀ (n m g h : Nat) (gs hs : List Nat) (W : World), fs.length = n → n ≤ 1048576 → (∀ b ∈ fs, b.2.length ≤ 1048576) → ts.length = m → m ≤ 1048576 → (∀ b ∈ ts, b.2.length ≤ 1048576) → TwoB W g gs fs → TwoB W h hs ts → Calls Try.prog 30 #[.slice (some ⟨g, 0, none⟩) n n, .slice (some ⟨h, 0, none⟩) m m] W fun e w' => ∃ ag cg, e = .returned (.slice ag (compOf fs ts).length cg) ∧ BAns w' W.heap.size ag (compOf fs ts) ∧ Below W.heap.size W w') :
    Calls Try.prog 7 #[.slice ao fs.length ca, .slice bo ts.length cb] w fun e w' => e = .returned (.bool true) ∧ Below w.heap.size w w' := by
  obtain ⟨n, hnn⟩ : ∃ n, fs.length = n := ⟨_, rfl⟩
  obtain ⟨m, hmm⟩ : ∃ m, ts.length = m := ⟨_, rfl⟩
  have HNF : Hid (fs.length = n) := hnn
  have HNT : Hid (ts.length = m) := hmm
  rw [hnn] at hlf ⊢
  rw [hmm] at hlt ⊢
  go_enter Try.func7, Try.ntmps7
  go_wp2_with fail
  refine (szBindS_any fs n HNF ao ca 1048576 w hfs hsf hmf hlf (by omega) (by omega)).mono ?_
  rintro e w0 ⟨⟨r0, rfl, hr⟩, b0⟩
  rcases hr with hr | ⟨hr0, hr1⟩
  · subst hr
    clear hfs hts hsf hmf hst hmt hI
    go_wp2
    go_ret
    exact ⟨rfl, b0⟩
  have hr2 : r0 ≤ 1048576 := by omega
  have hnl : n ≤ 1048576 := by omega
  have htf : total (tys fs) ≤ 1048576 := by omega
  have hts0 := hts.below b0
  have tr0 : decide (r0 < 0) = false := decide_eq_false (by omega)
  have HMF : Hid (∀ b ∈ fs, b.2.length ≤ 1048576) := fun b hb => by have := total_mem fs b hb; omega
  have HHF : Hid (Binds w ao fs) := hfs
  have HHT : Hid (Binds w bo ts) := hts
  have HI0 := hI
  clear hsf hmf hfs hts hI
  go_wp2_with fail
  refine (szBindS_any ts m HNT bo cb r0 w0 hts0 hst hmt hlt hr0 (by omega)).mono ?_
  rintro e w1 ⟨⟨r, rfl, hr⟩, b1⟩
  have b1 := Below.step b0 b1
  clear b0 hts0
  rcases hr with hr | ⟨hr3, hr4⟩
  · subst hr
    clear hst hmt HI0
    go_wp2
    go_ret
    exact ⟨rfl, b1⟩
  have hml : m ≤ 1048576 := by omega
  have htt : total (tys ts) ≤ 1048576 := by omega
  have HMT : Hid (∀ b ∈ ts, b.2.length ≤ 1048576) := fun b hb => by have := total_mem ts b hb; omega
  have tr : decide (r < 0) = false := decide_eq_false (by omega)
  clear hr4 hr1 hlf hlt hst hmt
  have TOF : Hid (∀ W, Below w.heap.size w W → Calls Try.prog 25 #[.slice ao n ca] W fun e w' => ∃ g gs, e = .returned (.slice (some ⟨g, 0, none⟩) n n) ∧ W.heap.size ≤ g ∧ (∀ x ∈ gs, W.heap.size ≤ x) ∧ TwoB w' g gs fs ∧ Below W.heap.size W w') := fun W hW => toBindS_any fs n HNF ao ca W (HHF.out.below hW) HMF.out hnl
  have TOT : Hid (∀ W, Below w.heap.size w W → Calls Try.prog 25 #[.slice bo m cb] W fun e w' => ∃ g gs, e = .returned (.slice (some ⟨g, 0, none⟩) m m) ∧ W.heap.size ≤ g ∧ (∀ x ∈ gs, W.heap.size ≤ x) ∧ TwoB w' g gs ts ∧ Below W.heap.size W w') := fun W hW => toBindS_any ts m HNT bo cb W (HHT.out.below hW) HMT.out hml
  obtain ⟨Z, hZ⟩ : ∃ Z, compOf fs ts = Z := ⟨_, rfl⟩
  have HZ : Hid (compOf fs ts = Z) := hZ
  obtain ⟨p, hp⟩ : ∃ p, Z.length = p := ⟨_, rfl⟩
  have HP : Hid (Z.length = p) := hp
  obtain ⟨hpl, hpb⟩ := compOf_bounds fs ts
  rw [hZ] at hpl hpb
  have htz : total (tys Z) ≤ 1048576 := by have := total_bound Z 300 hpb; omega
  have HPB : Hid (∀ b ∈ Z, b.2.length ≤ 1048576) := fun b hb => by have := hpb b hb; omega
  rw [hp] at hpl
  have HI : Hid (∀ (g h : Nat) (gs hs : List Nat) (W : World), TwoB W g gs fs → TwoB W h hs ts → Calls Try.prog 30 #[.slice (some ⟨g, 0, none⟩) n n, .slice (some ⟨h, 0, none⟩) m m] W fun e w' => ∃ ag cg, e = .returned (.slice ag p cg) ∧ BAns w' W.heap.size ag Z ∧ Below W.heap.size W w') := by
    intro g h gs hs W h1 h2
    have h9 := HI0 n m g h gs hs W hnn hnl HMF.out hmm hml HMT.out h1 h2
    rw [hZ, hp] at h9
    exact h9
  clear HI0 hZ hp hnn hmm hpb
  -- w0
  go_wp2_with fail
  refine (TOF.out w1 b1).mono ?_
  rintro e w2 ⟨ga, gas, rfl, _, _, TA, b2⟩
  have b2 := Below.step b1 b2
  clear b1
  go_wp2_with fail
  refine (TOT.out w2 b2).mono ?_
  rintro e w3 ⟨gc, gcs, rfl, _, _, TC, b3⟩
  have TA := TA.below b3
  have b3 := Below.step b2 b3
  clear b2
  go_wp2_with fail
  refine (specCompose_any fs ts n m HNF HNT hnl hml HMF.out HMT.out _ _ _ _ w3 TA.binds TC.binds).mono ?_
  rintro e w4 ⟨aw, cw, l4, rfl, hl4, RW, b4⟩
  rw [HZ.out] at hl4 RW
  have e4 : l4 = p := by rw [← hl4]; exact HP.out
  rw [e4]
  have RW := RW.within
  have b4 := Below.step b3 b4
  clear b3 TA TC hl4 e4
  -- x0, x1
  go_wp2_with fail
  refine (TOF.out w4 b4).mono ?_
  rintro e w5 ⟨gx, gxs, rfl, hgx, hgxs, TX, b5⟩
  obtain ⟨C4, hC4⟩ : ∃ C, w4.heap.size = C := ⟨_, rfl⟩
  rw [hC4] at RW hgx hgxs
  have hwC : w.heap.size ≤ C4 := by have := b4.size; omega
  have RW := RW.below b5
  have b5 := Below.step b4 b5
  clear b4 hC4
  go_wp2_with fail
  refine (TOT.out w5 b5).mono ?_
  rintro e w6 ⟨gy, gys, rfl, hgy, hgys, TY, b6⟩
  have lt5 := TX.mem_lt
  have lg5 := TX.lt
  have hs5 : C4 ≤ w5.heap.size := by have := TX.lt; omega
  have RW := RW.below b6
  have TX := TX.below b6
  have lt6 := TY.mem_lt
  have lg6 := TY.lt
  have hs56 := b6.size
  have b6 := Below.step b5 b6
  clear b5
  have HGX : Hid (∀ x ∈ gxs, C4 ≤ x ∧ x < w5.heap.size) := fun x hx => ⟨hgxs x hx, lt5 x hx⟩
  have HGY : Hid (∀ x ∈ gys, w5.heap.size ≤ x ∧ x < w6.heap.size) := fun x hx => ⟨hgys x hx, lt6 x hx⟩
  clear hgxs lt5 hgys lt6
  -- g0
  go_wp2_with fail
  refine (HI.out gx gy gxs gys w6 TX TY).mono ?_
  rintro e w7 ⟨ag, cg, rfl, RG, b7⟩
  obtain ⟨B7, hB7⟩ : ∃ B, w6.heap.size = B := ⟨_, rfl⟩
  rw [hB7] at RG lg6 hs56 HGY
  have hw7 : w.heap.size ≤ B7 := by have := b6.size; omega
  have RW := RW.below b7
  have TX := TX.below b7
  have TY := TY.below b7
  have b7 := Below.step b6 b7
  clear b6 hB7
  go_wp2_with fail
  refine (eqBindS_same Z p HP _ _ _ _ w7 RG.binds RW.binds HPB.out (by omega)).mono ?_
  rintro e w8 ⟨rfl, b8⟩
  have RW := RW.below b8
  have TX := TX.below b8
  have TY := TY.below b8
  have RG := RG.below b8
  have b8 := Below.step b7 b8
  clear b7
  go_wp2_with fail
  refine (TOF.out w8 b8).mono ?_
  rintro e w9 ⟨g9, gs9, rfl, _, _, T9, b9⟩
  have RW := RW.below b9
  have TX := TX.below b9
  have TY := TY.below b9
  have RG := RG.below b9
  have b9 := Below.step b8 b9
  clear b8
  go_wp2_with fail
  refine (eqBindS_same fs n HNF _ _ _ _ w9 TX.binds T9.binds HMF.out hnl).mono ?_
  rintro e w10 ⟨rfl, b10⟩
  have RW := RW.below b10
  have TX := TX.below b10
  have TY := TY.below b10
  have RG := RG.below b10
  have b10 := Below.step b9 b10
  clear b9 T9
  go_wp2_with fail
  refine (TOT.out w10 b10).mono ?_
  rintro e w11 ⟨g11, gs11, rfl, _, _, T11, b11⟩
  have RW := RW.below b11
  have TX := TX.below b11
  have TY := TY.below b11
  have RG := RG.below b11
  have b11 := Below.step b10 b11
  clear b10
  go_wp2_with fail
  refine (eqBindS_same ts m HNT _ _ _ _ w11 TY.binds T11.binds HMT.out hml).mono ?_
  rintro e w12 ⟨rfl, b12⟩
  have RW := RW.below b12
  have TX := TX.below b12
  have TY := TY.below b12
  have RG := RG.below b12
  have b12 := Below.step b11 b12
  clear b11 T11
  -- marks of the arguments
  go_wp2_with fail
  refine (markBindS_any fs n HNF gx gxs n 1 w12 TX htf hnl (by omega) (by omega)).mono ?_
  rintro e w13 ⟨rfl, bu⟩
  have hin : ∀ q, (q = gx ∨ q ∈ gxs) → C4 ≤ q ∧ q < w5.heap.size := by
    intro q hq
    rcases hq with rfl | hq
    · exact ⟨hgx, lg5⟩
    · exact HGX.out q hq
  have RW := RW.but bu (fun q hq h => by have := hin _ h; omega)
  have RG := RG.but bu (fun q hq h => by have := hin _ h; omega)
  have TY : TwoB w13 gy gys ts := ⟨OwnT.but TY.lead bu (fun h => by have := hin _ h; omega), ⟨TY.rows.1, fun i h1 h2 => bu.row (TY.rows.2 i h1 h2) (fun h => by have := hin _ h; have := HGY.out _ (List.getElem_mem h1); omega)⟩, TY.nodup⟩
  have b13 : Below w.heap.size w w13 := b12.trans (bu.below b12.size (fun q hq => by have := hin _ hq; omega))
  clear b12 TX bu hin
  obtain ⟨km, hkm⟩ : ∃ km, 1 + n + 5 * total (tys fs) = km := ⟨_, rfl⟩
  have hkm1 : km ≤ 10000000 := by omega
  have hkm0 : 0 < km := by omega
  rw [hkm]
  clear hkm
  go_wp2_with fail
  refine (markBindS_any ts m HNT gy gys m km w13 TY htt hml hkm1 hkm0).mono ?_
  rintro e w14 ⟨rfl, bu⟩
  have hin : ∀ q, (q = gy ∨ q ∈ gys) → w5.heap.size ≤ q ∧ q < B7 := by
    intro q hq
    rcases hq with rfl | hq
    · exact ⟨hgy, lg6⟩
    · exact HGY.out q hq
  have RW := RW.but bu (fun q hq h => by have := hin _ h; omega)
  have RG := RG.but bu (fun q hq h => by have := hin _ h; omega)
  have b14 : Below w.heap.size w w14 := b13.trans (bu.below b13.size (fun q hq => by have := hin _ hq; omega))
  clear b13 TY bu hin
  obtain ⟨kn, hkn⟩ : ∃ kn, km + m + 5 * total (tys ts) = kn := ⟨_, rfl⟩
  have hkn1 : kn ≤ 200000000 := by omega
  rw [hkn]
  have tk : decide ((kn : Int) < 0) = false := decide_eq_false (by omega)
  clear hkn
  go_wp2_with fail
  refine (eqBindS_same Z p HP _ _ _ _ w14 RG.binds RW.binds HPB.out (by omega)).mono ?_
  rintro e w15 ⟨rfl, b15⟩
  have RW := RW.below b15
  have RG := RG.below b15
  have b15 := Below.step b14 b15
  clear b14
  -- m, q
  go_wp2_with fail
  refine (markBindS_ans Z p B7 ag cg 1 w15 HP RG htz (by omega) (by omega) (by omega)).mono ?_
  rintro e w16 ⟨rfl, RM, bu⟩
  have RW := RW.but bu (fun q hq h => by have : B7 ≤ q := h; omega)
  have b16 : Below w.heap.size w w16 := b15.trans (bu.below b15.size (fun q hq => by have : B7 ≤ q := hq; omega))
  clear b15 RG bu
  obtain ⟨kz, hkz⟩ : ∃ kz, 1 + p + 5 * total (tys Z) = kz := ⟨_, rfl⟩
  have HKZ : Hid (1 + p + 5 * total (tys Z) = kz) := hkz
  have hkz1 : kz ≤ 200000000 := by omega
  rw [hkz]
  have tz : decide ((kz : Int) < 0) = false := decide_eq_false (by omega)
  have tzz : ((kz : Int) != (kz : Int)) = false := by simp
  clear hkz
  go_wp2_with fail
  refine (heldBindS_ans Z p B7 ag cg 1 w16 HP RM htz (by omega) (by omega) (by omega)).mono ?_
  rintro e w17 ⟨rfl, b17⟩
  rw [HKZ.out]
  have RW := RW.below b17
  have RM := RM.below b17
  have b17 := Below.step b16 b17
  clear b16
  -- h0
  go_wp2_with fail
  refine (TOF.out w17 b17).mono ?_
  rintro e w18 ⟨g18, gs18, rfl, _, _, T18, b18⟩
  have RW := RW.below b18
  have RM := RM.below b18
  have b18 := Below.step b17 b18
  clear b17
  go_wp2_with fail
  refine (TOT.out w18 b18).mono ?_
  rintro e w19 ⟨g19, gs19, rfl, _, _, T19, b19⟩
  have RW := RW.below b19
  have RM := RM.below b19
  have T18 := T18.below b19
  have b19 := Below.step b18 b19
  clear b18
  go_wp2_with fail
  refine (HI.out g18 g19 gs18 gs19 w19 T18 T19).mono ?_
  rintro e w20 ⟨ah, ch, rfl, RH, b20⟩
  have RW := RW.below b20
  have RM := RM.below b20
  have b20 := Below.step b19 b20
  clear b19 T18 T19
  go_wp2_with fail
  refine (eqBindS_same Z p HP _ _ _ _ w20 RH.binds RW.binds HPB.out (by omega)).mono ?_
  rintro e w21 ⟨rfl, b21⟩
  have RM := RM.below b21
  have b21 := Below.step b20 b21
  clear b20 RH RW
  go_wp2_with fail
  refine (heldBindS_ans Z p B7 ag cg 1 w21 HP RM htz (by omega) (by omega) (by omega)).mono ?_
  rintro e w22 ⟨rfl, b22⟩
  rw [HKZ.out]
  have b22 := Below.step b21 b22
  clear b21 RM
  go_wp2
  go_ret
  exact ⟨rfl, b22⟩

end Go.Proofs.Ytkmlfpfgiblcdab
