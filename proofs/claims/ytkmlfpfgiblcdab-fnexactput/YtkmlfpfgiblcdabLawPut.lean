
import Derived.Test.YtkmlfpfgiblcdabBSM
import Derived.Test.YtkmlfpfgiblcdabAns
import Derived.Test.YtkmlfpfgiblcdabSPut
namespace Go.Proofs.Ytkmlfpfgiblcdab
open Go.RowKit

theorem alike_same (xs : List Nd) : Alike Nd.eqb xs xs := ⟨rfl, fun _ _ _ => Nd.eqb_refl _⟩

theorem putOf_le (bs : List (Int × List Nd)) (t : List Nd) : (putOf bs t).length ≤ 300 := by
  unfold putOf
  split
  · rename_i h
    exact h.2.2
  · simp

theorem TwoB.mem_lt {w : World} {g : Nat} {gs : List Nat} {bs : List (Int × List Nd)} (h : TwoB w g gs bs) : ∀ x ∈ gs, x < w.heap.size := by
  intro x hx
  obtain ⟨i, hi, rfl⟩ := List.getElem_of_mem hx
  have h9 := h.rows.1
  exact (h.rows.2 i hi (by omega)).lt

theorem TwoB.lt {w : World} {g : Nat} {gs : List Nat} {bs : List (Int × List Nd)} (h : TwoB w g gs bs) : g < w.heap.size := OwnT.lt h.lead

theorem total_mem (bs : List (Int × List Nd)) (b : Int × List Nd) (h : b ∈ bs) : b.2.length ≤ total (tys bs) := by
  obtain ⟨i, hi, rfl⟩ := List.getElem_of_mem h
  have h9 := length_le_total (tys bs) i (by simpa [tys] using hi)
  rw [tys_get bs i hi] at h9
  exact h9

set_option maxHeartbeats 2000000 in
theorem lawPut (bs : List (Int × List Nd)) (xs : List Nd) (bo ao : Option Addr) (cab cap : Nat) (w : World) (hbs : Binds w bo bs) (hx : Nodes w ao xs)
    (hsb : ∀ b ∈ bs, ∀ x ∈ b.2, x.text.size ≤ maxLen) (hmb : ∀ b ∈ bs, b.2.length ≤ 9223372036854775807) (hlb : bs.length ≤ 9223372036854775807)
    (hsx : ∀ x ∈ xs, x.text.size ≤ maxLen) (hlx : xs.length ≤ 9223372036854775807)
    (hI : ∀ (n l g gx : Nat) (gs : List Nat) (W : World), bs.length = n → n ≤ 1048576 → (∀ b ∈ bs, b.2.length ≤ 1048576) → xs.length = l → l ≤ 1048576 → TwoB W g gs bs → Row W gx xs → Calls Try.prog 26 #[.slice (some ⟨g, 0, none⟩) n n, .slice (some ⟨gx, 0, none⟩) l l] W fun e w' => ∃ ag cg, e = .returned (.slice ag (putOf bs xs).length cg) ∧ Ans w' W.heap.size ag (putOf bs xs) ∧ Below W.heap.size W w') :
    Calls Try.prog 6 #[.slice bo bs.length cab, .slice ao xs.length cap] w fun e w' => e = .returned (.bool true) ∧ Below w.heap.size w w' := by
  obtain ⟨n, hnn⟩ : ∃ n, bs.length = n := ⟨_, rfl⟩
  have HNB : Hid (bs.length = n) := hnn
  rw [hnn] at hlb ⊢
  go_enter Try.func6, Try.ntmps6
  go_wp2_with fail
  refine (szBindS_any bs n HNB bo cab 1048576 w hbs hsb hmb hlb (by omega) (by omega)).mono ?_
  rintro e w0 ⟨⟨r0, rfl, hr⟩, b0⟩
  rcases hr with hr | ⟨hr0, hr1⟩
  · subst hr
    clear hbs hx hsb hmb hsx hI
    go_wp2
    go_ret
    exact ⟨rfl, b0⟩
  have hr2 : r0 ≤ 1048576 := by omega
  have hnl : n ≤ 1048576 := by omega
  have htl : total (tys bs) ≤ 1048576 := by omega
  have hx0 := hx.below b0
  have tr0 : decide (r0 < 0) = false := decide_eq_false (by omega)
  have HMB : Hid (∀ b ∈ bs, b.2.length ≤ 1048576) := fun b hb => by have := total_mem bs b hb; omega
  have HHB : Hid (Binds w bo bs) := hbs
  have HHX : Hid (Nodes w ao xs) := hx
  have HI0 := hI
  clear hsb hmb hbs hx hI
  go_wp2_with fail
  refine (szNodeS_any xs ao cap r0 w0 hx0 hsx hlx hr0 (by omega)).mono ?_
  rintro e w1 ⟨⟨r, rfl, hr⟩, b1⟩
  have b1 := Below.step b0 b1
  clear b0 hx0
  rcases hr with hr | ⟨hr3, hr4⟩
  · subst hr
    clear hsx HI0
    go_wp2
    go_ret
    exact ⟨rfl, b1⟩
  have lx : xs.length ≤ 1048576 := by omega
  obtain ⟨l, hl⟩ : ∃ l, xs.length = l := ⟨_, rfl⟩
  have HL : Hid (xs.length = l) := hl
  rw [hl] at lx ⊢
  have tr : decide (r < 0) = false := decide_eq_false (by omega)
  clear hr4 hr1 hlx hsx
  have TON : Hid (∀ W, Below w.heap.size w W → Calls Try.prog 11 #[.slice ao l cap] W fun e w' => ∃ g, e = .returned (.slice (some ⟨g, 0, none⟩) l l) ∧ W.heap.size ≤ g ∧ Row w' g xs ∧ Below W.heap.size W w') := by
    intro W hW
    have h9 := toNodeS_any xs ao cap W (HHX.out.below hW) (by have := HL.out; omega)
    rw [HL.out] at h9
    exact h9
  have TOB : Hid (∀ W, Below w.heap.size w W → Calls Try.prog 25 #[.slice bo n cab] W fun e w' => ∃ g gs, e = .returned (.slice (some ⟨g, 0, none⟩) n n) ∧ W.heap.size ≤ g ∧ (∀ x ∈ gs, W.heap.size ≤ x) ∧ TwoB w' g gs bs ∧ Below W.heap.size W w') := fun W hW => toBindS_any bs n HNB bo cab W (HHB.out.below hW) HMB.out hnl
  obtain ⟨Z, hZ⟩ : ∃ Z, putOf bs xs = Z := ⟨_, rfl⟩
  have HZ : Hid (putOf bs xs = Z) := hZ
  obtain ⟨p, hp⟩ : ∃ p, Z.length = p := ⟨_, rfl⟩
  have HP : Hid (Z.length = p) := hp
  have hpl : p ≤ 300 := by have := putOf_le bs xs; rw [hZ, hp] at this; exact this
  have HI : Hid (∀ (g gx : Nat) (gs : List Nat) (W : World), TwoB W g gs bs → Row W gx xs → Calls Try.prog 26 #[.slice (some ⟨g, 0, none⟩) n n, .slice (some ⟨gx, 0, none⟩) l l] W fun e w' => ∃ ag cg, e = .returned (.slice ag p cg) ∧ Ans w' W.heap.size ag Z ∧ Below W.heap.size W w') := by
    intro g gx gs W h1 h2
    have h9 := HI0 n l g gx gs W hnn hnl HMB.out hl lx h1 h2
    rw [hZ, hp] at h9
    exact h9
  clear HI0 hZ hp hl hnn
  -- w0 := spec.Put(toBindS(aBinds), toNodeS(aTy))
  go_wp2_with fail
  refine (TOB.out w1 b1).mono ?_
  rintro e w2 ⟨ga, gas, rfl, _, _, TA, b2⟩
  have b2 := Below.step b1 b2
  clear b1
  go_wp2_with fail
  refine (TON.out w2 b2).mono ?_
  rintro e w3 ⟨g1, rfl, _, R1, b3⟩
  have TA := TA.below b3
  have b3 := Below.step b2 b3
  clear b2
  go_wp2_with fail
  refine (specPut_any bs n HNB hnl HMB.out xs l HL lx _ _ _ _ w3 TA.binds R1.nodes).mono ?_
  rintro e w4 ⟨gw, cw, l4, rfl, _, hl4, RW, b4⟩
  rw [HZ.out] at hl4 RW
  have e4 : l4 = p := by rw [← hl4]; exact HP.out
  rw [e4]
  have lw := RW.lt
  have b4 := Below.step b3 b4
  clear b3 TA R1 hl4 e4
  -- x0, x1
  go_wp2_with fail
  refine (TOB.out w4 b4).mono ?_
  rintro e w5 ⟨gx, gxs, rfl, hgx, hgxs, TX, b5⟩
  have RW := RW.below b5
  have hs45 := b5.size
  have hw4 := b4.size
  have b5 := Below.step b4 b5
  clear b4
  have lt5 := TX.mem_lt
  have lg5 := TX.lt
  go_wp2_with fail
  refine (TON.out w5 b5).mono ?_
  rintro e w6 ⟨gy, rfl, hgy, RY, b6⟩
  have RW := RW.below b6
  have TX := TX.below b6
  have ly6 := RY.lt
  have lw6 := RW.lt
  have hs56 := b6.size
  have b6 := Below.step b5 b6
  clear b5
  have HGX : Hid (∀ x ∈ gxs, w4.heap.size ≤ x ∧ x < w5.heap.size) := fun x hx => ⟨hgxs x hx, lt5 x hx⟩
  clear hgxs lt5
  -- g0 := impl.Put(x0, x1)
  go_wp2_with fail
  refine (HI.out gx gy gxs w6 TX RY).mono ?_
  rintro e w7 ⟨ag, cg, rfl, RG, b7⟩
  obtain ⟨B7, hB7⟩ : ∃ B, w6.heap.size = B := ⟨_, rfl⟩
  rw [hB7] at RG ly6 lw6 hs56
  have hw7 : w.heap.size ≤ B7 := by have := b6.size; omega
  have RW := RW.below b7
  have RY := RY.below b7
  have TX := TX.below b7
  have b7 := Below.step b6 b7
  clear b6 hB7
  go_wp2_with fail
  refine (eqNodeS_any Z Z p p HP HP _ _ _ _ w7 RG.nodes RW.nodes (by omega) (by omega)).mono ?_
  rintro e w8 ⟨⟨u8, rfl, hu⟩, b8⟩
  have hu1 : u8 = true := hu.2 (alike_same Z)
  subst hu1
  have RW := RW.below b8
  have RY := RY.below b8
  have TX := TX.below b8
  have RG := RG.below b8
  have b8 := Below.step b7 b8
  clear b7 hu
  -- eqBindS(x0, toBindS(aBinds))
  go_wp2_with fail
  refine (TOB.out w8 b8).mono ?_
  rintro e w9 ⟨g9, gs9, rfl, _, _, T9, b9⟩
  have RW := RW.below b9
  have RY := RY.below b9
  have TX := TX.below b9
  have RG := RG.below b9
  have b9 := Below.step b8 b9
  clear b8
  go_wp2_with fail
  refine (eqBindS_same bs n HNB _ _ _ _ w9 TX.binds T9.binds HMB.out hnl).mono ?_
  rintro e w10 ⟨rfl, b10⟩
  have RW := RW.below b10
  have RY := RY.below b10
  have TX := TX.below b10
  have RG := RG.below b10
  have b10 := Below.step b9 b10
  clear b9 T9
  -- eqNodeS(x1, toNodeS(aTy))
  go_wp2_with fail
  refine (TON.out w10 b10).mono ?_
  rintro e w11 ⟨g11, rfl, _, R11, b11⟩
  have RW := RW.below b11
  have RY := RY.below b11
  have TX := TX.below b11
  have RG := RG.below b11
  have b11 := Below.step b10 b11
  clear b10
  go_wp2_with fail
  refine (eqNodeS_any xs xs l l HL HL _ _ _ _ w11 RY.nodes R11.nodes (by omega) (by omega)).mono ?_
  rintro e w12 ⟨⟨u12, rfl, hu⟩, b12⟩
  have hu1 : u12 = true := hu.2 (alike_same xs)
  subst hu1
  have RW := RW.below b12
  have RY := RY.below b12
  have TX := TX.below b12
  have RG := RG.below b12
  have b12 := Below.step b11 b12
  clear b11 hu R11
  -- k = markBindS(x0, 1)
  go_wp2_with fail
  refine (markBindS_any bs n HNB gx gxs n 1 w12 TX htl hnl (by omega) (by omega)).mono ?_
  rintro e w13 ⟨rfl, bu⟩
  have hin : ∀ q, (q = gx ∨ q ∈ gxs) → w4.heap.size ≤ q ∧ q < w5.heap.size := by
    intro q hq
    rcases hq with rfl | hq
    · exact ⟨hgx, lg5⟩
    · exact HGX.out q hq
  have RW := bu.row RW (fun h => by have := hin _ h; omega)
  have RY := bu.row RY (fun h => by have := hin _ h; omega)
  have RG := RG.but bu (fun q _ hq _ h => by have := hin _ h; omega)
  have b13 : Below w.heap.size w w13 := b12.trans (bu.below b12.size (fun q hq => by have := hin _ hq; omega))
  clear b12 TX bu hin
  obtain ⟨km, hkm⟩ : ∃ km, 1 + n + 5 * total (tys bs) = km := ⟨_, rfl⟩
  have hkm1 : km ≤ 100000000 := by omega
  have hkm0 : 0 < km := by omega
  rw [hkm]
  clear hkm
  -- k = markNodeS(x1, k)
  go_wp2_with fail
  refine (markNodeS_any xs l gy l km w13 HL RY (by omega) hkm1 hkm0).mono ?_
  rintro e w14 ⟨rfl, _, bu⟩
  have RW := bu.row RW (by omega)
  have RG := RG.but bu (fun q _ hq _ e => by omega)
  have b14 : Below w.heap.size w w14 := b13.trans (bu.below b13.size (fun q hq => by omega))
  clear b13 RY bu
  obtain ⟨kn, hkn⟩ : ∃ kn, km + 5 * l = kn := ⟨_, rfl⟩
  have hkn1 : kn ≤ 200000000 := by omega
  rw [hkn]
  have tk : decide ((kn : Int) < 0) = false := decide_eq_false (by omega)
  clear hkn
  go_wp2_with fail
  refine (eqNodeS_any Z Z p p HP HP _ _ _ _ w14 RG.nodes RW.nodes (by omega) (by omega)).mono ?_
  rintro e w15 ⟨⟨u15, rfl, hu⟩, b15⟩
  have hu1 : u15 = true := hu.2 (alike_same Z)
  subst hu1
  have RW := RW.below b15
  have RG := RG.below b15
  have b15 := Below.step b14 b15
  clear b14 hu
  -- m, q
  go_wp2_with fail
  refine (markNodeS_ans Z p B7 ag cg 1 w15 HP RG (by omega) (by omega) (by omega)).mono ?_
  rintro e w16 ⟨rfl, RM, bu⟩
  have RW := bu.row RW (fun h => by have := h.2; omega)
  have b16 : Below w.heap.size w w16 := b15.trans (bu.below b15.size (fun q hq => by have := hq.2; omega))
  clear b15 RG bu
  go_wp2_with fail
  refine (heldNodeS_ans p B7 ag cg 1 w16 RM (by omega) (by omega) (by omega)).mono ?_
  rintro e w17 ⟨rfl, b17⟩
  have RW := RW.below b17
  have RM := RM.below b17
  have b17 := Below.step b16 b17
  clear b16
  -- h0
  go_wp2_with fail
  refine (TOB.out w17 b17).mono ?_
  rintro e w18 ⟨g18, gs18, rfl, _, _, T18, b18⟩
  have RW := RW.below b18
  have RM := RM.below b18
  have b18 := Below.step b17 b18
  clear b17
  go_wp2_with fail
  refine (TON.out w18 b18).mono ?_
  rintro e w19 ⟨g19, rfl, _, R19, b19⟩
  have RW := RW.below b19
  have RM := RM.below b19
  have T18 := T18.below b19
  have b19 := Below.step b18 b19
  clear b18
  go_wp2_with fail
  refine (HI.out g18 g19 gs18 w19 T18 R19).mono ?_
  rintro e w20 ⟨ah, ch, rfl, RH, b20⟩
  have RW := RW.below b20
  have RM := RM.below b20
  have b20 := Below.step b19 b20
  clear b19 T18 R19
  go_wp2_with fail
  refine (eqNodeS_any Z Z p p HP HP _ _ _ _ w20 RH.nodes RW.nodes (by omega) (by omega)).mono ?_
  rintro e w21 ⟨⟨u21, rfl, hu⟩, b21⟩
  have hu1 : u21 = true := hu.2 (alike_same Z)
  subst hu1
  have RM := RM.below b21
  have b21 := Below.step b20 b21
  clear b20 hu RH RW
  go_wp2_with fail
  refine (heldNodeS_ans p B7 ag cg 1 w21 RM (by omega) (by omega) (by omega)).mono ?_
  rintro e w22 ⟨rfl, b22⟩
  have b22 := Below.step b21 b22
  clear b21 RM
  go_wp2
  go_ret
  exact ⟨rfl, b22⟩

end Go.Proofs.Ytkmlfpfgiblcdab
