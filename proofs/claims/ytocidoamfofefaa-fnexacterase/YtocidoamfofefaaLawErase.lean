
import Derived.Test.YtocidoamfofefaaSz
import Derived.Test.YtocidoamfofefaaTo
import Derived.Test.YtocidoamfofefaaEq
import Derived.Test.YtocidoamfofefaaAns
import Derived.Test.YtocidoamfofefaaSErase
import Derived.Test.YtocidoamfofefaaIErase2
namespace Go.Proofs.Ytocidoamfofefaa
open Go.RowKit

theorem alike_same2 (xs : List Nd) : Alike Nd.eqb xs xs := ⟨rfl, fun _ _ _ => Nd.eqb_refl _⟩

set_option maxHeartbeats 2000000 in
theorem lawErase (xs : List Nd) (ao : Option Addr) (cap : Nat) (w : World) (hx : Nodes w ao xs)
    (hsx : ∀ x ∈ xs, x.text.size ≤ maxLen) (hlx : xs.length ≤ 9223372036854775807) :
    Calls Try.prog 5 #[.slice ao xs.length cap] w fun e w' => e = .returned (.bool true) ∧ Below w.heap.size w w' := by
  go_enter Try.func5, Try.ntmps5
  go_wp2_with fail
  refine (szNodeS_any xs ao cap 1048576 w hx hsx hlx (by omega) (by omega)).mono ?_
  rintro e w1 ⟨⟨r, rfl, hr⟩, b1⟩
  rcases hr with hr | ⟨hr0, hr1⟩
  · subst hr
    go_wp2
    go_ret
    exact ⟨rfl, b1⟩
  have lx : xs.length ≤ 1048576 := by omega
  obtain ⟨l, hl⟩ : ∃ l, xs.length = l := ⟨_, rfl⟩
  have HL : Hid (xs.length = l) := hl
  rw [hl] at lx ⊢
  clear hl hr1 hlx hsx
  have toN : ∀ W, Below w.heap.size w W → Calls Try.prog 9 #[.slice ao l cap] W fun e w' => ∃ g, e = .returned (.slice (some ⟨g, 0, none⟩) l l) ∧ W.heap.size ≤ g ∧ Row w' g xs ∧ Below W.heap.size W w' := by
    intro W hW
    have h9 := toNodeS_any xs ao cap W (hx.below hW) (by have := HL.out; omega)
    rw [HL.out] at h9
    exact h9
  have TON : Hid (∀ W, Below w.heap.size w W → Calls Try.prog 9 #[.slice ao l cap] W fun e w' => ∃ g, e = .returned (.slice (some ⟨g, 0, none⟩) l l) ∧ W.heap.size ≤ g ∧ Row w' g xs ∧ Below W.heap.size W w') := toN
  clear toN hx
  go_wp2_with fail
  refine (TON.out w1 b1).mono ?_
  rintro e w2 ⟨g1, rfl, _, R1, b2⟩
  have b2 := Below.step b1 b2
  clear b1
  go_wp2_with fail
  refine (specErase_any xs l HL lx _ _ w2 R1.nodes).mono ?_
  rintro e w3 ⟨gw, cw, l3, bt, rfl, hbt, hOW, b3⟩
  obtain ⟨Z, hZ⟩ : ∃ Z, (if bt = true then outTo xs l else []) = Z := ⟨_, rfl⟩
  have hpl0 : Z.length ≤ l := by
    rw [← hZ]
    split
    · exact outTo_len xs l
    · simp
  have HI : Hid (∀ (g : Nat) (W : World), Row W g xs → Calls Try.prog 15 #[.slice (some ⟨g, 0, none⟩) l l] W fun e w' => ∃ ag cg, e = .returned (.tuple #[.slice ag Z.length cg, .bool bt]) ∧ Ans w' W.heap.size ag Z ∧ Below W.heap.size W w') := by
    intro g W hR
    refine (implErase_any xs l HL lx _ _ W hR.nodes).mono ?_
    rintro e w' ⟨g', c', l', bt', rfl, hbt', hO', hb'⟩
    obtain rfl : bt' = bt := by rw [Bool.eq_iff_iff, hbt, hbt']
    rw [hZ] at hO'
    have h9 := hO'.row
    have h8 := hO'.1
    subst h8
    exact ⟨_, _, rfl, h9.2.ans h9.1, hb'⟩
  rw [hZ] at hOW
  have RW := hOW.row.2
  have hl3 := hOW.1
  obtain ⟨p, hp⟩ : ∃ p, Z.length = p := ⟨_, rfl⟩
  have HP : Hid (Z.length = p) := hp
  have hpl : p ≤ 1048576 := by omega
  rw [hp] at HI
  have e3 : p = l3 := by omega
  subst e3
  have hbn : (bt != bt) = false := by simp
  clear hOW hl3 hZ hbt hp hpl0
  have lw := RW.lt
  have b3 := Below.step b2 b3
  clear b2 R1
  go_wp2_with fail
  refine (TON.out w3 b3).mono ?_
  rintro e w4 ⟨gx, rfl, hgx, RX, b4⟩
  have RW := RW.below b4
  have hwx : gw ≠ gx := by omega
  have hgx0 : w.heap.size ≤ gx := by have := b3.size; omega
  have lx4 := RX.lt
  have b4 := Below.step b3 b4
  clear b3
  go_wp2_with fail
  refine (HI.out gx w4 RX).mono ?_
  rintro e w5 ⟨ag, cg, rfl, RG, b5⟩
  obtain ⟨B5, hB5⟩ : ∃ B, w4.heap.size = B := ⟨_, rfl⟩
  have lw4 := RW.lt
  rw [hB5] at RG lx4 lw4
  have hw5 : w.heap.size ≤ B5 := by have := b4.size; omega
  have RW := RW.below b5
  have RX := RX.below b5
  have b5 := Below.step b4 b5
  clear b4 hB5
  go_wp2_with fail
  refine (eqNodeS_any Z Z p p HP HP _ _ _ _ w5 RG.nodes RW.nodes (by omega) (by omega)).mono ?_
  rintro e w6 ⟨⟨u6, rfl, hu⟩, b6⟩
  have hu1 : u6 = true := hu.2 (alike_same2 Z)
  subst hu1
  have RW := RW.below b6
  have RX := RX.below b6
  have RG := RG.below b6
  have b6 := Below.step b5 b6
  clear b5 hu
  go_wp2_with fail
  refine (TON.out w6 b6).mono ?_
  rintro e w7 ⟨g7, rfl, _, R7, b7⟩
  have RW := RW.below b7
  have RX := RX.below b7
  have RG := RG.below b7
  have b7 := Below.step b6 b7
  clear b6
  go_wp2_with fail
  refine (eqNodeS_any xs xs l l HL HL _ _ _ _ w7 RX.nodes R7.nodes (by omega) (by omega)).mono ?_
  rintro e w8 ⟨⟨u8, rfl, hu⟩, b8⟩
  have hu1 : u8 = true := hu.2 (alike_same2 xs)
  subst hu1
  have RW := RW.below b8
  have RX := RX.below b8
  have RG := RG.below b8
  have b8 := Below.step b7 b8
  clear b7 hu R7
  go_wp2_with fail
  refine (markNodeS_any xs l gx l 1 w8 HL RX (by omega) (by omega) (by omega)).mono ?_
  rintro e w9 ⟨rfl, _, bu⟩
  have RW := bu.row RW hwx
  have RG := RG.but bu (fun q _ hq _ e => by omega)
  have b9 : Below w.heap.size w w9 := b8.trans (bu.below b8.size (fun q hq => by rw [hq]; exact hgx0))
  clear b8 RX bu
  go_wp2_with fail
  refine (eqNodeS_any Z Z p p HP HP _ _ _ _ w9 RG.nodes RW.nodes (by omega) (by omega)).mono ?_
  rintro e w10 ⟨⟨u10, rfl, hu⟩, b10⟩
  have hu1 : u10 = true := hu.2 (alike_same2 Z)
  subst hu1
  have RW := RW.below b10
  have RG := RG.below b10
  have b10 := Below.step b9 b10
  clear b9 hu
  go_wp2_with fail
  refine (markNodeS_ans Z p B5 ag cg 1 w10 HP RG (by omega) (by omega) (by omega)).mono ?_
  rintro e w11 ⟨rfl, RM, bu⟩
  have RW := bu.row RW (fun h => by have := h.2; omega)
  have b11 : Below w.heap.size w w11 := b10.trans (bu.below b10.size (fun q hq => by have := hq.2; omega))
  clear b10 RG bu
  go_wp2_with fail
  refine (heldNodeS_ans p B5 ag cg 1 w11 RM (by omega) (by omega) (by omega)).mono ?_
  rintro e w12 ⟨rfl, b12⟩
  have RW := RW.below b12
  have RM := RM.below b12
  have b12 := Below.step b11 b12
  clear b11
  go_wp2_with fail
  refine (TON.out w12 b12).mono ?_
  rintro e w13 ⟨g13, rfl, _, R13, b13⟩
  have RW := RW.below b13
  have RM := RM.below b13
  have b13 := Below.step b12 b13
  clear b12
  go_wp2_with fail
  refine (HI.out g13 w13 R13).mono ?_
  rintro e w14 ⟨ah, ch, rfl, RH, b14⟩
  have RW := RW.below b14
  have RM := RM.below b14
  have b14 := Below.step b13 b14
  clear b13 R13
  go_wp2_with fail
  refine (eqNodeS_any Z Z p p HP HP _ _ _ _ w14 RH.nodes RW.nodes (by omega) (by omega)).mono ?_
  rintro e w15 ⟨⟨u15, rfl, hu⟩, b15⟩
  have hu1 : u15 = true := hu.2 (alike_same2 Z)
  subst hu1
  have RM := RM.below b15
  have b15 := Below.step b14 b15
  clear b14 hu RH RW
  go_wp2_with fail
  refine (heldNodeS_ans p B5 ag cg 1 w15 RM (by omega) (by omega) (by omega)).mono ?_
  rintro e w16 ⟨rfl, b16⟩
  have b16 := Below.step b15 b16
  clear b15 RM
  go_wp2
  go_ret
  exact ⟨rfl, b16⟩

end Go.Proofs.Ytocidoamfofefaa
