import Derived.Test.YtdcnejhlmdkecaaGreatDoorSMeet
import Derived.Test.YtdcnejhlmdkecaaGreatDoorGA
import Derived.Test.YtdcnejhlmdkecaaGreatDoorGT
import Derived.Test.YtdcnejhlmdkecaaGreatDoorGY
namespace Go.Proofs.YtdcnejhlmdkecaaGreatDoor
open Go.RowKit

theorem meetRes_le {a b out : List Nd} {fl : Bool} (h : MeetRes a b out fl) : out.length ≤ 300 := by
  rcases h with ⟨_, rfl, _⟩ | ⟨_, _, _, f, ok, i, bs, _, _, rfl⟩
  · simp
  · split
    · have h1 := canonOf_le (putOf bs (canonOf a))
      have h2 : (putOf bs (canonOf a)).length ≤ 300 := by
        unfold putOf
        split
        · next h8 => exact h8.2.2
        · simp
      omega
    · simp

set_option maxHeartbeats 2000000 in
theorem lawMeet (xs ys : List Nd) (ao bo : Option Addr) (ca cb : Nat) (w : World) (hx : Nodes w ao xs) (hy : Nodes w bo ys)
    (hsx : ∀ x ∈ xs, x.text.size ≤ maxLen) (hlx : xs.length ≤ 9223372036854775807) (hsy : ∀ x ∈ ys, x.text.size ≤ maxLen) (hly : ys.length ≤ 9223372036854775807)
    (hI : ∀ (n m g h : Nat) (W : World), xs.length = n → n ≤ 1048576 → ys.length = m → m ≤ 1048576 → Below w.heap.size w W → Row W g xs → Row W h ys → Calls Tryz.prog 7 #[.slice (some ⟨g, 0, none⟩) n n, .slice (some ⟨h, 0, none⟩) m m] W fun e w' => ∃ ag cg out fl, e = .returned (.tuple #[.slice ag out.length cg, .bool fl]) ∧ MeetRes xs ys out fl ∧ Ans w' W.heap.size ag out ∧ Below W.heap.size W w') :
    Calls Tryz.prog 3 #[.slice ao xs.length ca, .slice bo ys.length cb] w fun e w' => e = .returned (.bool true) ∧ Below w.heap.size w w' := by
  obtain ⟨n, hnn⟩ : ∃ n, xs.length = n := ⟨_, rfl⟩
  obtain ⟨m, hmm⟩ : ∃ m, ys.length = m := ⟨_, rfl⟩
  have HNX : Hid (xs.length = n) := hnn
  have HNY : Hid (ys.length = m) := hmm
  have hzx := szNodeS_any xs ao ca 1048576 w hx hsx hlx (by omega) (by omega)
  have hzy := fun (r : Int) (w0 : World) (h : Nodes w0 bo ys) (h0 : 0 ≤ r) (h1 : r ≤ 1048576) => szNodeS_any ys bo cb r w0 h hsy hly h0 h1
  rw [hnn] at hlx hzx ⊢
  rw [hmm] at hly ⊢
  simp only [hmm] at hzy
  go_enter Tryz.func3, Tryz.ntmps3
  go_wp2_with fail
  refine hzx.mono ?_
  rintro e w0 ⟨⟨r0, rfl, hr⟩, b0⟩
  rcases hr with hr | ⟨hr0, hr1⟩
  · subst hr
    clear hx hy hsx hsy hI hzx hzy
    go_wp2
    go_ret
    exact ⟨rfl, b0⟩
  have hr2 : r0 ≤ 1048576 := by omega
  have hnl : n ≤ 1048576 := by omega
  have hy0 := hy.below b0
  have tr0 : decide (r0 < 0) = false := decide_eq_false (by omega)
  have HHX : Hid (Nodes w ao xs) := hx
  have HHY : Hid (Nodes w bo ys) := hy
  have HI0 := hI
  have hz2 := hzy r0 w0 hy0 hr0 hr2
  clear hsx hx hy hI hzx hzy hsy hy0
  go_wp2_with fail
  refine hz2.mono ?_
  rintro e w1 ⟨⟨r, rfl, hr⟩, b1⟩
  have b1 := Below.step b0 b1
  clear b0 hz2
  rcases hr with hr | ⟨hr3, hr4⟩
  · subst hr
    clear HI0
    go_wp2
    go_ret
    exact ⟨rfl, b1⟩
  have hml : m ≤ 1048576 := by omega
  have tr : decide (r < 0) = false := decide_eq_false (by omega)
  clear hr4 hr1 hlx hly
  have TOX : Hid (∀ W, Below w.heap.size w W → Calls Tryz.prog 6 #[.slice ao n ca] W fun e w' => ∃ g, e = .returned (.slice (some ⟨g, 0, none⟩) n n) ∧ W.heap.size ≤ g ∧ Row w' g xs ∧ Below W.heap.size W w') := by
    intro W hW
    have h9 := toNodeS_any xs ao ca W (HHX.out.below hW) (by omega)
    rw [hnn] at h9
    exact h9
  have TOY : Hid (∀ W, Below w.heap.size w W → Calls Tryz.prog 6 #[.slice bo m cb] W fun e w' => ∃ g, e = .returned (.slice (some ⟨g, 0, none⟩) m m) ∧ W.heap.size ≤ g ∧ Row w' g ys ∧ Below W.heap.size W w') := by
    intro W hW
    have h9 := toNodeS_any ys bo cb W (HHY.out.below hW) (by omega)
    rw [hmm] at h9
    exact h9
  -- w0, w1
  go_wp2_with fail
  refine (TOX.out w1 b1).mono ?_
  rintro e w2 ⟨ga, rfl, _, RA, b2⟩
  have b2 := Below.step b1 b2
  clear b1
  go_wp2_with fail
  refine (TOY.out w2 b2).mono ?_
  rintro e w3 ⟨gc, rfl, _, RC, b3⟩
  have RA := RA.below b3
  have b3 := Below.step b2 b3
  clear b2
  go_wp2_with fail
  refine (specMeet_any xs ys n m HNX HNY hnl hml _ _ _ _ w3 RA.nodes RC.nodes).mono ?_
  rintro e w4 ⟨gw, cw, p, Z, z, rfl, hgw, hp, RW, hRes, b4⟩
  have HP : Hid (Z.length = p) := hp
  have hp3 : p ≤ 300 := by rw [← hp]; exact meetRes_le hRes
  have HI : Hid (∀ (g h : Nat) (W : World), Below w.heap.size w W → Row W g xs → Row W h ys → Calls Tryz.prog 7 #[.slice (some ⟨g, 0, none⟩) n n, .slice (some ⟨h, 0, none⟩) m m] W fun e w' => ∃ ag cg, e = .returned (.tuple #[.slice ag p cg, .bool z]) ∧ Ans w' W.heap.size ag Z ∧ Below W.heap.size W w') := by
    intro g h W h0 h1 h2
    refine (HI0 n m g h W hnn hnl hmm hml h0 h1 h2).mono ?_
    rintro e w' ⟨ag, cg, out, fl, rfl, hr, ha, hb⟩
    obtain ⟨rfl, rfl⟩ := meetRes_same hRes hr
    exact ⟨ag, cg, by rw [hp], ha, hb⟩
  have tzz0 : (z != z) = false := by simp
  have lw := RW.lt
  have b4 := Below.step b3 b4
  clear b3 RA RC hRes HI0 hp hnn hmm
  -- x0, x1
  go_wp2_with fail
  refine (TOX.out w4 b4).mono ?_
  rintro e w5 ⟨gx, rfl, hgx, RX, b5⟩
  obtain ⟨C4, hC4⟩ : ∃ C, w4.heap.size = C := ⟨_, rfl⟩
  rw [hC4] at hgx lw
  have hwC : w.heap.size ≤ C4 := by have := b4.size; omega
  have RW := RW.below b5
  have b5 := Below.step b4 b5
  clear b4 hC4
  go_wp2_with fail
  refine (TOY.out w5 b5).mono ?_
  rintro e w6 ⟨gy, rfl, hgy, RY, b6⟩
  have lg5 := RX.lt
  have RW := RW.below b6
  have RX := RX.below b6
  have lg6 := RY.lt
  have hs56 := b6.size
  have b6 := Below.step b5 b6
  clear b5
  -- g0, g1
  go_wp2_with fail
  refine (HI.out gx gy w6 b6 RX RY).mono ?_
  rintro e w7 ⟨ag, cg, rfl, RG, b7⟩
  obtain ⟨B7, hB7⟩ : ∃ B, w6.heap.size = B := ⟨_, rfl⟩
  rw [hB7] at RG lg6 hs56
  have hw7 : w.heap.size ≤ B7 := by have := b6.size; omega
  have RW := RW.below b7
  have RX := RX.below b7
  have RY := RY.below b7
  have b7 := Below.step b6 b7
  clear b6 hB7
  go_wp2_with fail
  refine (eqNodeS_any Z Z p p HP HP _ _ _ _ w7 RG.nodes RW.nodes (by omega) (by omega)).mono ?_
  rintro e w8 ⟨⟨u8, rfl, hu8⟩, b8⟩
  obtain rfl : u8 = true := hu8.2 (alike_same Z)
  clear hu8
  have RW := RW.below b8
  have RX := RX.below b8
  have RY := RY.below b8
  have RG := RG.below b8
  have b8 := Below.step b7 b8
  clear b7
  go_wp2_with fail
  refine (TOX.out w8 b8).mono ?_
  rintro e w9 ⟨g9, rfl, _, R9, b9⟩
  have RW := RW.below b9
  have RX := RX.below b9
  have RY := RY.below b9
  have RG := RG.below b9
  have b9 := Below.step b8 b9
  clear b8
  go_wp2_with fail
  refine (eqNodeS_any xs xs n n HNX HNX _ _ _ _ w9 RX.nodes R9.nodes (by omega) (by omega)).mono ?_
  rintro e w10 ⟨⟨u, rfl, hu⟩, b10⟩
  have hu1 : u = true := hu.2 (alike_same xs)
  subst hu1
  have RW := RW.below b10
  have RX := RX.below b10
  have RY := RY.below b10
  have RG := RG.below b10
  have b10 := Below.step b9 b10
  clear b9 R9 hu
  go_wp2_with fail
  refine (TOY.out w10 b10).mono ?_
  rintro e w11 ⟨g11, rfl, _, R11, b11⟩
  have RW := RW.below b11
  have RX := RX.below b11
  have RY := RY.below b11
  have RG := RG.below b11
  have b11 := Below.step b10 b11
  clear b10
  go_wp2_with fail
  refine (eqNodeS_any ys ys m m HNY HNY _ _ _ _ w11 RY.nodes R11.nodes (by omega) (by omega)).mono ?_
  rintro e w12 ⟨⟨u, rfl, hu⟩, b12⟩
  have hu1 : u = true := hu.2 (alike_same ys)
  subst hu1
  have RW := RW.below b12
  have RX := RX.below b12
  have RY := RY.below b12
  have RG := RG.below b12
  have b12 := Below.step b11 b12
  clear b11 R11 hu
  -- marks of the arguments
  go_wp2_with fail
  refine (markNodeS_any xs n gx n 1 w12 HNX RX (by omega) (by omega) (by omega)).mono ?_
  rintro e w13 ⟨rfl, _, bu⟩
  have RW := bu.row RW (by omega)
  have RG := RG.but bu (fun q _ hq _ h => by omega)
  have RY := bu.row RY (by omega)
  have b13 : Below w.heap.size w w13 := b12.trans (bu.below b12.size (fun q hq => by omega))
  clear b12 RX bu
  obtain ⟨km, hkm⟩ : ∃ km, 1 + 5 * n = km := ⟨_, rfl⟩
  have hkm1 : km ≤ 10000000 := by omega
  have hkm0 : 0 < km := by omega
  rw [hkm]
  clear hkm
  go_wp2_with fail
  refine (markNodeS_any ys m gy m km w13 HNY RY (by omega) (by omega) hkm0).mono ?_
  rintro e w14 ⟨rfl, _, bu⟩
  have RW := bu.row RW (by omega)
  have RG := RG.but bu (fun q _ hq _ h => by omega)
  have b14 : Below w.heap.size w w14 := b13.trans (bu.below b13.size (fun q hq => by omega))
  clear b13 RY bu
  obtain ⟨kn, hkn⟩ : ∃ kn, km + 5 * m = kn := ⟨_, rfl⟩
  have hkn1 : kn ≤ 200000000 := by omega
  rw [hkn]
  have tk : decide ((kn : Int) < 0) = false := decide_eq_false (by omega)
  clear hkn
  go_wp2_with fail
  refine (eqNodeS_any Z Z p p HP HP _ _ _ _ w14 RG.nodes RW.nodes (by omega) (by omega)).mono ?_
  rintro e w15 ⟨⟨u15, rfl, hu15⟩, b15⟩
  obtain rfl : u15 = true := hu15.2 (alike_same Z)
  clear hu15
  have RW := RW.below b15
  have RG := RG.below b15
  have b15 := Below.step b14 b15
  clear b14
  -- m, q
  go_wp2_with fail
  refine (markNodeS_ans Z p B7 ag cg 1 w15 HP RG (by omega) (by omega) (by omega)).mono ?_
  rintro e w16 ⟨rfl, RM, bu⟩
  have RW := bu.row RW (fun h => by have := h.2; omega)
  have b16 : Below w.heap.size w w16 := b15.trans (bu.below b15.size (fun q hq => by have := hq.2; omega))
  clear b15 RG bu
  go_wp2_with fail
  refine (heldNodeS_ans p B7 ag cg 1 w16 RM (by omega) (by omega) (by omega)).mono ?_
  rintro e w17 ⟨rfl, b17⟩
  have RW := RW.below b17
  have RM := RM.below b17
  have b17 := Below.step b16 b17
  clear b16
  -- h0, h1
  go_wp2_with fail
  refine (TOX.out w17 b17).mono ?_
  rintro e w18 ⟨g18, rfl, _, R18, b18⟩
  have RW := RW.below b18
  have RM := RM.below b18
  have b18 := Below.step b17 b18
  clear b17
  go_wp2_with fail
  refine (TOY.out w18 b18).mono ?_
  rintro e w19 ⟨g19, rfl, _, R19, b19⟩
  have RW := RW.below b19
  have RM := RM.below b19
  have R18 := R18.below b19
  have b19 := Below.step b18 b19
  clear b18
  go_wp2_with fail
  refine (HI.out g18 g19 w19 b19 R18 R19).mono ?_
  rintro e w20 ⟨ah, ch, rfl, RH, b20⟩
  have RW := RW.below b20
  have RM := RM.below b20
  have b20 := Below.step b19 b20
  clear b19 R18 R19
  go_wp2_with fail
  refine (eqNodeS_any Z Z p p HP HP _ _ _ _ w20 RH.nodes RW.nodes (by omega) (by omega)).mono ?_
  rintro e w21 ⟨⟨u21, rfl, hu21⟩, b21⟩
  obtain rfl : u21 = true := hu21.2 (alike_same Z)
  clear hu21
  have RM := RM.below b21
  have b21 := Below.step b20 b21
  clear b20 RH RW
  go_wp2_with fail
  refine (heldNodeS_ans p B7 ag cg 1 w21 RM (by omega) (by omega) (by omega)).mono ?_
  rintro e w22 ⟨rfl, b22⟩
  have b22 := Below.step b21 b22
  clear b21 RM
  go_wp2
  go_ret
  exact ⟨rfl, b22⟩

end Go.Proofs.YtdcnejhlmdkecaaGreatDoor
