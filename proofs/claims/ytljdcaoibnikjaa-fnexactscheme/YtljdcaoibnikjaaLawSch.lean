
import Derived.Test.YtljdcaoibnikjaaSSch
import Derived.Test.YtljdcaoibnikjaaHeld
namespace Go.Proofs.Ytljdcaoibnikjaa
open Go.RowKit

theorem alike_same (xs : List Nd) : Alike Nd.eqb xs xs := ⟨rfl, fun _ _ _ => Nd.eqb_refl _⟩

set_option maxRecDepth 100000 in
set_option maxHeartbeats 4000000 in
theorem lawSch (nm nd fr ct : Int) (na : ByteArray) (hna : na.size ≤ maxLen) (xs : List Nd) (ao : Option Addr) (cap : Nat) (w : World) (hx : Nodes w ao xs)
    (hsx : ∀ x ∈ xs, x.text.size ≤ maxLen) (hlx : xs.length ≤ 9223372036854775807)
    (HW : Hid (∀ n ∈ xs, (Lit.int .i64 n.num).wf = true))
    (hI : ∀ (l g : Nat) (W : World), xs.length = l → l ≤ 1048576 → Row W g xs → Calls Try.prog 17 #[.agg #[.int .i64 nm, .string na, .int .i64 nd, .int .i64 fr, .int .i64 ct, .slice (some ⟨g, 0, none⟩) l l]] W fun e w' => ∃ ag cg, e = .returned (.slice ag (schemeOf fr ct xs).length cg) ∧ Ans w' W.heap.size ag (schemeOf fr ct xs) ∧ Below W.heap.size W w') :
    Calls Try.prog 4 #[.agg #[.int .i64 nm, .string na, .int .i64 nd, .int .i64 fr, .int .i64 ct, .slice ao xs.length cap]] w fun e w' => e = .returned (.bool true) ∧ Below w.heap.size w w' := by
  go_enter Try.func4, Try.ntmps4
  have hA : Below w.heap.size w (w.alloc (.cells #[.int .i64 nm, .string na, .int .i64 nd, .int .i64 fr, .int .i64 ct, .slice ao xs.length cap] 35)) := (Below.refl _ w).alloc (Nat.le_refl _) _
  have hKA : (w.alloc (.cells #[.int .i64 nm, .string na, .int .i64 nd, .int .i64 fr, .int .i64 ct, .slice ao xs.length cap] 35)).heap[w.heap.size]? = some (.cells #[.int .i64 nm, .string na, .int .i64 nd, .int .i64 fr, .int .i64 ct, .slice ao xs.length cap] 35 (0, 0)) := heap_alloc_new _ _
  have hZA : (w.alloc (.cells #[.int .i64 nm, .string na, .int .i64 nd, .int .i64 fr, .int .i64 ct, .slice ao xs.length cap] 35)).heap.size = w.heap.size + 1 := by simp
  have hx := hx.below hA
  obtain ⟨z, hz⟩ : ∃ z, w.heap.size = z := ⟨_, rfl⟩
  rw [hz] at hKA hZA
  go_wp2_with fail
  (try rw [hz])
  generalize w.alloc (.cells #[.int .i64 nm, .string na, .int .i64 nd, .int .i64 fr, .int .i64 ct, .slice ao xs.length cap] 35) = wB at *
  refine (szBinder_any nm nd fr ct na xs ao cap wB hna hx hsx hlx).mono ?_
  rintro e w1 ⟨⟨r, rfl, hr⟩, b1⟩
  rcases hr with hr | ⟨hr0, hr1⟩
  · go_wp2
    go_ret
    exact ⟨rfl, Below.step hA b1⟩
  have lx : xs.length ≤ 1048576 := by omega
  obtain ⟨l, hl⟩ : ∃ l, xs.length = l := ⟨_, rfl⟩
  have HL : Hid (xs.length = l) := hl
  rw [hl] at lx hKA ⊢
  clear hl hr1 hlx hsx
  have HQ : Hid (∀ W, Below wB.heap.size wB W → W.cell? ⟨z, 0, none⟩ = some (.int .i64 nm) ∧ W.cell? ⟨z, 1, none⟩ = some (.string na) ∧ W.cell? ⟨z, 2, none⟩ = some (.int .i64 nd) ∧ W.cell? ⟨z, 3, none⟩ = some (.int .i64 fr) ∧ W.cell? ⟨z, 4, none⟩ = some (.int .i64 ct) ∧ W.cell? ⟨z, 5, none⟩ = some (.slice ao l cap)) := by
    intro W hb
    have h9 := (hb.block z (by omega)).trans hKA
    refine ⟨?_, ?_, ?_, ?_, ?_, ?_⟩
    all_goals
      rw [cell_of_row _ _ _ _ 35 (0, 0) h9]
      rfl
  have toN : ∀ W, Below wB.heap.size wB W → Calls Try.prog 16 #[.agg #[.int .i64 nm, .string na, .int .i64 nd, .int .i64 fr, .int .i64 ct, .slice ao l cap]] W fun e w' => ∃ g, e = .returned (.agg #[.int .i64 nm, .string na, .int .i64 nd, .int .i64 fr, .int .i64 ct, .slice (some ⟨g, 0, none⟩) l l]) ∧ W.heap.size ≤ g ∧ Row w' g xs ∧ Below W.heap.size W w' := by
    intro W hW
    exact toBinder_any nm nd fr ct na xs l HL ao cap W (hx.below hW) lx
  have TON : Hid (∀ W, Below wB.heap.size wB W → Calls Try.prog 16 #[.agg #[.int .i64 nm, .string na, .int .i64 nd, .int .i64 fr, .int .i64 ct, .slice ao l cap]] W fun e w' => ∃ g, e = .returned (.agg #[.int .i64 nm, .string na, .int .i64 nd, .int .i64 fr, .int .i64 ct, .slice (some ⟨g, 0, none⟩) l l]) ∧ W.heap.size ≤ g ∧ Row w' g xs ∧ Below W.heap.size W w') := toN
  obtain ⟨Z, hZ⟩ : ∃ Z, schemeOf fr ct xs = Z := ⟨_, rfl⟩
  have HZ : Hid (schemeOf fr ct xs = Z) := hZ
  obtain ⟨p, hp⟩ : ∃ p, Z.length = p := ⟨_, rfl⟩
  have HP : Hid (Z.length = p) := hp
  have hpl : p ≤ 1048576 := by have := schemeOf_le fr ct xs; have := HL.out; rw [hZ] at *; omega
  have HI : Hid (∀ (l g : Nat) (W : World), xs.length = l → l ≤ 1048576 → Row W g xs → Calls Try.prog 17 #[.agg #[.int .i64 nm, .string na, .int .i64 nd, .int .i64 fr, .int .i64 ct, .slice (some ⟨g, 0, none⟩) l l]] W fun e w' => ∃ ag cg, e = .returned (.slice ag (schemeOf fr ct xs).length cg) ∧ Ans w' W.heap.size ag (schemeOf fr ct xs) ∧ Below W.heap.size W w') := hI
  rw [hZ, hp] at HI
  clear toN hx hZ hp hI
  obtain ⟨p0, p1, p2, p3, p4, p5⟩ := HQ.out w1 b1
  go_wp2_with fail
  clear p0 p1 p2 p3 p4 p5
  refine (TON.out w1 b1).mono ?_
  rintro e w2 ⟨g1, rfl, _, R1, b2⟩
  have b2 := Below.step b1 b2
  clear b1
  go_wp2_with fail
  refine (specScheme_any nm nd fr ct na xs l HL lx HW _ _ w2 R1.nodes).mono ?_
  rintro e w3 ⟨gw, cw, l3, rfl, _, hl3, RW, b3⟩
  rw [HZ.out] at hl3 RW
  have e3 : l3 = p := by rw [← hl3]; exact HP.out
  rw [e3]
  have lw := RW.lt
  have b3 := Below.step b2 b3
  clear b2 R1 hl3 e3
  obtain ⟨p0, p1, p2, p3, p4, p5⟩ := HQ.out w3 b3
  go_wp2_with fail
  clear p0 p1 p2 p3 p4 p5
  refine (TON.out w3 b3).mono ?_
  rintro e w4 ⟨gx, rfl, hgx, RX, b4⟩
  have RW := RW.below b4
  have hwx : gw ≠ gx := by omega
  have hgx0 : wB.heap.size ≤ gx := by have := b3.size; omega
  have lx4 := RX.lt
  have b4 := Below.step b3 b4
  clear b3
  go_wp2_with fail
  have hX := (Below.refl w4.heap.size w4).alloc (Nat.le_refl _) (.cells #[.int .i64 nm, .string na, .int .i64 nd, .int .i64 fr, .int .i64 ct, .slice (some ⟨gx, 0, none⟩) l l] 39)
  have hKX : (w4.alloc (.cells #[.int .i64 nm, .string na, .int .i64 nd, .int .i64 fr, .int .i64 ct, .slice (some ⟨gx, 0, none⟩) l l] 39)).heap[w4.heap.size]? = some (.cells #[.int .i64 nm, .string na, .int .i64 nd, .int .i64 fr, .int .i64 ct, .slice (some ⟨gx, 0, none⟩) l l] 39 (0, 0)) := heap_alloc_new _ _
  have hZX : (w4.alloc (.cells #[.int .i64 nm, .string na, .int .i64 nd, .int .i64 fr, .int .i64 ct, .slice (some ⟨gx, 0, none⟩) l l] 39)).heap.size = w4.heap.size + 1 := by simp
  obtain ⟨zx, hzx⟩ : ∃ z, w4.heap.size = z := ⟨_, rfl⟩
  have RW := RW.below hX
  have RX := RX.below hX
  have b4 := Below.step b4 hX
  rw [hzx] at hKX hZX lx4
  (try rw [hzx])
  clear hX hzx
  generalize w4.alloc (.cells #[.int .i64 nm, .string na, .int .i64 nd, .int .i64 fr, .int .i64 ct, .slice (some ⟨gx, 0, none⟩) l l] 39) = w4 at *
  have HQX : Hid (∀ W, Below w4.heap.size w4 W → W.cell? ⟨zx, 0, none⟩ = some (.int .i64 nm) ∧ W.cell? ⟨zx, 1, none⟩ = some (.string na) ∧ W.cell? ⟨zx, 2, none⟩ = some (.int .i64 nd) ∧ W.cell? ⟨zx, 3, none⟩ = some (.int .i64 fr) ∧ W.cell? ⟨zx, 4, none⟩ = some (.int .i64 ct) ∧ W.cell? ⟨zx, 5, none⟩ = some (.slice (some ⟨gx, 0, none⟩) l l)) := by
    intro W hb
    have h9 := (hb.block zx (by omega)).trans hKX
    refine ⟨?_, ?_, ?_, ?_, ?_, ?_⟩
    all_goals
      rw [cell_of_row _ _ _ _ 39 (0, 0) h9]
      rfl
  have lx4 : gx < w4.heap.size := RX.lt
  clear hKX
  refine (HI.out l gx w4 HL.out lx RX).mono ?_
  rintro e w5 ⟨ag, cg, rfl, RG, b5⟩
  obtain ⟨B5, hB5⟩ : ∃ B, w4.heap.size = B := ⟨_, rfl⟩
  have lw4 := RW.lt
  rw [hB5] at RG lx4 lw4
  have hz5 : zx < B5 := by omega
  have hw5 : wB.heap.size ≤ B5 := by have := b4.size; omega
  have RW := RW.below b5
  have RX := RX.below b5
  have x5 := b5
  have b5 := Below.step b4 b5
  clear b4 hB5 hZX
  go_wp2_with fail
  refine (eqNodeS_any Z Z p p HP HP _ _ _ _ w5 RG.nodes RW.nodes (by omega) (by omega)).mono ?_
  rintro e w6 ⟨⟨u6, rfl, hu⟩, b6⟩
  have hu1 : u6 = true := hu.2 (alike_same Z)
  subst hu1
  have RW := RW.below b6
  have RX := RX.below b6
  have RG := RG.below b6
  have x6 := Below.step x5 b6
  have b6 := Below.step b5 b6
  clear x5
  clear b5 hu
  obtain ⟨p0, p1, p2, p3, p4, p5⟩ := HQ.out w6 b6
  obtain ⟨r0, r1, r2, r3, r4, r5⟩ := HQX.out w6 x6
  have hzl : zx < w6.heap.size := lt_of_cell r0
  have hd6 : Below wB.heap.size wB w6.drew := Below.step b6 (Below.refl _ _).drew
  go_wp2_with fail
  go_region_with (first
    | (go_at_call 16; refine (TON.out _ hd6).mono ?_; rintro e w7 ⟨g7, rfl, _, R7, b7⟩; obtain ⟨s0, s1, s2, s3, s4, s5⟩ := HQX.out w7 (Below.step x6 (undrew b7)))
    | (go_at_call 18; refine (eqBinder_same nm nd fr ct na xs l HL _ _ _ _ w7 (RX.below (undrew b7)).nodes R7.nodes (by omega)).mono ?_; rintro e w8 ⟨rfl, b8⟩))
  all_goals
    clear p0 p1 p2 p3 p4 p5 r0 r1 r2 r3 r4 r5 s0 s1 s2 s3 s4 s5 hd6 hzl
    have b7 := undrew b7
    have RW := RW.below b7
    have RX := RX.below b7
    have RG := RG.below b7
    have x7 := Below.step x6 b7
    have b7 := Below.step b6 b7
    clear x6 b6
    have RW := RW.below b8
    have RX := RX.below b8
    have RG := RG.below b8
    have x8 := Below.step x7 b8
    have b8 := Below.step b7 b8
    clear x7
    clear b7 R7
    obtain ⟨r0, r1, r2, r3, r4, r5⟩ := HQX.out w8 x8
    go_wp2_with fail
    clear r0 r1 r2 r3 r4 r5
    refine (markBinder_any nm nd fr ct na xs l HL gx l 1 w8 RX (by omega) (by omega) (by omega)).mono ?_
    rintro e w9 ⟨rfl, bu⟩
    have RW := bu.row RW hwx
    have RG := RG.but bu (fun q _ hq _ e => by omega)
    have b9 : Below wB.heap.size wB w9 := b8.trans (bu.below b8.size (fun q hq => by rw [hq]; exact hgx0))
    clear b8 RX bu
    go_wp2_with fail
    refine (eqNodeS_any Z Z p p HP HP _ _ _ _ w9 RG.nodes RW.nodes (by omega) (by omega)).mono ?_
    rintro e w10 ⟨⟨u10, rfl, hu⟩, b10⟩
    have hu1 : u10 = true := hu.2 (alike_same Z)
    subst hu1
    have RW := RW.below b10
    have RG := RG.below b10
    have b10 := Below.step b9 b10
    clear b9 hu
    go_wp2_with fail
    refine (markNodeS_ans Z p B5 ag cg 1 w10 HP RG (by omega) (by omega) (by omega)).mono ?_
    rintro e w11 ⟨rfl, RM, bu⟩
    have RW := bu.row RW (fun h => by have := h.2; omega)
    have b11 : Below wB.heap.size wB w11 := b10.trans (bu.below b10.size (fun q hq => by have := hq.2; omega))
    clear b10 RG bu
    go_wp2_with fail
    refine (heldNodeS_ans p B5 ag cg 1 w11 RM (by omega) (by omega) (by omega)).mono ?_
    rintro e w12 ⟨rfl, b12⟩
    have RW := RW.below b12
    have RM := RM.below b12
    have b12 := Below.step b11 b12
    clear b11
    obtain ⟨p0, p1, p2, p3, p4, p5⟩ := HQ.out w12 b12
    go_wp2_with fail
    clear p0 p1 p2 p3 p4 p5
    refine (TON.out w12 b12).mono ?_
    rintro e w13 ⟨g13, rfl, _, R13, b13⟩
    have RW := RW.below b13
    have RM := RM.below b13
    have b13 := Below.step b12 b13
    clear b12
    go_wp2_with fail
    refine (HI.out l g13 w13 HL.out lx R13).mono ?_
    rintro e w14 ⟨ah, ch, rfl, RH, b14⟩
    have RW := RW.below b14
    have RM := RM.below b14
    have b14 := Below.step b13 b14
    clear b13 R13
    go_wp2_with fail
    refine (eqNodeS_any Z Z p p HP HP _ _ _ _ w14 RH.nodes RW.nodes (by omega) (by omega)).mono ?_
    rintro e w15 ⟨⟨u15, rfl, hu⟩, b15⟩
    have hu1 : u15 = true := hu.2 (alike_same Z)
    subst hu1
    have RM := RM.below b15
    have b15 := Below.step b14 b15
    clear b14 hu RH RW
    go_wp2_with fail
    refine (heldNodeS_ans p B5 ag cg 1 w15 RM (by omega) (by omega) (by omega)).mono ?_
    rintro e w16 ⟨rfl, b16⟩
    have b16 := Below.step b15 b16
    clear b15 RM
    go_wp2
    go_ret
    exact ⟨rfl, Below.step hA b16⟩

end Go.Proofs.Ytljdcaoibnikjaa
