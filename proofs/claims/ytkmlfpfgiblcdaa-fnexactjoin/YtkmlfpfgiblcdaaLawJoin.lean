
import Derived.Test.YtkmlfpfgiblcdaaSSM
import Derived.Test.YtkmlfpfgiblcdaaIJoin
namespace Go.Proofs.Ytkmlfpfgiblcdaa
open Go.RowKit

set_option maxHeartbeats 2000000 in
theorem lawJoin (x : Nd) (kss : List (List Nd)) (n : Nat) (HN : Hid (kss.length = n)) (ao : Option Addr) (cap : Nat) (w : World) (hx : Lists w ao kss) (hsx : x.text.size ≤ maxLen)
    (hs : ∀ ks ∈ kss, ∀ y ∈ ks, y.text.size ≤ maxLen) (hm : ∀ ks ∈ kss, ks.length ≤ 9223372036854775807) (hlen : n ≤ 9223372036854775807) :
    Calls Try.prog 5 #[.agg #[.int .i64 x.kind, .int .i64 x.num, .string x.text, .int .i64 x.kids, .int .i64 x.place], .slice ao n cap] w fun e w' => e = .returned (.bool true) ∧ Below w.heap.size w w' := by
  obtain ⟨W0, hW0⟩ : ∃ W0, W0 = w.alloc (.cells #[.int .i64 x.kind, .int .i64 x.num, .string x.text, .int .i64 x.kids, .int .i64 x.place] 31) := ⟨_, rfl⟩
  have HB0 : Below w.heap.size w W0 := by rw [hW0]; exact (Below.refl _ _).alloc (Nat.le_refl _) _
  have hlt0 : w.heap.size < W0.heap.size := by rw [hW0]; simp
  have g0 : W0.cell? ⟨w.heap.size, 0, none⟩ = some (.int .i64 x.kind) := by rw [hW0, cell_of_row _ w.heap.size 0 _ 31 (0, 0) (heap_alloc_new _ _)]; rfl
  have g1 : W0.cell? ⟨w.heap.size, 1, none⟩ = some (.int .i64 x.num) := by rw [hW0, cell_of_row _ w.heap.size 1 _ 31 (0, 0) (heap_alloc_new _ _)]; rfl
  have g2 : W0.cell? ⟨w.heap.size, 2, none⟩ = some (.string x.text) := by rw [hW0, cell_of_row _ w.heap.size 2 _ 31 (0, 0) (heap_alloc_new _ _)]; rfl
  have g3 : W0.cell? ⟨w.heap.size, 3, none⟩ = some (.int .i64 x.kids) := by rw [hW0, cell_of_row _ w.heap.size 3 _ 31 (0, 0) (heap_alloc_new _ _)]; rfl
  have g4 : W0.cell? ⟨w.heap.size, 4, none⟩ = some (.int .i64 x.place) := by rw [hW0, cell_of_row _ w.heap.size 4 _ 31 (0, 0) (heap_alloc_new _ _)]; rfl
  have HX := hx.below HB0
  have HW0 : Hid (W0 = w.alloc (.cells #[.int .i64 x.kind, .int .i64 x.num, .string x.text, .int .i64 x.kids, .int .i64 x.place] 31)) := hW0
  clear hx hW0
  go_enter Try.func5, Try.ntmps5
  go_wp2_with fail
  rw [← HW0.out]
  refine (szNode_ex x 1048576 W0 hsx (by omega) (by omega)).mono ?_
  rintro e w1 ⟨⟨r, rfl, hr⟩, b1⟩
  rcases hr with hr | ⟨hr0, hr1⟩
  · subst hr
    go_wp2
    go_ret
    exact ⟨rfl, Below.step HB0 b1⟩
  go_wp2_with fail
  refine (szNodeSS_any kss n HN ao cap r w1 (HX.below b1) hs hm hlen (by omega) (by omega)).mono ?_
  rintro e w2 ⟨⟨r', rfl, hr'⟩, b2⟩
  have b2 := Below.step b1 b2
  clear b1 hs hm
  rcases hr' with hr' | ⟨hr2, hr3⟩
  · subst hr'
    go_wp2
    go_ret
    exact ⟨rfl, Below.step HB0 b2⟩
  have hln : n ≤ 1048576 := by omega
  have htt : total kss ≤ 1048576 := by omega
  have hmm : ∀ ks ∈ kss, ks.length ≤ 1048576 := by
    intro ks hk
    obtain ⟨i, hi, rfl⟩ := List.getElem_of_mem hk
    have := length_le_total kss i hi
    omega
  obtain ⟨Z, hZ⟩ : ∃ Z, kss.flatten ++ [{ x with kids := (n : Int) }] = Z := ⟨_, rfl⟩
  have hZn : Z ≠ [] := by rw [← hZ]; simp
  have hZl : Z.length ≤ 1048577 := by
    rw [← hZ, List.length_append, List.length_flatten]
    have : (kss.map List.length).sum ≤ 1048576 := htt
    simp; omega
  obtain ⟨l, hl⟩ : ∃ l, Z.length = l := ⟨_, rfl⟩
  have HZ : Hid (kss.flatten ++ [{ x with kids := (n : Int) }] = Z) := hZ
  have HL : Hid (Z.length = l) := hl
  rw [hl] at hZl
  have HM : Hid (∀ ks ∈ kss, ks.length ≤ 1048576) := hmm
  have HZN : Hid (Z ≠ []) := hZn
  clear hZ hl hmm hZn
  have cc := bcell b2
  go_wp2_with fail
  refine (toNode_any x w2).mono ?_
  rintro e w3 ⟨rfl, b3⟩
  have b3 := Below.step b2 b3
  clear b2 cc
  go_wp2_with fail
  refine (toNodeSS_any kss n HN ao cap w3 (HX.below b3) HM.out hln).mono ?_
  rintro e w4 ⟨a1, as1, rfl, _, _, T1, b4⟩
  have b4 := Below.step b3 b4
  clear b3
  go_wp2_with fail
  refine (specJoin_any x kss n HN _ n w4 T1.lists htt hln).mono ?_
  rintro e w5 ⟨v5, rfl, h5, b5⟩
  have b5 := Below.step b4 b5
  rw [HZ.out] at h5
  obtain ⟨gw, cw, e5, _, RW⟩ := h5.row HZN.out
  rw [HL.out] at e5
  have lw : gw < w5.heap.size := RW.lt
  rw [e5]
  clear b4 T1 h5 e5
  go_wp2_with fail
  refine (toNodeSS_any kss n HN ao cap w5 (HX.below b5) HM.out hln).mono ?_
  rintro e w6 ⟨a2, as2, rfl, _, hge, T2, b6⟩
  have RW := RW.below b6
  have has : ∀ q, q ∈ as2 → W0.heap.size ≤ q := fun q hq => by have := hge q hq; have := b5.size; omega
  have hnw : gw ∉ as2 := fun h => by have := hge gw h; omega
  have s6 := b6.size
  have b6 := Below.step b5 b6
  have cc := bcell b6
  clear b5 hge
  go_wp2_with fail
  refine (toNode_any x w6).mono ?_
  rintro e w7 ⟨rfl, b7⟩
  have hng : ∀ q ∈ as2, q < w7.heap.size := by
    intro q hq
    obtain ⟨i, hi, rfl⟩ := List.getElem_of_mem hq
    have := (T2.rows.2 i hi (by have := T2.rows.1; omega)).lt
    have := b7.size
    omega
  have RW := RW.below b7
  have T2 := T2.below b7
  have s7 := b7.size
  have b7 := Below.step b6 b7
  clear b6 cc
  go_wp2_with fail
  refine (implJoin_any x kss n HN a2 as2 n w7 T2 htt hln).mono ?_
  rintro e w8 ⟨v8, rfl, h8, b8⟩
  rw [HZ.out] at h8
  obtain ⟨gg, cg, e8, hgg, RG⟩ := h8.row HZN.out
  rw [HL.out] at e8
  have RW := RW.below b8
  have T2 := T2.below b8
  have b8 := Below.step b7 b8
  have hnn : gg ∉ as2 := fun h => by have := hng gg h; omega
  have hwg : gw ≠ gg := by omega
  have hg0 : W0.heap.size ≤ gg := by have := b7.size; omega
  rw [e8]
  clear b7 h8 e8 hng
  go_wp2_with fail
  refine (eqNodeS_any Z Z l l HL HL _ _ _ _ w8 RG.nodes RW.nodes (by omega) (by omega)).mono ?_
  rintro e w9 ⟨⟨u9, rfl, hu⟩, b9⟩
  have hu1 : u9 = true := hu.2 (alike_refl Z)
  subst hu1
  have RW := RW.below b9
  have RG := RG.below b9
  have T2 := T2.below b9
  have b9 := Below.step b8 b9
  clear b8 hu
  go_wp2_with fail
  refine (toNodeSS_any kss n HN ao cap w9 (HX.below b9) HM.out hln).mono ?_
  rintro e w10 ⟨a3, as3, rfl, _, _, T3, b10⟩
  have RW := RW.below b10
  have RG := RG.below b10
  have T2 := T2.below b10
  have b10 := Below.step b9 b10
  clear b9
  go_wp2_with fail
  refine (eqNodeSS_same kss n HN _ _ _ _ w10 T2.lists T3.lists HM.out hln).mono ?_
  rintro e w11 ⟨rfl, b11⟩
  have RW := RW.below b11
  have RG := RG.below b11
  have T2 := T2.below b11
  have b11 := Below.step b10 b11
  clear b10 T3
  go_wp2_with fail
  refine (markNodeSS_any kss n HN a2 as2 n 1 w11 T2 htt hln (by omega) (by omega)).mono ?_
  rintro e w12 ⟨rfl, bu⟩
  have RW := bu.row RW hnw
  have RG := bu.row RG hnn
  have b12 : Below W0.heap.size W0 w12 := b11.trans (bu.below b11.size has)
  clear b11 T2 bu has
  go_wp2_with fail
  refine (eqNodeS_any Z Z l l HL HL _ _ _ _ w12 RG.nodes RW.nodes (by omega) (by omega)).mono ?_
  rintro e w13 ⟨⟨u13, rfl, hu⟩, b13⟩
  have hu1 : u13 = true := hu.2 (alike_refl Z)
  subst hu1
  have RW := RW.below b13
  have RG := RG.below b13
  have b13 := Below.step b12 b13
  clear b12 hu
  go_wp2_with fail
  refine (markNodeS_any Z l gg cg 1 w13 HL RG (by omega) (by omega) (by omega)).mono ?_
  rintro e w14 ⟨rfl, RM, bu⟩
  have RW := bu.row RW hwg
  have b14 : Below W0.heap.size W0 w14 := b13.trans (bu.below b13.size (fun q hq => by rw [hq]; exact hg0))
  clear b13 RG bu
  go_wp2_with fail
  refine (heldNodeS_any l gg cg 1 w14 RM (by omega) (by omega) (by omega)).mono ?_
  rintro e w15 ⟨rfl, b15⟩
  have RW := RW.below b15
  have RM := RM.below b15
  have b15 := Below.step b14 b15
  have cc := bcell b15
  clear b14
  go_wp2_with fail
  refine (toNode_any x w15).mono ?_
  rintro e w16 ⟨rfl, b16⟩
  have RW := RW.below b16
  have RM := RM.below b16
  have b16 := Below.step b15 b16
  clear b15 cc
  go_wp2_with fail
  refine (toNodeSS_any kss n HN ao cap w16 (HX.below b16) HM.out hln).mono ?_
  rintro e w17 ⟨a4, as4, rfl, _, _, T4, b17⟩
  have RW := RW.below b17
  have RM := RM.below b17
  have b17 := Below.step b16 b17
  clear b16
  go_wp2_with fail
  refine (implJoin_any x kss n HN a4 as4 n w17 T4 htt hln).mono ?_
  rintro e w18 ⟨v18, rfl, h18, b18⟩
  rw [HZ.out] at h18
  obtain ⟨gh, ch, e18, _, RH⟩ := h18.row HZN.out
  rw [HL.out] at e18
  have RW := RW.below b18
  have RM := RM.below b18
  have b18 := Below.step b17 b18
  rw [e18]
  clear b17 h18 e18 T4
  go_wp2_with fail
  refine (eqNodeS_any Z Z l l HL HL _ _ _ _ w18 RH.nodes RW.nodes (by omega) (by omega)).mono ?_
  rintro e w19 ⟨⟨u19, rfl, hu⟩, b19⟩
  have hu1 : u19 = true := hu.2 (alike_refl Z)
  subst hu1
  have RM := RM.below b19
  have b19 := Below.step b18 b19
  clear b18 hu RH RW
  go_wp2_with fail
  refine (heldNodeS_any l gg cg 1 w19 RM (by omega) (by omega) (by omega)).mono ?_
  rintro e w20 ⟨rfl, b20⟩
  have b20 := Below.step b19 b20
  clear b19 RM
  go_wp2
  go_ret
  exact ⟨rfl, Below.step HB0 b20⟩

end Go.Proofs.Ytkmlfpfgiblcdaa
