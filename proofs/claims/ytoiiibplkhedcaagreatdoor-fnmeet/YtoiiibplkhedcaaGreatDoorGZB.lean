import Derived.Test.YtoiiibplkhedcaaGreatDoorGZ
import Derived.Test.YtoiiibplkhedcaaGreatDoorGC
import Derived.Test.YtoiiibplkhedcaaGreatDoorGB
import Derived.Deep.RegionLaw
import Derived.Deep.RegionHeld3
import Derived.BigQuiet
namespace Go.Proofs.YtoiiibplkhedcaaGreatDoor
open Go.RowKit
def SideOk2 (t : List Nd) : Prop := t.length ≤ 101 ∧ ∀ z ∈ t, 0 ≤ z.num ∧ z.num ≤ 100000
end Go.Proofs.YtoiiibplkhedcaaGreatDoor

namespace Go.Proofs.YtoiiibplkhedcaaGreatDoor
open Go.RowKit
def Jbt (w : World) (e : Ending) (w' : World) : Prop := ∃ (g1 c1 l1 g2 c2 l2 : Nat) (A B : List Nd), e = .returned (.tuple #[.slice (some ⟨g1, 0, none⟩) l1 c1, .slice (some ⟨g2, 0, none⟩) l2 c2]) ∧ A.length = l1 ∧ B.length = l2 ∧ Row w' g1 A ∧ Row w' g2 B ∧ SideOk2 A ∧ SideOk2 B ∧ Below w.heap.size w w'
theorem Qcd {t : List Nd} {l : Nat} (h : NumD t) (hl : t.length = l) (h3 : l ≤ 100) : SideOk2 t := ⟨by omega, fun z hz => by have := h z hz; omega⟩
set_option maxRecDepth 100000 in
set_option maxHeartbeats 8000000 in
theorem Qeo (n : Nat) (hn : n ≤ 1048576) (ao : Option Addr) (cap : Nat) (w : World) (hc : Code w ao n) :
    Calls Tryz.prog 4 #[.slice ao n cap] w fun e w' => Jbt w e w' := by
  have HC : Hid (∀ W, Below w.heap.size w W → Code W ao n) := fun W hW => hc.below hW
  have hst4 : Qaj 4 = 93 := rfl
  have hmx4 : maxT 4 = 31 := rfl
  have hst3 : Qaj 3 = 45 := rfl
  have hmx3 : maxT 3 = 15 := rfl
  go_enter Tryz.func4, Tryz.ntmps4
  go_wp2_with fail
  refine (Qat n hn ao cap w hc 0 6 (by omega) (by omega) (by omega)).mono ?_
  rintro e w1 ⟨⟨how, hhow, rfl⟩, hb1⟩
  have HD := Qbr n hn ao cap 3 (by omega) (by omega) 4 (by omega) 1 w1 (HC.out w1 hb1) (by omega)
  clear hc
  go_wp2_with fail
  refine HD.mono ?_
  rintro e w2 ⟨ga, ca, la, qa, A, rfl, hla, hla0, hlam, hga, hoA, hnA, hqa, hb2, hoA1⟩
  rw [hst4] at hqa
  rw [hmx4] at hlam
  have hbr2 := Below.step hb1 hb2
  have hs1 := hb1.size
  have HLA : Hid (A.length = la) := hla
  have hrA := hoA.row.2
  have hgaw := hrA.lt
  obtain ⟨sA, ysA, hrunA⟩ := hoA1
  have hszA : sizesOf A = ysA.map szOf := by unfold sizesOf; rw [hrunA]
  have hylA := (after_fine hrunA).len
  rw [hla] at hrunA
  obtain ⟨sr, hsr⟩ : ∃ sr, ysA[la - 1]'(by omega) = sr := ⟨_, rfl⟩
  have hsr2 : ysA[la - 1]? = some sr := by rw [List.getElem?_eq_getElem (by omega), hsr]
  obtain ⟨SL, hSL⟩ : ∃ SL, (span A sr.fr (la - 1)).length = SL := ⟨_, rfl⟩
  have hspl : SL ≤ 31 := by
    rw [← hSL]
    unfold span
    simp
    omega
  have hc1 : (la : Int) - 1 = ((la - 1 : Nat) : Int) := by omega
  -- both calls of l8Vary
  have HV : Hid (∀ (q gz cz : Nat) (V0 V : World), q ≤ 300 → Below w.heap.size w V → Row V ga A → Ints V V0.heap.size gz cz la (ysA.map szOf) → Calls Tryz.prog 14 #[.slice ao n cap, .int .i64 (q : Int), .slice (some ⟨ga, 0, none⟩) la ca, .slice (some ⟨gz, 0, none⟩) la cz, .int .i64 ((la - 1 : Nat) : Int), .int .i64 (3 : Nat)] V fun e w' => Jcl V SL q e w') := by
    intro q gz cz V0 V hq hV hr hi
    have h9 := Jba n hn ao cap 3 (by omega) (by omega) A [sA] ysA la HLA (by omega) hrunA hnA (la - 1) sr q ga ca gz cz V0.heap.size V (by omega) hsr2 (HC.out V hV) hr hi (by rw [hSL]; omega)
    rw [hSL] at h9
    exact h9
  have HSZ : Hid (∀ V : World, Row V ga A → Calls Tryz.prog 15 #[.slice (some ⟨ga, 0, none⟩) la ca] V fun e w' => ∃ gz cz, e = .returned (.slice (some ⟨gz, 0, none⟩) la cz) ∧ Ints w' V.heap.size gz cz la (ysA.map szOf) ∧ Below V.heap.size V w') := by
    intro V hr
    refine (sizes_any A la HLA (by omega) (some ⟨ga, 0, none⟩) ca V hr.nodes).mono ?_
    rintro e w' ⟨gz, cz, nz, rfl, hi, hb⟩
    rw [hszA] at hi
    have hnz : nz = la := by have := hi.1; simp at this; omega
    subst hnz
    exact ⟨gz, cz, rfl, hi, hb⟩
  have hsA : SideOk2 A := Qcd hnA hla (by omega)
  have HNA : Hid (NumD A) := hnA
  clear HD hrunA hszA hylA hsr hsr2 hSL hb1 hb2 hla hnA
  go_wp2_with fail
  refine (HSZ.out w2 hrA).mono ?_
  rintro e w3 ⟨gz, cz, rfl, hiz, hb3⟩
  have hoA3 := hoA.below hb3
  have hbr3 := Below.step hbr2 hb3
  have hs3 := hb3.size
  have HV1 := HV.out qa gz cz w2 w3 (by omega) hbr3 hoA3.row.2 hiz
  clear hrA hoA hbr2 hb3 hiz
  go_wp2_with fail
  refine HV1.mono ?_
  rintro e w4 ⟨gb, cb, lb, qb, B, rfl, hlb, _, hlbm, hgb, hoB, hnB, hqb, hb4, _⟩
  have hoA4 := hoA3.below hb4
  have hbr4 := Below.step hbr3 hb4
  have hs4 := hb4.size
  have hrB4 := hoB.row.2
  have hsB : SideOk2 B := Qcd hnB hlb (by omega)
  clear HV1 hoA3 hbr3 hb4 hoB hnB
  by_cases h0 : how = 0
  · subst h0
    have HD2 := Qbr n hn ao cap 3 (by omega) (by omega) 3 (by omega) qb w4 (HC.out w4 hbr4) (by omega)
    clear hrB4 hsB hlb
    go_wp2_with fail
    refine HD2.mono ?_
    rintro e w5 ⟨gb', cb', lb', qb', B', rfl, hlb, _, hlbm', hgb', hoB, hnB, hqb', hb5, _⟩
    rw [hst3] at hqb'
    rw [hmx3] at hlbm'
    have HLB : Hid (B'.length = lb') := hlb
    have hsB' : SideOk2 B' := Qcd hnB hlb (by omega)
    have hoAW := hoA4.below hb5
    have hbrW := Below.step hbr4 hb5
    have hrBW := hoB.row.2
    have hs5 := hb5.size
    clear HD2 hoA4 hbr4 hb5 hoB hnB hlb
    go_wp2_with fail
    refine (HSZ.out w5 hoAW.row.2).mono ?_
    rintro e w6 ⟨gz2, cz2, rfl, hiz2, hb6⟩
    have hoA6 := hoAW.below hb6
    have hbr6 := Below.step hbrW hb6
    have hs6 := hb6.size
    have hrB6 := hrBW.below hb6
    have HV2 := HV.out qb' gz2 cz2 w5 w6 (by omega) hbr6 hoA6.row.2 hiz2
    clear hoAW hbrW hb6 hrBW hiz2
    go_wp2_with fail
    refine HV2.mono ?_
    rintro e w7 ⟨gc, cc, lc, qc, C, rfl, hlc, _, hlcm, hgc, hoC, hnC, _, hb7, _⟩
    have hrB7 := hrB6.below hb7
    have hbr7 := Below.step hbr6 hb7
    have hrC7 := hoC.row.2
    have HFIN : Hid (Jbt w (.returned (.tuple #[.slice (some ⟨gc, 0, none⟩) lc cc, .slice (some ⟨gb', 0, none⟩) lb' cb'])) w7) := ⟨gc, cc, lc, gb', cb', lb', C, B', rfl, hlc, HLB.out, hrC7, hrB7, Qcd hnC hlc (by omega), hsB', hbr7⟩
    clear HV2 hoA6 hrB6 hbr6 hb7 hoC hnC hrC7 hrB7
    go_wp2
    go_ret2
    exact HFIN.out
  · have t0 : ((how : Int) == 0) = false := by simp; omega
    have HLB : Hid (B.length = lb) := hlb
    have hsB' := hsB
    by_cases h1 : how = 1
    · subst h1
      have hrA4 := hoA4.row.2
      have h0A : 0 < A.length := by rw [HLA.out]; exact hla0
      obtain ⟨x, hx⟩ : ∃ x, A[0] = x := ⟨_, rfl⟩
      have hnd := hrA4.node 0 h0A
      rw [hx] at hnd
      have hxn := HNA.out x (by rw [← hx]; exact List.getElem_mem h0A)
      obtain ⟨kd, nm, tx, ks, pl⟩ := x
      obtain ⟨c0, c1', c2, c3, c4⟩ := hnd
      simp only [Nat.zero_mul, Nat.zero_add] at c0 c1' c2 c3 c4
      obtain ⟨i0, hi, hz0, hz1, hz2⟩ := info_parts Tryz.infoN
      have hBx : Below w4.heap.size w4 (w4.alloc (.cells #[.int .i64 kd, .int .i64 nm, .string tx, .int .i64 ks, .int .i64 pl] 43)) := (Below.refl _ w4).alloc (Nat.le_refl _) _
      have hnx := nd_new_cells w4 ⟨kd, nm, tx, ks, pl⟩
      have hoAx := (hoA4.below hBx).2
      have hrBx := hrB4.below hBx
      have hAb := owns_block hoA4.2
      clear hoA4 hx hrA4 hrB4
      go_wp2_with (at_builtin; refine wpList_append2 _ rfl (.tmp 45) (.tmp 49) 23 rfl w1.heap.size 43 i0 _ 5 48 Tryz.underlying23 hi hz0 hz1 hz2 rfl (by decide) ga la ca _ rfl hoAx ⟨_, 0, none⟩ 1 1 (⟨kd, nm, tx, ks, pl⟩ : Nd).row rfl rfl hnx (nd_row_one _) ?a3 ?a4 ?a5 ?_)
      case a3 => unfold maxLen; omega
      case a4 => omega
      case a5 => have := hbr4.size; simp; omega
      intro g2 c2' w8 hown8 hgrow8 hwh8
      have hO8 := OwnN.push hown8 HLA.out rfl
      have hrB8 := hrBx.kept hgrow8 (by omega)
      have hb8 : Below w.heap.size w w8 := (hbr4.alloc hbr4.size _).grown hgrow8 (hbr4.alloc hbr4.size _).size (fun j hj => by cases hj; omega)
      have HFIN : Hid (Jbt w (.returned (.tuple #[.slice (some ⟨g2, 0, none⟩) (la + 1) c2', .slice (some ⟨gb, 0, none⟩) lb cb])) w8) := by
        refine ⟨g2, c2', la + 1, gb, cb, lb, _, B, rfl, by rw [List.length_append, HLA.out]; rfl, HLB.out, hO8.row.2, hrB8, ⟨by rw [List.length_append, HLA.out]; simp; omega, fun z hz => ?_⟩, hsB', hb8⟩
        rcases List.mem_append.1 hz with hz | hz
        · have := HNA.out z hz; omega
        · simp at hz
          subst hz
          simp only at hxn ⊢
          omega
      clear hown8 hgrow8 hwh8 hO8 hrB8 hb8 hoAx hrBx
      go_wp2
      go_ret2
      exact HFIN.out
    · have t1 : ((how : Int) == 1) = false := by simp; omega
      have hoAW := hoA4
      have hbrW := hbr4
      have hrBW := hrB4
      clear hoA4 hbr4 hrB4 hlb
      go_wp2_with fail
      refine (HSZ.out w4 hoAW.row.2).mono ?_
      rintro e w6 ⟨gz2, cz2, rfl, hiz2, hb6⟩
      have hoA6 := hoAW.below hb6
      have hbr6 := Below.step hbrW hb6
      have hs6 := hb6.size
      have hrB6 := hrBW.below hb6
      have HV2 := HV.out qb gz2 cz2 w4 w6 (by omega) hbr6 hoA6.row.2 hiz2
      clear hoAW hbrW hb6 hrBW hiz2
      go_wp2_with fail
      refine HV2.mono ?_
      rintro e w7 ⟨gc, cc, lc, qc, C, rfl, hlc, _, hlcm, hgc, hoC, hnC, _, hb7, _⟩
      have hrB7 := hrB6.below hb7
      have hbr7 := Below.step hbr6 hb7
      have hrC7 := hoC.row.2
      have HFIN : Hid (Jbt w (.returned (.tuple #[.slice (some ⟨gc, 0, none⟩) lc cc, .slice (some ⟨gb, 0, none⟩) lb cb])) w7) := ⟨gc, cc, lc, gb, cb, lb, C, B, rfl, hlc, HLB.out, hrC7, hrB7, Qcd hnC hlc (by omega), hsB', hbr7⟩
      clear HV2 hoA6 hrB6 hbr6 hb7 hoC hnC hrC7 hrB7
      go_wp2
      go_ret2
      exact HFIN.out
end Go.Proofs.YtoiiibplkhedcaaGreatDoor
