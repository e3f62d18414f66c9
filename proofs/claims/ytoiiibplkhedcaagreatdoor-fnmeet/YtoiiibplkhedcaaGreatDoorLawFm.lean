import Derived.Test.YtoiiibplkhedcaaGreatDoorGZB
import Derived.Test.YtoiiibplkhedcaaGreatDoorGZA
import Derived.Test.YtoiiibplkhedcaaGreatDoorSInstC
import Derived.Test.YtoiiibplkhedcaaGreatDoorIMeet
import Derived.Test.YtoiiibplkhedcaaGreatDoorGU
import Derived.Test.YtoiiibplkhedcaaGreatDoorWEx
namespace Go.Proofs.YtoiiibplkhedcaaGreatDoor
open Go.RowKit
theorem SideOk2.wf {t : List Nd} (h : SideOk2 t) : ∀ x ∈ t, (Lit.int .i64 x.num).wf = true := fun x hx => by
  have := h.2 x hx
  exact WalkArith.wf_i64 (by omega)
set_option maxRecDepth 100000 in
set_option maxHeartbeats 8000000 in
theorem Jcm (n m : Nat) (ao mo : Option Addr) (cap cam : Nat) (w : World) (hn : n ≤ 9223372036854775807) (hm : m ≤ 9223372036854775807) (hc : Code w ao n) (hd : Code w mo m) (gp : Value) (hgv : w.cell? ⟨0, 0, none⟩ = some (.iface 232 gp)) (hgt : ErrT w) :
    Calls Tryz.prog 3 #[.slice ao n cap, .slice mo m cam] w fun e w' => e = .returned (.bool true) ∧ Below w.heap.size w w' := by
  obtain ⟨z, hz⟩ : ∃ z, w.heap.size = z := ⟨_, rfl⟩
  have hz1 : 1 < z := by rw [← hz]; exact lt_of_cell hgt
  have HIM : Hid (∀ (a b : List Nd) (ma mb : Nat) (ao bo : Option Addr) (ca cb : Nat) (W : World), a.length = ma → b.length = mb → SideOk2 a → SideOk2 b → Below z w W → Nodes W ao a → Nodes W bo b → Calls Tryz.prog 6 #[.slice ao ma ca, .slice bo mb cb] W fun e w' => ∃ ag cg out fl, e = .returned (.tuple #[.slice ag out.length cg, .bool fl]) ∧ Qac a b out fl ∧ Ans w' W.heap.size ag out ∧ Below W.heap.size W w') := by
    intro a b ma mb ao bo ca cb W h1 h2 h3 h4 hb h5 h6
    have l1 := h3.1
    have l2 := h4.1
    exact Qej a b ma mb h1 h2 (by omega) (by omega) h3.wf h4.wf gp ao bo ca cb W ((hb.cell (p := ⟨0, 0, none⟩) (by show 0 < z; omega)).trans hgv) (hgt.below hb hz1) h5 h6
  clear hgv hgt
  by_cases hbig : 1048576 < n
  · have t1 : decide ((n : Int) > 1048576) = true := decide_eq_true (by omega)
    clear hc hd
    go_enter Tryz.func3, Tryz.ntmps3
    go_wp2
    go_ret
    exact ⟨rfl, Below.refl _ _⟩
  have t1 : decide ((n : Int) > 1048576) = false := decide_eq_false (by omega)
  by_cases hbig2 : 1048576 < m
  · have t2 : decide ((m : Int) > 1048576) = true := decide_eq_true (by omega)
    clear hc hd
    go_enter Tryz.func3, Tryz.ntmps3
    go_wp2
    go_ret
    exact ⟨rfl, Below.refl _ _⟩
  have t2 : decide ((m : Int) > 1048576) = false := decide_eq_false (by omega)
  have HDR := Qeo n (by omega) ao cap w hc
  have HD : Hid (∀ W, Below z w W → Code W mo m) := fun W hW => hd.below (by rw [hz]; exact hW)
  clear hc hd
  go_enter Tryz.func3, Tryz.ntmps3
  go_wp2_with fail
  refine HDR.mono ?_
  rintro e w1 ⟨ga, ca, la, gb, cb, lb, A, B, rfl, hla, hlb, hrA, hrB, hsA, hsB, hb1⟩
  rw [hz] at hb1
  have HLA : Hid (A.length = la) := hla
  have HLB : Hid (B.length = lb) := hlb
  have HSA : Hid (SideOk2 A) := hsA
  have HSB : Hid (SideOk2 B) := hsB
  have hla1 : la ≤ 101 := by rw [← hla]; exact hsA.1
  have hlb1 : lb ≤ 101 := by rw [← hlb]; exact hsB.1
  have HME := Qdt A B la lb HLA HLB (by omega) (by omega) (some ⟨ga, 0, none⟩) (some ⟨gb, 0, none⟩) ca cb w1 hrA.nodes hrB.nodes
  have hs1 := hb1.size
  clear HDR hla hlb hsA hsB
  go_wp2_with fail
  refine HME.mono ?_
  rintro e w2 ⟨gw, cw, lz, Z, fl, rfl, _, hlz, hrW, hres, hb2⟩
  have hrA2 := hrA.below hb2
  have hrB2 := hrB.below hb2
  have hbz2 : Below z w w2 := hb1.trans (hb2.mono (by omega))
  have hs2 := hbz2.size
  have HLZ : Hid (Z.length = lz) := hlz
  have HRES : Hid (Qac A B Z fl) := hres
  obtain ⟨hz3, hzw⟩ := Jbn hres HSA.out.wf HSB.out.wf
  rw [hlz] at hz3
  have HZW : Hid (∀ n ∈ Z, (Lit.int .i64 n.num).wf = true) := hzw
  have HM1 := HIM.out A B la lb (some ⟨ga, 0, none⟩) (some ⟨gb, 0, none⟩) ca cb w2 HLA.out HLB.out HSA.out HSB.out hbz2 hrA2.nodes hrB2.nodes
  clear HME hrA hrB hb1 hb2 hlz hres hzw
  go_wp2_with fail
  refine HM1.mono ?_
  rintro e w3 ⟨am, cm, out1, fl1, rfl, hres1, hans1, hb3⟩
  obtain ⟨rfl, rfl⟩ := Qeh HRES.out hres1
  rw [HLZ.out]
  have hrA3 := hrA2.below hb3
  have hrB3 := hrB2.below hb3
  have hrW3 := hrW.below hb3
  have hbz3 : Below z w w3 := hbz2.trans (hb3.mono (by omega))
  have hs3 := hbz3.size
  have hnm3 := hans1.nodes
  have HM2 := HIM.out B A lb la (some ⟨gb, 0, none⟩) (some ⟨ga, 0, none⟩) cb ca w3 HLB.out HLA.out HSB.out HSA.out hbz3 hrB3.nodes hrA3.nodes
  clear HM1 hrA2 hrB2 hrW hbz2 hb3 hres1 hans1
  go_wp2_with fail
  refine HM2.mono ?_
  rintro e w4 ⟨aw, cw2, out2, fl2, rfl, hres2, hans2, hb4⟩
  obtain ⟨rfl, rfl⟩ := Jbm HRES.out hres2
  rw [HLZ.out]
  have hrA4 := hrA3.below hb4
  have hrB4 := hrB3.below hb4
  have hrW4 := hrW3.below hb4
  have hbz4 : Below z w w4 := hbz3.trans (hb4.mono (by omega))
  have hs4 := hbz4.size
  have hnm4 := hnm3.below hb4
  have hnw4 := hans2.nodes
  have tfl : (fl != fl) = false := by simp
  have HX1 := Qca Z lz HLZ am (some ⟨gw, 0, none⟩) cm cw w4 hnm4 hrW4.nodes (by omega)
  clear HM2 hrA3 hrB3 hrW3 hbz3 hb4 hres2 hans2 hnm3
  go_wp2_with fail
  refine HX1.mono ?_
  rintro e w5 ⟨rfl, hb5⟩
  have hrA5 := hrA4.below hb5
  have hrB5 := hrB4.below hb5
  have hrW5 := hrW4.below hb5
  have hbz5 : Below z w w5 := hbz4.trans (hb5.mono (by omega))
  have hs5 := hbz5.size
  have hnm5 := hnm4.below hb5
  have hnw5 := hnw4.below hb5
  have HX2 := Qca Z lz HLZ aw (some ⟨gw, 0, none⟩) cw2 cw w5 hnw5 hrW5.nodes (by omega)
  clear HX1 hrA4 hrB4 hrW4 hbz4 hb5 hnm4 hnw4
  go_wp2_with fail
  refine HX2.mono ?_
  rintro e w6 ⟨rfl, hb6⟩
  have hrA6 := hrA5.below hb6
  have hrB6 := hrB5.below hb6
  have hbz6 : Below z w w6 := hbz5.trans (hb6.mono (by omega))
  have hs6 := hbz6.size
  have hnm6 := hnm5.below hb6
  have HWF := Qdo m (by omega) mo cam w6 (HD.out w6 hbz6)
  clear HX2 hrA5 hrB5 hrW5 hbz5 hb6 hnm5 hnw5
  go_wp2_with fail
  refine HWF.mono ?_
  rintro e w7 ⟨gf, cf, fs, rfl, hbf, hF, hb7⟩
  have hrA7 := hrA6.below hb7
  have hrB7 := hrB6.below hb7
  have hbz7 : Below z w w7 := hbz6.trans (hb7.mono (by omega))
  have hs7 := hbz7.size
  have hnm7 := hnm6.below hb7
  have HF : Hid (FillOk 8 fs) := hF
  have HFL : Hid (fs.length = 8) := hF.1
  have HFK : ∀ b ∈ fs, b.2.length ≤ 1048576 := by
    intro b hb
    obtain ⟨j, hj, rfl⟩ := List.getElem_of_mem hb
    have := (hF.2 j hj).2.len
    omega
  have HPU := specPutC_any fs 8 HFL (by omega) HFK A la HLA (by omega) (some ⟨gf, 0, none⟩) (some ⟨ga, 0, none⟩) cf ca w7 hbf hrA7.nodes
  clear HWF hrA6 hrB6 hbz6 hb7 hnm6 hF
  go_wp2_with fail
  refine HPU.mono ?_
  rintro e w8 ⟨gc, cc, lc, rfl, _, hlc, hrC, hb8, hcc⟩
  have hrA8 := hrA7.below hb8
  have hrB8 := hrB7.below hb8
  have hbz8 : Below z w w8 := hbz7.trans (hb8.mono (by omega))
  have hs8 := hbz8.size
  have hnm8 := hnm7.below hb8
  obtain ⟨C, hC⟩ : ∃ C, putOf fs A = C := ⟨_, rfl⟩
  rw [hC] at hlc hrC
  have HC : Hid (putOf fs A = C) := hC
  have HLC : Hid (C.length = lc) := hlc
  have hlc3 : lc ≤ 300 := by
    rw [← hlc, ← hC]
    unfold putOf
    split
    · next h8 => exact h8.2.2
    · simp
  have HCW : Hid (∀ n ∈ C, (Lit.int .i64 n.num).wf = true) := by
    have h9 := Jci HF.out HSA.out.wf
    intro n hn
    rw [← hC] at hn
    refine h9 n ?_
    unfold putOf at hn
    split at hn
    · exact hn
    · simp at hn
  have HIN := Qdd B C lb lc HLB HLC (by omega) (by omega) cb cc hcc gb gc w8 hrB8 hrC
  clear HPU hrA7 hrB7 hbz7 hb8 hnm7 hbf hC hlc HFK
  go_wp2_with fail
  refine HIN.mono ?_
  rintro e w9 ⟨ai, ci, li, bsi, fl0, rfl, _, hir0, _, _, _, hb9⟩
  have hrA9 := hrA8.below hb9
  have hrB9 := hrB8.below hb9
  have hrC9 := hrC.below hb9
  have hbz9 : Below z w w9 := hbz8.trans (hb9.mono (by omega))
  have hs9 := hbz9.size
  have hnm9 := hnm8.below hb9
  obtain ⟨hL1, hL2⟩ := Jap HF.out HRES.out (by rw [HC.out]; exact hir0)
  rw [HC.out] at hL2
  clear HIN hrA8 hrB8 hrC hbz8 hb9 hnm8 hir0
  cases fl
  · obtain rfl : fl0 = false := hL1 rfl
    clear hL1 hL2 hrA9 hrB9 hrC9 hnm9
    go_wp2
    go_ret
    exact ⟨by simp, by rw [hz]; exact hbz9⟩
  · obtain ⟨hI1, hI2, hI3⟩ := hL2 rfl
    have HJ1 := Qbd A Z la lz HLA HLZ (by omega) (by omega) HSA.out.wf HZW (some ⟨ga, 0, none⟩) am ca cm w9 hrA9.nodes hnm9
    clear hL1 hL2
    go_wp2_with fail
    refine HJ1.mono ?_
    rintro e wa ⟨aj, cj, bsj, fj, rfl, hirj, _, hba⟩
    obtain rfl := hI1 hirj
    have hrBa := hrB9.below hba
    have hrCa := hrC9.below hba
    have hbza : Below z w wa := hbz9.trans (hba.mono (by omega))
    have hsa := hbza.size
    have hnma := hnm9.below hba
    have HJ2 := Qbd B Z lb lz HLB HLZ (by omega) (by omega) HSB.out.wf HZW (some ⟨gb, 0, none⟩) am cb cm wa hrBa.nodes hnma
    clear HJ1 hrA9 hrB9 hrC9 hbz9 hba hnm9 hirj hI1
    go_wp2_with fail
    refine HJ2.mono ?_
    rintro e wb ⟨ak, ck, bsk, fk, rfl, hirk, _, hbb⟩
    obtain rfl := hI2 hirk
    have hrCb := hrCa.below hbb
    have hbzb : Below z w wb := hbza.trans (hbb.mono (by omega))
    have hsb := hbzb.size
    have hnmb := hnma.below hbb
    have HJ3 := Qbd Z C lz lc HLZ HLC (by omega) (by omega) HZW HCW am (some ⟨gc, 0, none⟩) cm cc wb hnmb hrCb.nodes
    clear HJ2 hrBa hrCa hbza hbb hnma hirk hI2
    go_wp2_with fail
    refine HJ3.mono ?_
    rintro e wd ⟨al, cl, bsl, f3, rfl, hirl, _, hbd⟩
    have hbzd : Below z w wd := hbzb.trans (hbd.mono (by omega))
    cases fl0
    · clear HJ3 hI3 hirl hrCb hbzb hbd hnmb
      go_wp2
      go_ret
      exact ⟨by simp, by rw [hz]; exact hbzd⟩
    · obtain rfl := hI3 rfl hirl
      clear HJ3 hI3 hirl hrCb hbzb hbd hnmb
      go_wp2
      go_ret
      exact ⟨by simp, by rw [hz]; exact hbzd⟩
end Go.Proofs.YtoiiibplkhedcaaGreatDoor
