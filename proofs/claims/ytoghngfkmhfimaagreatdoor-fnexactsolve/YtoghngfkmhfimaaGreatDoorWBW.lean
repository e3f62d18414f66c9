import Derived.Test.YtoghngfkmhfimaaGreatDoorNSv
import Derived.Test.YtoghngfkmhfimaaGreatDoorWBU
import Derived.Test.YtoghngfkmhfimaaGreatDoorWBV
import Derived.Test.YtoghngfkmhfimaaGreatDoorProg
import Derived.Test.YtoghngfkmhfimaaGreatDoorWAA
import Derived.ProofKit
import Derived.Deep.Slices
import Derived.Test.YtoghngfkmhfimaaGreatDoorWAD
import Derived.Test.YtoghngfkmhfimaaGreatDoorWAC
namespace Go.Proofs.YtoghngfkmhfimaaGreatDoor

open Go.RowKit Go.Maps

/-! impl.Solve. -/

theorem solve_binds {ps : List (List Nd × List Nd)} {X : Nat → Prop} {f : Nat → CC} {lk : Nat → Option Nat} {K : (Option Addr × Nat × Nat) → List Nat} {U : Int → Int → Option Nat} {σ : Int → List Nd} {θ : Nat → DT} (hv : Valid ps) (hF : SolF ps X f lk K U σ θ) (hwf : ∀ x b, U 1 x = some b → (Lit.int .i64 x).wf = true) (hlen : ∀ x b, U 1 x = some b → (σ x).length ≤ 300) {bs : List (Int × List Nd)}
    (h : IsBinds (fun x => if (Lit.int .i64 x).wf = true then (U 1 x).map (fun _ => σ x) else none) bs) : SolveRes ps true 0 bs := by
  obtain ⟨h1, h2, h3⟩ := h
  have hB : ∀ p ∈ bs, (∃ b, U 1 p.1 = some b) ∧ p.2 = σ p.1 := by
    intro p hp
    have h9 := h2 p hp
    simp only at h9
    by_cases hw : (Lit.int .i64 p.1).wf = true
    · rw [if_pos hw] at h9
      cases hu : U 1 p.1 with
      | none => rw [hu] at h9; cases h9
      | some b =>
        rw [hu] at h9
        simp only [Option.map_some, Option.some.injEq] at h9
        exact ⟨⟨b, rfl⟩, h9.symm⟩
    · rw [if_neg hw] at h9
      cases h9
  refine .ok σ bs hv hF.ok h1 (fun x => ⟨fun hx => ?_, fun hx => ?_⟩) (fun p hp => ⟨(hB p hp).2, ?_⟩)
  · obtain ⟨p, hp, rfl⟩ := List.mem_map.1 hx
    exact (hF.occ p.1).1 (hB p hp).1
  · obtain ⟨b, hb⟩ := (hF.occ x).2 hx
    exact h3 x (by simp only; rw [if_pos (hwf x b hb), hb]; rfl)
  · obtain ⟨⟨b, hb⟩, e⟩ := hB p hp
    rw [e]
    exact hlen _ b hb

set_option maxRecDepth 20000 in
set_option maxHeartbeats 8000000 in
theorem implSolve_any (ps : List (List Nd × List Nd)) (m : Nat) (HM : Hid (ps.length = m)) (hm : m ≤ 1048576) (HPL : Hid (∀ p ∈ ps, p.1.length ≤ 1048576 ∧ p.2.length ≤ 1048576)) (HWF : Hid (∀ p ∈ ps, (∀ x ∈ p.1, (Lit.int .i64 x.num).wf = true) ∧ ∀ x ∈ p.2, (Lit.int .i64 x.num).wf = true)) (gp : Value) (ao : Option Addr) (cap : Nat) (w : World) (hgv : w.cell? ⟨0, 0, none⟩ = some (.iface 219 gp)) (hgt : ErrT w) (hx : Pairs w ao ps) :
    Calls Tryz.prog 7 #[.slice ao m cap] w fun e w' => ∃ (ok : Bool) (at' : Int) (bo : Option Addr) (l c : Nat) (bs : List (Int × List Nd)), e = .returned (.agg #[.bool ok, .int .i64 at', .slice bo l c]) ∧ bs.length = l ∧ SolveRes ps ok at' bs ∧ BAns w' w.heap.size bo bs ∧ Below w.heap.size w w' := by
  obtain ⟨z, hz⟩ : ∃ z, w.heap.size = z := ⟨_, rfl⟩
  have hz1 : 1 < w.heap.size := lt_of_cell hgt
  have HX : Hid (Pairs w ao ps) := hx
  have HGT : Hid (ErrT w) := hgt
  have HGV : Hid (w.cell? ⟨0, 0, none⟩ = some (.iface 219 gp)) := hgv
  clear hx hgt hgv
  go_enter Tryz.func7, Tryz.ntmps7
  go_wp2_with fail
  have hA : Below w.heap.size w (w.alloc (.cells #[.bool false, .int .i64 0, .slice none 0 0] 26)) := (Below.refl _ w).alloc (Nat.le_refl _) _
  have hzb : (w.alloc (.cells #[.bool false, .int .i64 0, .slice none 0 0] 26)).heap[z]? = some (.cells #[.bool false, .int .i64 0, .slice none 0 0] 26 (0, 0)) := by rw [← hz]; exact heap_alloc_new _ _
  have hzl0 : z < (w.alloc (.cells #[.bool false, .int .i64 0, .slice none 0 0] 26)).heap.size := (Array.getElem?_eq_some_iff.1 hzb).1
  refine (areTypes_any ps m HM hm HPL ao cap _ (HX.out.below hA)).mono ?_
  rintro e w1 ⟨⟨ok, rfl, hok⟩, hb1⟩
  have hrb1 := (hb1.block z hzl0).trans hzb
  have hbw1 : Below z w w1 := by rw [← hz]; exact Below.step hA hb1
  have hz1' := hbw1.size
  clear hA hzb hb1 hzl0
  cases ok with
  | false =>
    have HRES : Hid (SolveRes ps false (-1) []) := .bad (fun hv => by have := hok.2 hv; cases this)
    obtain ⟨r0, r1, r2, f0, f1, f2, hzl, hrbut⟩ := rbox3 (a' := .bool false) (b' := .int .i64 (-1)) (c' := .slice none 0 0) hrb1
    have hfin := hbw1.trans (hrbut.below (by omega) (fun q hq => by omega))
    clear hok hrb1
    go_wp2
    refine bodyPost_ret (v := .agg #[.bool false, .int .i64 (-1), .slice none 0 0]) (by simp [results, Tryz.results7, go_sem, r0, r1, r2]) rfl ?_
    exact ⟨false, -1, none, 0, 0, [], rfl, rfl, HRES.out, .inl rfl, by rw [hz]; exact hfin⟩
  | true =>
    have HV : Hid (Valid ps) := hok.1 rfl
    have hgv1 := (hbw1.cell (p := ⟨0, 0, none⟩) (by show 0 < z; omega)).trans HGV.out
    have hgt1 : ErrT w1 := HGT.out.below hbw1 (by omega)
    have HSO := solve_any ps m HM HV HWF 219 gp ao cap w1 hgv1 (HX.out.below (by rw [hz]; exact hbw1))
    have hzl1 : z < w1.heap.size := (Array.getElem?_eq_some_iff.1 hrb1).1
    clear hok hgv1
    go_wp2_with fail
    refine HSO.mono ?_
    rintro e w2 ⟨hres, hb2⟩
    have hbw2 : Below z w w2 := by rw [← hz] at hbw1 ⊢; exact Below.step hbw1 hb2
    have hz2 := hb2.size
    have hrb2 := (hb2.block z hzl1).trans hrb1
    have hgt2 : ErrT w2 := hgt1.below hb2 (by omega)
    clear HSO hbw1 hrb1 hgt1
    rcases hres with ⟨ub, r, v, rfl, hub, hcl, hsr⟩ | ⟨ub, r, rfl, hub, hcl, hsr⟩ | ⟨sb, mb, n, X, f, lk, d, K, U, D, σ, θ, rfl, hn, hXz, hS, s0, hO, hud, hUX, hwu, hF, hlen⟩
    · have HRES : Hid (SolveRes ps false (r : Int) []) := hsr
      have hB : Below w2.heap.size w2 (w2.alloc (.cells #[.pointer none] 60)) := (Below.refl _ w2).alloc (Nat.le_refl _) _
      have HAS := as_upB ⟨ub, 0, none⟩ w2.heap.size _ (hgt2.below hB (by omega)) (heap_alloc_new w2 (.cells #[.pointer none] 60))
      have hubl : ub < w2.heap.size := (Array.getElem?_eq_some_iff.1 hcl).1
      have HST : Hid (∀ w3, But (fun k => k = w2.heap.size) (w2.alloc (.cells #[.pointer none] 60)) w3 → Below z w w3 ∧ ErrT w3 ∧ w3.heap[z]? = some (.cells #[.bool false, .int .i64 0, .slice none 0 0] 26 (0, 0)) ∧ w3.heap[ub]? = some (.cells #[.int .i64 (r : Int), .iface 105 (.pointer (some v))] 65 (0, 0)) ∧ w2.heap.size < w3.heap.size) := by
        intro w3 hb3
        have hb23 : Below w2.heap.size w2 w3 := ⟨hb3.os.trans hB.os, hb3.tape.trans hB.tape, hb3.output.trans hB.output, Nat.le_trans hB.size hb3.size, fun k hk => (hb3.block k (by simp; omega) (by omega)).trans (hB.block k hk)⟩
        refine ⟨hbw2.trans (hb23.mono (by omega)), hgt2.below hb23 (by omega), (hb23.block z (by omega)).trans hrb2, (hb23.block ub hubl).trans hcl, ?_⟩
        have := hb3.size
        simp at this
        omega
      clear hsr hB
      go_wp2_with fail
      refine HAS.mono ?_
      rintro e w3 ⟨rfl, hft, hb3⟩
      obtain ⟨hbw3, hgt3, hrb3, hcl3, hl3⟩ := HST.out w3 hb3
      have HIC := isClash_yes ub v w3 hgt3 (by rw [cell_of_row _ _ _ _ 65 (0, 0) hcl3]; rfl)
      clear HAS HST hb3 hgt3 hgt2 hcl hrb2 hbw2
      go_wp2_with fail
      refine HIC.mono ?_
      rintro e w4 ⟨rfl, hb4⟩
      have hs3 := hbw3.size
      have hzl3 : z < w3.heap.size := (Array.getElem?_eq_some_iff.1 hrb3).1
      have hbw4 : Below z w w4 := hbw3.trans (hb4.mono (by omega))
      have hrb4 := (hb4.block z hzl3).trans hrb3
      have hft4 := (hb4.cell (p := ⟨w2.heap.size, 0, none⟩) hl3).trans hft
      have hcl4 := (hb4.block ub (by omega)).trans hcl3
      have hp4 : w4.cell? ⟨ub, 0, none⟩ = some (.int .i64 (r : Int)) := by rw [cell_of_row _ _ _ _ 65 (0, 0) hcl4]; rfl
      have hs4 := hb4.size
      have hl4 : w2.heap.size < w4.heap.size := by omega
      have hul4 : ub < w4.heap.size := by omega
      obtain ⟨r0, r1, r2, f0, f1, f2, hzl, hrbut⟩ := rbox3 (a' := .bool false) (b' := .int .i64 (r : Int)) (c' := .slice none 0 0) hrb4
      have hfin := hbw4.trans (hrbut.below (by omega) (fun q hq => by omega))
      clear HIC hb4 hrb3 hcl3 hft hrb4 hcl4 hbw3
      go_wp2
      refine bodyPost_ret (v := .agg #[.bool false, .int .i64 (r : Int), .slice none 0 0]) (by simp [results, Tryz.results7, go_sem, r0, r1, r2]) rfl ?_
      exact ⟨false, (r : Int), none, 0, 0, [], rfl, rfl, HRES.out, .inl rfl, by rw [hz]; exact hfin⟩
    · have HRES : Hid (SolveRes ps false (-1) []) := hsr
      have hB : Below w2.heap.size w2 (w2.alloc (.cells #[.pointer none] 60)) := (Below.refl _ w2).alloc (Nat.le_refl _) _
      have HAS := as_upB ⟨ub, 0, none⟩ w2.heap.size _ (hgt2.below hB (by omega)) (heap_alloc_new w2 (.cells #[.pointer none] 60))
      have hubl : ub < w2.heap.size := (Array.getElem?_eq_some_iff.1 hcl).1
      have HST : Hid (∀ w3, But (fun k => k = w2.heap.size) (w2.alloc (.cells #[.pointer none] 60)) w3 → Below z w w3 ∧ ErrT w3 ∧ w3.heap[z]? = some (.cells #[.bool false, .int .i64 0, .slice none 0 0] 26 (0, 0)) ∧ w3.heap[ub]? = some (.cells #[.int .i64 (r : Int), .iface 219 gp] 65 (0, 0)) ∧ w2.heap.size < w3.heap.size) := by
        intro w3 hb3
        have hb23 : Below w2.heap.size w2 w3 := ⟨hb3.os.trans hB.os, hb3.tape.trans hB.tape, hb3.output.trans hB.output, Nat.le_trans hB.size hb3.size, fun k hk => (hb3.block k (by simp; omega) (by omega)).trans (hB.block k hk)⟩
        refine ⟨hbw2.trans (hb23.mono (by omega)), hgt2.below hb23 (by omega), (hb23.block z (by omega)).trans hrb2, (hb23.block ub hubl).trans hcl, ?_⟩
        have := hb3.size
        simp at this
        omega
      clear hsr hB
      go_wp2_with fail
      refine HAS.mono ?_
      rintro e w3 ⟨rfl, hft, hb3⟩
      obtain ⟨hbw3, hgt3, hrb3, hcl3, hl3⟩ := HST.out w3 hb3
      have HIC := isClash_no ub gp w3 hgt3 (by rw [cell_of_row _ _ _ _ 65 (0, 0) hcl3]; rfl)
      clear HAS HST hb3 hgt3 hgt2 hcl hrb2 hbw2
      go_wp2_with fail
      refine HIC.mono ?_
      rintro e w4 ⟨rfl, hb4⟩
      have hs3 := hbw3.size
      have hzl3 : z < w3.heap.size := (Array.getElem?_eq_some_iff.1 hrb3).1
      have hbw4 : Below z w w4 := hbw3.trans (hb4.mono (by omega))
      have hrb4 := (hb4.block z hzl3).trans hrb3
      obtain ⟨r0, r1, r2, f0, f1, f2, hzl, hrbut⟩ := rbox3 (a' := .bool false) (b' := .int .i64 (-1)) (c' := .slice none 0 0) hrb4
      have hfin := hbw4.trans (hrbut.below (by omega) (fun q hq => by omega))
      clear HIC hb4 hrb3 hcl3 hft hrb4 hbw3
      go_wp2
      refine bodyPost_ret (v := .agg #[.bool false, .int .i64 (-1), .slice none 0 0]) (by simp [results, Tryz.results7, go_sem, r0, r1, r2]) rfl ?_
      exact ⟨false, -1, none, 0, 0, [], rfl, rfl, HRES.out, .inl rfl, by rw [hz]; exact hfin⟩
    · have hB : Below w2.heap.size w2 (w2.alloc (.cells #[.pointer none] 60)) := (Below.refl _ w2).alloc (Nat.le_refl _) _
      have HSB : Hid (∀ bs, IsBinds (fun x => if (Lit.int .i64 x).wf = true then (U 1 x).map (fun _ => σ x) else none) bs → SolveRes ps true 0 bs) := fun bs h => solve_binds HV.out hF hwu hlen h
      have hSB : CSto (w2.alloc (.cells #[.pointer none] 60)) X f lk d K := hS.still (But.ofBelow hB)
      have HFO := found_any X f lk d K θ (w2.alloc (.cells #[.pointer none] 60)) sb mb n (by omega) U D hSB hF.sat ((hB.cell (p := ⟨sb, 0, none⟩) (lt_of_cell s0)).trans s0) (ownsMap_but hO (But.ofBelow (S := fun _ => False) hB) (fun h => h)) hud hUX σ (fun x b e => ⟨hF.read x b e, hlen x b e⟩)
      have hbwB : Below z w (w2.alloc (.cells #[.pointer none] 60)) := hbw2.trans (hB.mono (by omega))
      have hrbB := (hB.block z (by omega)).trans hrb2
      have hzB : z < (w2.alloc (.cells #[.pointer none] 60)).heap.size := (Array.getElem?_eq_some_iff.1 hrbB).1
      have HXW : Hid (∀ i, X i → w1.heap.size ≤ i) := hXz
      clear hgt2 hS s0 hO hud hUX hF hlen hSB hwu hrb2 hbw2 hB hXz
      go_wp2_with fail
      refine (as_nil _ _).mono ?_
      rintro e w3 ⟨rfl, rfl⟩
      go_wp2_with fail
      refine HFO.mono ?_
      rintro e w4 ⟨tb, k, hk, rfl, hRw, hB4⟩
      have hbw4 : Below z w w4 := below_but hbwB hB4 (by omega) (fun i hi => by have := HXW.out i hi; omega)
      have hrb4 := (hB4.block z hzB (fun hx => by have := HXW.out z hx; omega)).trans hrbB
      have hzB4 := hB4.size
      have HBO := bindsOf_any _ _ tb k (by omega) w4 hRw hB4.size
      have hz4 := hbw4.size
      have hzl4 : z < w4.heap.size := (Array.getElem?_eq_some_iff.1 hrb4).1
      clear HFO hRw hB4 hrbB
      go_wp2_with fail
      refine HBO.mono ?_
      rintro e w5 ⟨ag, cg, bs, rfl, hIB, hBA, hb5⟩
      have HRES : Hid (SolveRes ps true 0 bs) := HSB.out bs hIB
      have hbw5 : Below z w w5 := hbw4.trans (hb5.mono (by omega))
      have hrb5 := (hb5.block z hzl4).trans hrb4
      have hBA2 : BAns w5 (z + 1) ag bs := bans_mono hBA (by omega)
      obtain ⟨r0, r1, r2, f0, f1, f2, hzl, hrbut⟩ := rbox3 (a' := .bool true) (b' := .int .i64 0) (c' := .slice ag bs.length cg) hrb5
      have hfin := hbw5.trans (hrbut.below (by omega) (fun q hq => by omega))
      have hans2 := bans_mono (hBA2.but hrbut (fun q hq e => by omega)) (B' := z) (by omega)
      clear HBO hIB hBA hb5 hrb4 hrb5 hbw4 hBA2
      go_wp2
      refine bodyPost_ret (v := .agg #[.bool true, .int .i64 0, .slice ag bs.length cg]) (by simp [results, Tryz.results7, go_sem, r0, r1, r2]) rfl ?_
      exact ⟨true, 0, ag, bs.length, cg, bs, rfl, rfl, HRES.out, by rw [hz]; exact hans2, by rw [hz]; exact hfin⟩

end Go.Proofs.YtoghngfkmhfimaaGreatDoor

namespace Go.Proofs.YtoghngfkmhfimaaGreatDoor

open Go.ChangeShapes Go.WideShapes Go.ChangeAt Go.RowKit Go.Deep

theorem Tryz.cells135 : Tryz.prog.cellsOf 135 = 5 := by kernel_rfl
theorem Tryz.cells3 : Tryz.prog.cellsOf 3 = 1 := by kernel_rfl
theorem Tryz.cells2 : Tryz.prog.cellsOf 2 = 1 := by kernel_rfl
theorem Tryz.cells9 : Tryz.prog.cellsOf 9 = 1 := by kernel_rfl

set_option maxRecDepth 4000 in
/-- One node read out of five cells. -/
theorem open_nodeW {H : Type} {enc : TypeId × Value → H} {W : World} {base : Nat} {spare : Nat → Bool} {held : Bool} {fuel : Nat} {cs : List Value} {x : DataW H × List MemPlace}
    (h : DataW.trod enc Tryz.prog W base spare held fuel 135 cs = some x) :
    ∃ n : Nd, (n.text.size ≤ maxLen ∧ (Lit.int .i64 n.num).wf = true) ∧ cs = [.int .i64 n.kind, .int .i64 n.num, .string n.text, .int .i64 n.kids, .int .i64 n.place] := by
  obtain ⟨ys, k, _, _, hlen, hyl, hf⟩ := DataW.trod_struct Tryz.underlying135 h
  rw [Tryz.cells135] at hlen
  match cs, hlen with
  | [v0, v1, v2, v3, v4], _ =>
    have l0 : ∃ y, ys[0]? = some y := ⟨_, List.getElem?_eq_getElem (by simp at hyl; omega)⟩
    have l1 : ∃ y, ys[1]? = some y := ⟨_, List.getElem?_eq_getElem (by simp at hyl; omega)⟩
    have l2 : ∃ y, ys[2]? = some y := ⟨_, List.getElem?_eq_getElem (by simp at hyl; omega)⟩
    have l3 : ∃ y, ys[3]? = some y := ⟨_, List.getElem?_eq_getElem (by simp at hyl; omega)⟩
    have l4 : ∃ y, ys[4]? = some y := ⟨_, List.getElem?_eq_getElem (by simp at hyl; omega)⟩
    obtain ⟨y0, l0⟩ := l0
    obtain ⟨y1, l1⟩ := l1
    obtain ⟨y2, l2⟩ := l2
    obtain ⟨y3, l3⟩ := l3
    obtain ⟨y4, l4⟩ := l4
    have g0 := (hf 0 { name := "Kind", type := 3, offset := 0, embedded := false, tag := "", pkgPath := "", byteOffset := 0 } rfl).trans l0
    have g1 := (hf 1 { name := "Num", type := 2, offset := 1, embedded := false, tag := "", pkgPath := "", byteOffset := 8 } rfl).trans l1
    have g2 := (hf 2 { name := "Text", type := 9, offset := 2, embedded := false, tag := "", pkgPath := "", byteOffset := 16 } rfl).trans l2
    have g3 := (hf 3 { name := "Kids", type := 3, offset := 3, embedded := false, tag := "", pkgPath := "", byteOffset := 32 } rfl).trans l3
    have g4 := (hf 4 { name := "At", type := 3, offset := 4, embedded := false, tag := "", pkgPath := "", byteOffset := 40 } rfl).trans l4
    simp only [Tryz.cells3, Tryz.cells2, Tryz.cells9, List.drop_zero, List.drop_succ_cons, List.take_succ_cons, List.take_zero] at g0 g1 g2 g3 g4
    obtain ⟨a0, e0, _, _⟩ := DataW.trod_int Tryz.underlying3 g0
    obtain ⟨a1, e1, _, hw⟩ := DataW.trod_int Tryz.underlying2 g1
    obtain ⟨a2, e2, _, hs⟩ := DataW.trod_string Tryz.underlying9 g2
    obtain ⟨a3, e3, _, _⟩ := DataW.trod_int Tryz.underlying3 g3
    obtain ⟨a4, e4, _, _⟩ := DataW.trod_int Tryz.underlying3 g4
    simp at e0 e1 e2 e3 e4
    subst e0 e1 e2 e3 e4
    exact ⟨⟨a0, a1, a2, a3, a4⟩, ⟨hs, hw⟩, rfl⟩

set_option maxRecDepth 4000 in
/-- A slice of nodes that came in. -/
theorem open_nodesW {H : Type} {enc : TypeId × Value → H} {W : World} {base : Nat} {spare : Nat → Bool} {held : Bool} {fuel : Nat} {ao : Option Addr} {len cap : Nat} {x : DataW H × List MemPlace}
    (h : DataW.trod enc Tryz.prog W base spare held fuel 36 [.slice ao len cap] = some x) :
    ∃ xs : List Nd, xs.length = len ∧ len ≤ 9223372036854775807 ∧ Nodes W ao xs ∧ ∀ n ∈ xs, n.text.size ≤ maxLen ∧ (Lit.int .i64 n.num).wf = true := by
  rcases open_slice Tryz.underlying36 h with ⟨hcs, _⟩ | ⟨a, l, c, m, n, D, Pl, hcs, _, hl, hm, hmm, _, hx⟩
  · simp at hcs
    obtain ⟨rfl, rfl, rfl⟩ := hcs
    exact ⟨[], rfl, by omega, fun i hi => by simp at hi, by simp⟩
  · simp at hcs
    obtain ⟨rfl, rfl, rfl⟩ := hcs
    have hlm : len ≤ m := by rw [hmm]; split <;> omega
    unfold maxLen at hm
    have inh : Inhabited Nd := ⟨⟨0, 0, ByteArray.empty, 0, 0⟩⟩
    obtain ⟨F, hF⟩ := choose_lt (α := Nd) (n := len) (p := fun i nd => (nd.text.size ≤ maxLen ∧ (Lit.int .i64 nd.num).wf = true) ∧ ∃ b o, a = ⟨b, o, none⟩ ∧ NodeAt W b (o + i * 5) nd) (fun i hi => by
      obtain ⟨cs', h1, h2⟩ := hx i (by omega)
      obtain ⟨nd, hs, rfl⟩ := open_nodeW h2
      rw [Tryz.cells135] at h1
      obtain ⟨_, _, hc⟩ := World.cells?_some h1
      simp only [add_add] at hc
      have c0 := hc 0 (by omega)
      have c1 := hc 1 (by omega)
      have c2 := hc 2 (by omega)
      have c3 := hc 3 (by omega)
      have c4 := hc 4 (by omega)
      obtain ⟨b, o, sp⟩ := a
      have hsp : sp = none := by
        obtain ⟨cs0, z1, z2⟩ := hx 0 (by omega)
        obtain ⟨nd0, _, rfl⟩ := open_nodeW z2
        rw [Tryz.cells135] at z1
        obtain ⟨_, _, zc⟩ := World.cells?_some z1
        have z0 := zc 0 (by omega)
        simpa [Addr.add] using World.cell?_spot (z0.trans rfl)
      subst hsp
      have ad : ∀ j, Addr.add ⟨b, o, none⟩ j = ⟨b, o + j, none⟩ := by
        intro j
        unfold Addr.add
        split
        · simp_all
        · rfl
      simp [ad, ← Nat.add_assoc] at c0 c1 c2 c3 c4
      exact ⟨nd, hs, b, o, rfl, c0, c1, c2, c3, c4⟩)
    refine ⟨(List.range len).map F, by simp, by omega, ?_, ?_⟩
    · intro i hi
      have hi' : i < len := by simpa using hi
      obtain ⟨_, b, o, rfl, hn⟩ := hF i hi'
      exact ⟨b, o, rfl, by simpa using hn⟩
    · intro nd hnd
      simp at hnd
      obtain ⟨i, hi, rfl⟩ := hnd
      exact (hF i hi).1

theorem Tryz.cells36 : Tryz.prog.cellsOf 36 = 1 := by kernel_rfl

set_option maxRecDepth 4000 in
theorem open_nodes_cellW {H : Type} {enc : TypeId × Value → H} {W : World} {base : Nat} {spare : Nat → Bool} {held : Bool} {fuel : Nat} {v : Value} {x : DataW H × List MemPlace}
    (h : DataW.trod enc Tryz.prog W base spare held fuel 36 [v] = some x) :
    ∃ (ao : Option Addr) (cap : Nat) (xs : List Nd), v = .slice ao xs.length cap ∧ xs.length ≤ 9223372036854775807 ∧ Nodes W ao xs ∧ ∀ n ∈ xs, n.text.size ≤ maxLen ∧ (Lit.int .i64 n.num).wf = true := by
  have hv : ∃ ao len cap, v = .slice ao len cap := by
    rcases open_slice Tryz.underlying36 h with ⟨hcs, _⟩ | ⟨a, l, c, m, n, D, Pl, hcs, _⟩
    · simp at hcs; exact ⟨_, _, _, hcs⟩
    · simp at hcs; exact ⟨_, _, _, hcs⟩
  obtain ⟨ao, len, cap, rfl⟩ := hv
  obtain ⟨xs, rfl, hl, hn, hs⟩ := open_nodesW h
  exact ⟨ao, cap, xs, rfl, hl, hn, hs⟩

theorem Tryz.cells38 : Tryz.prog.cellsOf 38 = 2 := by kernel_rfl

set_option maxRecDepth 4000 in
/-- One Pair read out of two cells. -/
theorem open_pairW {H : Type} {enc : TypeId × Value → H} {W : World} {base : Nat} {spare : Nat → Bool} {held : Bool} {fuel : Nat} {cs : List Value} {x : DataW H × List MemPlace}
    (h : DataW.trod enc Tryz.prog W base spare held fuel 38 cs = some x) :
    ∃ (ao bo : Option Addr) (ca cb : Nat) (xs ys : List Nd), cs = [.slice ao xs.length ca, .slice bo ys.length cb] ∧ (xs.length ≤ 9223372036854775807 ∧ Nodes W ao xs ∧ ∀ n ∈ xs, n.text.size ≤ maxLen ∧ (Lit.int .i64 n.num).wf = true) ∧ ys.length ≤ 9223372036854775807 ∧ Nodes W bo ys ∧ ∀ n ∈ ys, n.text.size ≤ maxLen ∧ (Lit.int .i64 n.num).wf = true := by
  obtain ⟨ys, k, _, _, hlen, hyl, hf⟩ := DataW.trod_struct Tryz.underlying38 h
  rw [Tryz.cells38] at hlen
  match cs, hlen with
  | [v0, v1], _ =>
    have l0 : ∃ y, ys[0]? = some y := ⟨_, List.getElem?_eq_getElem (by simp at hyl; omega)⟩
    have l1 : ∃ y, ys[1]? = some y := ⟨_, List.getElem?_eq_getElem (by simp at hyl; omega)⟩
    obtain ⟨y0, l0⟩ := l0
    obtain ⟨y1, l1⟩ := l1
    have g0 := (hf 0 { name := "A", type := 36, offset := 0, embedded := false, tag := "", pkgPath := "", byteOffset := 0 } rfl).trans l0
    have g1 := (hf 1 { name := "B", type := 36, offset := 1, embedded := false, tag := "", pkgPath := "", byteOffset := 24 } rfl).trans l1
    simp only [Tryz.cells36, List.drop_zero, List.drop_succ_cons, List.take_succ_cons, List.take_zero] at g0 g1
    obtain ⟨ao, ca, xs, e0, hx⟩ := open_nodes_cellW g0
    obtain ⟨bo, cb, zs, e1, hz⟩ := open_nodes_cellW g1
    subst e0 e1
    exact ⟨ao, bo, ca, cb, xs, zs, rfl, hx, hz⟩

set_option maxRecDepth 4000 in
/-- A slice of Pairs that came in. -/
theorem open_pairsW {H : Type} {enc : TypeId × Value → H} {W : World} {base : Nat} {spare : Nat → Bool} {held : Bool} {fuel : Nat} {ao : Option Addr} {len cap : Nat} {x : DataW H × List MemPlace}
    (h : DataW.trod enc Tryz.prog W base spare held fuel 22 [.slice ao len cap] = some x) :
    ∃ ps : List (List Nd × List Nd), ps.length = len ∧ len ≤ 9223372036854775807 ∧ Pairs W ao ps ∧ (∀ p ∈ ps, (∀ y ∈ p.1, y.text.size ≤ maxLen ∧ (Lit.int .i64 y.num).wf = true) ∧ ∀ y ∈ p.2, y.text.size ≤ maxLen ∧ (Lit.int .i64 y.num).wf = true) ∧ ∀ p ∈ ps, p.1.length ≤ 9223372036854775807 ∧ p.2.length ≤ 9223372036854775807 := by
  rcases open_slice Tryz.underlying22 h with ⟨hcs, _⟩ | ⟨a, l, c, m, n, D, Pl, hcs, _, hl, hm, hmm, _, hx⟩
  · simp at hcs
    obtain ⟨rfl, rfl, rfl⟩ := hcs
    exact ⟨[], rfl, by omega, fun i hi => by simp at hi, by simp, by simp⟩
  · simp at hcs
    obtain ⟨rfl, rfl, rfl⟩ := hcs
    have hlm : len ≤ m := by rw [hmm]; split <;> omega
    unfold maxLen at hm
    have inh : Inhabited (List Nd × List Nd) := ⟨([], [])⟩
    obtain ⟨F, hF⟩ := choose_lt (α := List Nd × List Nd) (n := len) (p := fun i p => (p.1.length ≤ 9223372036854775807 ∧ p.2.length ≤ 9223372036854775807) ∧ ((∀ y ∈ p.1, y.text.size ≤ maxLen ∧ (Lit.int .i64 y.num).wf = true) ∧ ∀ y ∈ p.2, y.text.size ≤ maxLen ∧ (Lit.int .i64 y.num).wf = true) ∧ ∃ b o, a = ⟨b, o, none⟩ ∧ ∃ a1 c1 a2 c2, W.cell? ⟨b, o + i * 2, none⟩ = some (.slice a1 p.1.length c1) ∧ W.cell? ⟨b, o + i * 2 + 1, none⟩ = some (.slice a2 p.2.length c2) ∧ Nodes W a1 p.1 ∧ Nodes W a2 p.2) (fun i hi => by
      obtain ⟨cs', h1, h2⟩ := hx i (by omega)
      obtain ⟨a1, a2, c1, c2, xs, ys, rfl, ⟨hk, hn, hs⟩, hk2, hn2, hs2⟩ := open_pairW h2
      rw [Tryz.cells38] at h1
      obtain ⟨_, _, hc⟩ := World.cells?_some h1
      simp only [add_add] at hc
      have c0 := hc 0 (by omega)
      have c1' := hc 1 (by omega)
      obtain ⟨b, o, sp⟩ := a
      have hsp : sp = none := by
        obtain ⟨cs0, z1, z2⟩ := hx 0 (by omega)
        obtain ⟨_, _, _, _, _, _, rfl, _⟩ := open_pairW z2
        rw [Tryz.cells38] at z1
        obtain ⟨_, _, zc⟩ := World.cells?_some z1
        have z0 := zc 0 (by omega)
        simpa [Addr.add] using World.cell?_spot (z0.trans rfl)
      subst hsp
      have ad : ∀ j, Addr.add ⟨b, o, none⟩ j = ⟨b, o + j, none⟩ := by
        intro j
        unfold Addr.add
        split
        · simp_all
        · rfl
      simp [ad, ← Nat.add_assoc] at c0 c1'
      exact ⟨(xs, ys), ⟨hk, hk2⟩, ⟨hs, hs2⟩, b, o, rfl, a1, c1, a2, c2, c0, c1', hn, hn2⟩)
    refine ⟨(List.range len).map F, by simp, by omega, ?_, ?_, ?_⟩
    · intro i hi
      have hi' : i < len := by simpa using hi
      obtain ⟨_, _, b, o, rfl, a1, c1, a2, c2, h0, h1, hn, hn2⟩ := hF i hi'
      exact ⟨b, o, a1, c1, a2, c2, rfl, by simpa using h0, by simpa using h1, by simpa using hn, by simpa using hn2⟩
    · intro p hp
      simp at hp
      obtain ⟨i, hi, rfl⟩ := hp
      exact (hF i hi).2.1
    · intro p hp
      simp at hp
      obtain ⟨i, hi, rfl⟩ := hp
      exact (hF i hi).1

end Go.Proofs.YtoghngfkmhfimaaGreatDoor
