import Derived.Test.YtoiiibplkhedcaaGreatDoorNSv
import Derived.Test.YtoiiibplkhedcaaGreatDoorGX
import Derived.Test.YtoiiibplkhedcaaGreatDoorGV
import Derived.Test.YtoiiibplkhedcaaGreatDoorGU
namespace Go.Proofs.YtoiiibplkhedcaaGreatDoor
open Go.RowKit Go.Maps
/-! impl.Solve. -/
theorem Qey {ps : List (List Nd × List Nd)} {X : Nat → Prop} {f : Nat → CC} {lk : Nat → Option Nat} {K : (Option Addr × Nat × Nat) → List Nat} {U : Int → Int → Option Nat} {σ : Int → List Nd} {θ : Nat → DT} (hv : Valid ps) (hF : SolF ps X f lk K U σ θ) (hwf : ∀ x b, U 1 x = some b → (Lit.int .i64 x).wf = true) (hlen : ∀ x b, U 1 x = some b → (σ x).length ≤ 300) {bs : List (Int × List Nd)}
    (h : Qcl (fun x => if (Lit.int .i64 x).wf = true then (U 1 x).map (fun _ => σ x) else none) bs) : SolveRes ps true 0 bs := by
  obtain ⟨h1, h2, h3⟩ := h
  have hB : ∀ p ∈ bs, (∃ b, U 1 p.1 = some b) ∧ p.2 = σ p.1 := by
    intro p hp
    have h9 := h2 p hp
    simp only at h9
    by_cases hw : (Lit.int .i64 p.1).wf = true
    · rw [if_pos hw] at h9
      cases hu : U 1 p.1 with
      | none => rw [hu] at h9; cases h9
      | some b =>
        rw [hu] at h9
        simp only [Option.map_some, Option.some.injEq] at h9
        exact ⟨⟨b, rfl⟩, h9.symm⟩
    · rw [if_neg hw] at h9
      cases h9
  refine .ok σ bs hv hF.ok h1 (fun x => ⟨fun hx => ?_, fun hx => ?_⟩) (fun p hp => ⟨(hB p hp).2, ?_⟩)
  · obtain ⟨p, hp, rfl⟩ := List.mem_map.1 hx
    exact (hF.occ p.1).1 (hB p hp).1
  · obtain ⟨b, hb⟩ := (hF.occ x).2 hx
    exact h3 x (by simp only; rw [if_pos (hwf x b hb), hb]; rfl)
  · obtain ⟨⟨b, hb⟩, e⟩ := hB p hp
    rw [e]
    exact hlen _ b hb
set_option maxRecDepth 20000 in
set_option maxHeartbeats 8000000 in
theorem Qdk (ps : List (List Nd × List Nd)) (m : Nat) (HM : Hid (ps.length = m)) (hm : m ≤ 1048576) (HPL : Hid (∀ p ∈ ps, p.1.length ≤ 1048576 ∧ p.2.length ≤ 1048576)) (HWF : Hid (∀ p ∈ ps, (∀ x ∈ p.1, (Lit.int .i64 x.num).wf = true) ∧ ∀ x ∈ p.2, (Lit.int .i64 x.num).wf = true)) (gp : Value) (ao : Option Addr) (cap : Nat) (w : World) (hgv : w.cell? ⟨0, 0, none⟩ = some (.iface 232 gp)) (hgt : ErrT w) (hx : Pairs w ao ps) :
    Calls Tryz.prog 20 #[.slice ao m cap] w fun e w' => ∃ (ok : Bool) (at' : Int) (bo : Option Addr) (l c : Nat) (bs : List (Int × List Nd)), e = .returned (.agg #[.bool ok, .int .i64 at', .slice bo l c]) ∧ bs.length = l ∧ SolveRes ps ok at' bs ∧ BAns w' w.heap.size bo bs ∧ Below w.heap.size w w' := by
  obtain ⟨z, hz⟩ : ∃ z, w.heap.size = z := ⟨_, rfl⟩
  have hz1 : 1 < w.heap.size := lt_of_cell hgt
  have HX : Hid (Pairs w ao ps) := hx
  have HGT : Hid (ErrT w) := hgt
  have HGV : Hid (w.cell? ⟨0, 0, none⟩ = some (.iface 232 gp)) := hgv
  clear hx hgt hgv
  go_enter Tryz.func20, Tryz.ntmps20
  go_wp2_with fail
  have hA : Below w.heap.size w (w.alloc (.cells #[.bool false, .int .i64 0, .slice none 0 0] 46)) := (Below.refl _ w).alloc (Nat.le_refl _) _
  have hzb : (w.alloc (.cells #[.bool false, .int .i64 0, .slice none 0 0] 46)).heap[z]? = some (.cells #[.bool false, .int .i64 0, .slice none 0 0] 46 (0, 0)) := by rw [← hz]; exact heap_alloc_new _ _
  have hzl0 : z < (w.alloc (.cells #[.bool false, .int .i64 0, .slice none 0 0] 46)).heap.size := (Array.getElem?_eq_some_iff.1 hzb).1
  refine (Qet ps m HM hm HPL ao cap _ (HX.out.below hA)).mono ?_
  rintro e w1 ⟨⟨ok, rfl, hok⟩, hb1⟩
  have hrb1 := (hb1.block z hzl0).trans hzb
  have hbw1 : Below z w w1 := by rw [← hz]; exact Below.step hA hb1
  have hz1' := hbw1.size
  clear hA hzb hb1 hzl0
  cases ok with
  | false =>
    have HRES : Hid (SolveRes ps false (-1) []) := .bad (fun hv => by have := hok.2 hv; cases this)
    obtain ⟨r0, r1, r2, f0, f1, f2, hzl, hrbut⟩ := rbox3 (a' := .bool false) (b' := .int .i64 (-1)) (c' := .slice none 0 0) hrb1
    have hfin := hbw1.trans (hrbut.below (by omega) (fun q hq => by omega))
    clear hok hrb1
    go_wp2
    refine bodyPost_ret (v := .agg #[.bool false, .int .i64 (-1), .slice none 0 0]) (by simp [results, Tryz.results20, go_sem, r0, r1, r2]) rfl ?_
    exact ⟨false, -1, none, 0, 0, [], rfl, rfl, HRES.out, .inl rfl, by rw [hz]; exact hfin⟩
  | true =>
    have HV : Hid (Valid ps) := hok.1 rfl
    have hgv1 := (hbw1.cell (p := ⟨0, 0, none⟩) (by show 0 < z; omega)).trans HGV.out
    have hgt1 : ErrT w1 := HGT.out.below hbw1 (by omega)
    have HSO := Qgk ps m HM HV HWF 232 gp ao cap w1 hgv1 (HX.out.below (by rw [hz]; exact hbw1))
    have hzl1 : z < w1.heap.size := (Array.getElem?_eq_some_iff.1 hrb1).1
    clear hok hgv1
    go_wp2_with fail
    refine HSO.mono ?_
    rintro e w2 ⟨hres, hb2⟩
    have hbw2 : Below z w w2 := by rw [← hz] at hbw1 ⊢; exact Below.step hbw1 hb2
    have hz2 := hb2.size
    have hrb2 := (hb2.block z hzl1).trans hrb1
    have hgt2 : ErrT w2 := hgt1.below hb2 (by omega)
    clear HSO hbw1 hrb1 hgt1
    rcases hres with ⟨ub, r, v, rfl, hub, hcl, hsr⟩ | ⟨ub, r, rfl, hub, hcl, hsr⟩ | ⟨sb, mb, n, X, f, lk, d, K, U, D, σ, θ, rfl, hn, hXz, hS, s0, hO, hud, hUX, hwu, hF, hlen⟩
    · have HRES : Hid (SolveRes ps false (r : Int) []) := hsr
      have hB : Below w2.heap.size w2 (w2.alloc (.cells #[.pointer none] 91)) := (Below.refl _ w2).alloc (Nat.le_refl _) _
      have HAS := Jbv ⟨ub, 0, none⟩ w2.heap.size _ (hgt2.below hB (by omega)) (heap_alloc_new w2 (.cells #[.pointer none] 91))
      have hubl : ub < w2.heap.size := (Array.getElem?_eq_some_iff.1 hcl).1
      have HST : Hid (∀ w3, But (fun k => k = w2.heap.size) (w2.alloc (.cells #[.pointer none] 91)) w3 → Below z w w3 ∧ ErrT w3 ∧ w3.heap[z]? = some (.cells #[.bool false, .int .i64 0, .slice none 0 0] 46 (0, 0)) ∧ w3.heap[ub]? = some (.cells #[.int .i64 (r : Int), .iface 143 (.pointer (some v))] 96 (0, 0)) ∧ w2.heap.size < w3.heap.size) := by
        intro w3 hb3
        have hb23 : Below w2.heap.size w2 w3 := ⟨hb3.os.trans hB.os, hb3.tape.trans hB.tape, hb3.output.trans hB.output, Nat.le_trans hB.size hb3.size, fun k hk => (hb3.block k (by simp; omega) (by omega)).trans (hB.block k hk)⟩
        refine ⟨hbw2.trans (hb23.mono (by omega)), hgt2.below hb23 (by omega), (hb23.block z (by omega)).trans hrb2, (hb23.block ub hubl).trans hcl, ?_⟩
        have := hb3.size
        simp at this
        omega
      clear hsr hB
      go_wp2_with fail
      refine HAS.mono ?_
      rintro e w3 ⟨rfl, hft, hb3⟩
      obtain ⟨hbw3, hgt3, hrb3, hcl3, hl3⟩ := HST.out w3 hb3
      have HIC := Qfe ub v w3 hgt3 (by rw [cell_of_row _ _ _ _ 96 (0, 0) hcl3]; rfl)
      clear HAS HST hb3 hgt3 hgt2 hcl hrb2 hbw2
      go_wp2_with fail
      refine HIC.mono ?_
      rintro e w4 ⟨rfl, hb4⟩
      have hs3 := hbw3.size
      have hzl3 : z < w3.heap.size := (Array.getElem?_eq_some_iff.1 hrb3).1
      have hbw4 : Below z w w4 := hbw3.trans (hb4.mono (by omega))
      have hrb4 := (hb4.block z hzl3).trans hrb3
      have hft4 := (hb4.cell (p := ⟨w2.heap.size, 0, none⟩) hl3).trans hft
      have hcl4 := (hb4.block ub (by omega)).trans hcl3
      have hp4 : w4.cell? ⟨ub, 0, none⟩ = some (.int .i64 (r : Int)) := by rw [cell_of_row _ _ _ _ 96 (0, 0) hcl4]; rfl
      have hs4 := hb4.size
      have hl4 : w2.heap.size < w4.heap.size := by omega
      have hul4 : ub < w4.heap.size := by omega
      obtain ⟨r0, r1, r2, f0, f1, f2, hzl, hrbut⟩ := rbox3 (a' := .bool false) (b' := .int .i64 (r : Int)) (c' := .slice none 0 0) hrb4
      have hfin := hbw4.trans (hrbut.below (by omega) (fun q hq => by omega))
      clear HIC hb4 hrb3 hcl3 hft hrb4 hcl4 hbw3
      go_wp2
      refine bodyPost_ret (v := .agg #[.bool false, .int .i64 (r : Int), .slice none 0 0]) (by simp [results, Tryz.results20, go_sem, r0, r1, r2]) rfl ?_
      exact ⟨false, (r : Int), none, 0, 0, [], rfl, rfl, HRES.out, .inl rfl, by rw [hz]; exact hfin⟩
    · have HRES : Hid (SolveRes ps false (-1) []) := hsr
      have hB : Below w2.heap.size w2 (w2.alloc (.cells #[.pointer none] 91)) := (Below.refl _ w2).alloc (Nat.le_refl _) _
      have HAS := Jbv ⟨ub, 0, none⟩ w2.heap.size _ (hgt2.below hB (by omega)) (heap_alloc_new w2 (.cells #[.pointer none] 91))
      have hubl : ub < w2.heap.size := (Array.getElem?_eq_some_iff.1 hcl).1
      have HST : Hid (∀ w3, But (fun k => k = w2.heap.size) (w2.alloc (.cells #[.pointer none] 91)) w3 → Below z w w3 ∧ ErrT w3 ∧ w3.heap[z]? = some (.cells #[.bool false, .int .i64 0, .slice none 0 0] 46 (0, 0)) ∧ w3.heap[ub]? = some (.cells #[.int .i64 (r : Int), .iface 232 gp] 96 (0, 0)) ∧ w2.heap.size < w3.heap.size) := by
        intro w3 hb3
        have hb23 : Below w2.heap.size w2 w3 := ⟨hb3.os.trans hB.os, hb3.tape.trans hB.tape, hb3.output.trans hB.output, Nat.le_trans hB.size hb3.size, fun k hk => (hb3.block k (by simp; omega) (by omega)).trans (hB.block k hk)⟩
        refine ⟨hbw2.trans (hb23.mono (by omega)), hgt2.below hb23 (by omega), (hb23.block z (by omega)).trans hrb2, (hb23.block ub hubl).trans hcl, ?_⟩
        have := hb3.size
        simp at this
        omega
      clear hsr hB
      go_wp2_with fail
      refine HAS.mono ?_
      rintro e w3 ⟨rfl, hft, hb3⟩
      obtain ⟨hbw3, hgt3, hrb3, hcl3, hl3⟩ := HST.out w3 hb3
      have HIC := Qfy ub gp w3 hgt3 (by rw [cell_of_row _ _ _ _ 96 (0, 0) hcl3]; rfl)
      clear HAS HST hb3 hgt3 hgt2 hcl hrb2 hbw2
      go_wp2_with fail
      refine HIC.mono ?_
      rintro e w4 ⟨rfl, hb4⟩
      have hs3 := hbw3.size
      have hzl3 : z < w3.heap.size := (Array.getElem?_eq_some_iff.1 hrb3).1
      have hbw4 : Below z w w4 := hbw3.trans (hb4.mono (by omega))
      have hrb4 := (hb4.block z hzl3).trans hrb3
      obtain ⟨r0, r1, r2, f0, f1, f2, hzl, hrbut⟩ := rbox3 (a' := .bool false) (b' := .int .i64 (-1)) (c' := .slice none 0 0) hrb4
      have hfin := hbw4.trans (hrbut.below (by omega) (fun q hq => by omega))
      clear HIC hb4 hrb3 hcl3 hft hrb4 hbw3
      go_wp2
      refine bodyPost_ret (v := .agg #[.bool false, .int .i64 (-1), .slice none 0 0]) (by simp [results, Tryz.results20, go_sem, r0, r1, r2]) rfl ?_
      exact ⟨false, -1, none, 0, 0, [], rfl, rfl, HRES.out, .inl rfl, by rw [hz]; exact hfin⟩
    · have hB : Below w2.heap.size w2 (w2.alloc (.cells #[.pointer none] 91)) := (Below.refl _ w2).alloc (Nat.le_refl _) _
      have HSB : Hid (∀ bs, Qcl (fun x => if (Lit.int .i64 x).wf = true then (U 1 x).map (fun _ => σ x) else none) bs → SolveRes ps true 0 bs) := fun bs h => Qey HV.out hF hwu hlen h
      have hSB : CSto (w2.alloc (.cells #[.pointer none] 91)) X f lk d K := hS.still (But.ofBelow hB)
      have HFO := Qem X f lk d K θ (w2.alloc (.cells #[.pointer none] 91)) sb mb n (by omega) U D hSB hF.sat ((hB.cell (p := ⟨sb, 0, none⟩) (lt_of_cell s0)).trans s0) (ownsMap_but hO (But.ofBelow (S := fun _ => False) hB) (fun h => h)) hud hUX σ (fun x b e => ⟨hF.read x b e, hlen x b e⟩)
      have hbwB : Below z w (w2.alloc (.cells #[.pointer none] 91)) := hbw2.trans (hB.mono (by omega))
      have hrbB := (hB.block z (by omega)).trans hrb2
      have hzB : z < (w2.alloc (.cells #[.pointer none] 91)).heap.size := (Array.getElem?_eq_some_iff.1 hrbB).1
      have HXW : Hid (∀ i, X i → w1.heap.size ≤ i) := hXz
      clear hgt2 hS s0 hO hud hUX hF hlen hSB hwu hrb2 hbw2 hB hXz
      go_wp2_with fail
      refine (Jcj _ _).mono ?_
      rintro e w3 ⟨rfl, rfl⟩
      go_wp2_with fail
      refine HFO.mono ?_
      rintro e w4 ⟨tb, k, hk, rfl, hRw, hB4⟩
      have hbw4 : Below z w w4 := below_but hbwB hB4 (by omega) (fun i hi => by have := HXW.out i hi; omega)
      have hrb4 := (hB4.block z hzB (fun hx => by have := HXW.out z hx; omega)).trans hrbB
      have hzB4 := hB4.size
      have HBO := Qci _ _ tb k (by omega) w4 hRw hB4.size
      have hz4 := hbw4.size
      have hzl4 : z < w4.heap.size := (Array.getElem?_eq_some_iff.1 hrb4).1
      clear HFO hRw hB4 hrbB
      go_wp2_with fail
      refine HBO.mono ?_
      rintro e w5 ⟨ag, cg, bs, rfl, hIB, hBA, hb5⟩
      have HRES : Hid (SolveRes ps true 0 bs) := HSB.out bs hIB
      have hbw5 : Below z w w5 := hbw4.trans (hb5.mono (by omega))
      have hrb5 := (hb5.block z hzl4).trans hrb4
      have hBA2 : BAns w5 (z + 1) ag bs := Qcj hBA (by omega)
      obtain ⟨r0, r1, r2, f0, f1, f2, hzl, hrbut⟩ := rbox3 (a' := .bool true) (b' := .int .i64 0) (c' := .slice ag bs.length cg) hrb5
      have hfin := hbw5.trans (hrbut.below (by omega) (fun q hq => by omega))
      have hans2 := Qcj (hBA2.but hrbut (fun q hq e => by omega)) (B' := z) (by omega)
      clear HBO hIB hBA hb5 hrb4 hrb5 hbw4 hBA2
      go_wp2
      refine bodyPost_ret (v := .agg #[.bool true, .int .i64 0, .slice ag bs.length cg]) (by simp [results, Tryz.results20, go_sem, r0, r1, r2]) rfl ?_
      exact ⟨true, 0, ag, bs.length, cg, bs, rfl, rfl, HRES.out, by rw [hz]; exact hans2, by rw [hz]; exact hfin⟩
end Go.Proofs.YtoiiibplkhedcaaGreatDoor
