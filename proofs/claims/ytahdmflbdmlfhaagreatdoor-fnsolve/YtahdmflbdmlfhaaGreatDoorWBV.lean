import Derived.Test.YtahdmflbdmlfhaaGreatDoorWAD
import Derived.Test.YtahdmflbdmlfhaaGreatDoorWAF
import Derived.StillTactics
import Derived.Test.YtahdmflbdmlfhaaGreatDoorWBU
import Derived.Test.YtahdmflbdmlfhaaGreatDoorWAA
import Derived.Test.YtahdmflbdmlfhaaGreatDoorWBS
import Derived.Test.YtahdmflbdmlfhaaGreatDoorWBR
import Derived.Test.YtahdmflbdmlfhaaGreatDoorWBK
import Derived.Test.YtahdmflbdmlfhaaGreatDoorWAN
import Derived.Test.YtahdmflbdmlfhaaGreatDoorWBT
import Derived.Test.YtahdmflbdmlfhaaGreatDoorWAH
import Derived.Test.YtahdmflbdmlfhaaGreatDoorWAL
namespace Go.Proofs.YtahdmflbdmlfhaaGreatDoor

open Go.RowKit

theorem neqS (x : Nd) (w : World) :
    (binOp .neq 40 (.agg #[.int .i64 x.kind, .int .i64 x.num, .string x.text, .int .i64 x.kids, .int .i64 x.place]) (.agg #[.int .i64 x.kind, .int .i64 x.num, .string x.text, .int .i64 x.kids, .int .i64 x.place])).run Tryz.prog w =
      .ok (.bool false) w := by
  go_simp
  repeat' split
  all_goals simp_all

theorem Tryz.mixed : Tryz.prog.follows .mixedOrders = true := by kernel_rfl

set_option maxRecDepth 20000 in
set_option maxHeartbeats 1000000 in
/-- Equal lists are exact. -/
theorem wExact_same (xs : List Nd) (n : Nat) (HX : Hid (xs.length = n)) (ao bo : Option Addr) (cap cbp : Nat) (w : World) (hx : Nodes w ao xs) (hy : Nodes w bo xs) (hlx : n ≤ 1048576) :
    Calls Tryz.prog 8 #[.slice ao n cap, .slice bo n cbp] w fun e w' => e = .returned (.bool true) ∧ Below w.heap.size w w' := by
  go_enter Tryz.func8, Tryz.ntmps8
  go_wp2
  go_loopw [5] (fun i wr => ∃ (k : Nat), k ≤ n ∧ i = .int .i64 k ∧ Below w.heap.size w wr) (fun i _ => n - (intOf i).toNat)
  case atStart => exact ⟨0, Nat.zero_le _, rfl, Below.refl _ _⟩
  case round =>
    obtain ⟨k, hk, rfl, hb⟩ := hrel
    by_cases hlt : k < n
    · have hltk : k < xs.length := by have := HX.out; omega
      obtain ⟨b, o, rfl, hn⟩ := hx.below hb k hltk
      obtain ⟨b', o', rfl, hn'⟩ := hy.below hb k hltk
      obtain ⟨x, hxk⟩ : ∃ x, xs[k] = x := ⟨_, rfl⟩
      rw [hxk] at hn hn'
      obtain ⟨c0, c1, c2, c3, c4⟩ := hn
      obtain ⟨d0, d1, d2, d3, d4⟩ := hn'
      clear hx hy hxk
      have hne := neqS x
      go_wp2
      go_still Tryz.mixed
      have hb2 : Below w.heap.size w wr.drew := hb.drew
      go_wp2
      go_roundw
      case rel => exact ⟨k + 1, by omega, by go_num, hb2⟩
      case measure => (simp [intOf]) <;> omega
    · clear hx hy
      go_wp2
      go_ret
      exact ⟨rfl, hb⟩

/-- What errors.As must find of the program's variables. -/
def ErrT (w : World) : Prop := w.cell? ⟨1, 0, none⟩ = some (.iface 158 (.agg #[.pointer (some ⟨2, 61, none⟩)]))

theorem ErrT.below {w w' : World} {z : Nat} (h : ErrT w) (hb : Below z w w') (hz : 1 < z) : ErrT w' := (hb.cell (p := ⟨1, 0, none⟩) hz).trans h

set_option maxRecDepth 20000 in
set_option maxHeartbeats 2000000 in
theorem isClash_yes (ub : Nat) (v : Addr) (w : World) (hg : ErrT w) (hu : w.cell? ⟨ub, 1, none⟩ = some (.iface 104 (.pointer (some v)))) :
    Calls Tryz.prog 22 #[.iface 64 (.pointer (some ⟨ub, 0, none⟩))] w fun e w' => e = .returned (.bool true) ∧ Below w.heap.size w w' := by
  have hb0 : Below w.heap.size w (w.alloc (.cells #[.pointer none] 104)) := (Below.refl _ w).alloc (Nat.le_refl _) _
  have hlt : 1 < w.heap.size := lt_of_cell hg
  have HC := as_cl ub v ⟨w.heap.size, 0, none⟩ (.pointer none) (w.alloc (.cells #[.pointer none] 104)) (hg.below hb0 hlt) ((hb0.cell (p := ⟨ub, 1, none⟩) (lt_of_cell hu)).trans hu) (by simp) (by simp)
  clear hu
  go_enter Tryz.func22, Tryz.ntmps22
  go_wp2_with fail
  refine HC.mono ?_
  rintro e w' ⟨rfl, hw'⟩
  have hb' : Below w.heap.size w w' := by
    rw [hw']
    exact ((((hb0.alloc (by simp) _).alloc (by simp; omega) _).alloc (by simp; omega) _).alloc (by simp; omega) _).setCell (p := ⟨w.heap.size, 0, none⟩) (Nat.le_refl _) _
  clear HC hw'
  go_wp2
  go_ret
  exact ⟨rfl, hb'⟩

set_option maxRecDepth 20000 in
set_option maxHeartbeats 2000000 in
theorem isClash_no (ub : Nat) (gp : Value) (w : World) (hg : ErrT w) (hu : w.cell? ⟨ub, 1, none⟩ = some (.iface 219 gp)) :
    Calls Tryz.prog 22 #[.iface 64 (.pointer (some ⟨ub, 0, none⟩))] w fun e w' => e = .returned (.bool false) ∧ Below w.heap.size w w' := by
  have hb0 : Below w.heap.size w (w.alloc (.cells #[.pointer none] 104)) := (Below.refl _ w).alloc (Nat.le_refl _) _
  have hlt : 1 < w.heap.size := lt_of_cell hg
  have HC := as_la ub ⟨w.heap.size, 0, none⟩ gp (w.alloc (.cells #[.pointer none] 104)) (hg.below hb0 hlt) ((hb0.cell (p := ⟨ub, 1, none⟩) (lt_of_cell hu)).trans hu)
  clear hu
  go_enter Tryz.func22, Tryz.ntmps22
  go_wp2_with fail
  refine HC.mono ?_
  rintro e w' ⟨rfl, hw'⟩
  have hb' : Below w.heap.size w w' := by
    rw [hw']
    exact ((hb0.alloc (by simp) _).alloc (by simp; omega) _).alloc (by simp; omega) _
  clear HC hw'
  go_wp2
  go_ret
  exact ⟨rfl, hb'⟩

set_option maxRecDepth 20000 in
set_option maxHeartbeats 2000000 in
/-- errors.As of an upTo at **upTo, by what it leaves. -/
theorem as_upB (e : Addr) (tb : Nat) (w : World) (hg : ErrT w) (ht0 : w.heap[tb]? = some (.cells #[.pointer none] 64 (0, 0))) :
    Calls Tryz.prog 21 #[.iface 64 (.pointer (some e)), .iface 66 (.pointer (some ⟨tb, 0, none⟩))] w fun ev w' => ev = .returned (.bool true) ∧ w'.cell? ⟨tb, 0, none⟩ = some (.pointer (some e)) ∧ But (fun k => k = tb) w w' := by
  have hl : tb < w.heap.size := (Array.getElem?_eq_some_iff.1 ht0).1
  refine (as_up e ⟨tb, 0, none⟩ (.pointer none) w hg (by rw [cell_of_row _ _ _ _ 64 (0, 0) ht0]; rfl) (frozen_of_row w tb 0 _ 64 ht0)).mono ?_
  rintro ev w' ⟨rfl, rfl⟩
  have hb0 := ((((Below.refl _ w).alloc (Nat.le_refl _) (.cells #[.pointer (some ⟨tb, 0, none⟩)] 66)).alloc (by simp) (.cells #[.pointer (some ⟨2, 66, none⟩), .pointer (some ⟨w.heap.size, 0, none⟩), .int .u64 150] 113)).alloc (by simp; omega) (.cells #[.pointer (some ⟨2, 66, none⟩), .pointer (some ⟨w.heap.size, 0, none⟩), .int .u64 150] 113)).alloc (by simp; omega) (.cells #[.pointer (some e)] 64)
  have h4 := (hb0.block tb hl).trans ht0
  refine ⟨rfl, ?_, ?_⟩
  · have h5 := heap_setCell_same _ tb 0 _ 64 (.pointer (some e)) h4
    rw [cell_of_row _ _ _ _ 64 (0, 0) h5]
    rfl
  · exact (But.ofBelow (S := fun k => k = tb) hb0).setCell (p := ⟨tb, 0, none⟩) rfl _

end Go.Proofs.YtahdmflbdmlfhaaGreatDoor

namespace Go.Proofs.YtahdmflbdmlfhaaGreatDoor

open Go.RowKit Go.Maps

theorem bans_mono {w : World} {B B' : Nat} {ao : Option Addr} {bs : List (Int × List Nd)} (h : BAns w B ao bs) (hB : B' ≤ B) : BAns w B' ao bs := by
  rcases h with h | ⟨g, rs, e, h1, h2, hr⟩
  · exact Or.inl h
  · exact Or.inr ⟨g, rs, e, Nat.le_trans hB h1, fun r hm => Nat.le_trans hB (h2 r hm), hr⟩

/-! impl.Solve. -/

theorem solve_binds {ps : List (List Nd × List Nd)} {X : Nat → Prop} {f : Nat → CC} {lk : Nat → Option Nat} {K : (Option Addr × Nat × Nat) → List Nat} {U : Int → Int → Option Nat} {σ : Int → List Nd} {θ : Nat → DT} (hv : Valid ps) (hF : SolF ps X f lk K U σ θ) (hwf : ∀ x b, U 1 x = some b → (Lit.int .i64 x).wf = true) (hlen : ∀ x b, U 1 x = some b → (σ x).length ≤ 300) {bs : List (Int × List Nd)}
    (h : IsBinds (fun x => if (Lit.int .i64 x).wf = true then (U 1 x).map (fun _ => σ x) else none) bs) : SolveRes ps true 0 bs := by
  obtain ⟨h1, h2, h3⟩ := h
  have hB : ∀ p ∈ bs, (∃ b, U 1 p.1 = some b) ∧ p.2 = σ p.1 := by
    intro p hp
    have h9 := h2 p hp
    simp only at h9
    by_cases hw : (Lit.int .i64 p.1).wf = true
    · rw [if_pos hw] at h9
      cases hu : U 1 p.1 with
      | none => rw [hu] at h9; cases h9
      | some b =>
        rw [hu] at h9
        simp only [Option.map_some, Option.some.injEq] at h9
        exact ⟨⟨b, rfl⟩, h9.symm⟩
    · rw [if_neg hw] at h9
      cases h9
  refine .ok σ bs hv hF.ok h1 (fun x => ⟨fun hx => ?_, fun hx => ?_⟩) (fun p hp => ⟨(hB p hp).2, ?_⟩)
  · obtain ⟨p, hp, rfl⟩ := List.mem_map.1 hx
    exact (hF.occ p.1).1 (hB p hp).1
  · obtain ⟨b, hb⟩ := (hF.occ x).2 hx
    exact h3 x (by simp only; rw [if_pos (hwf x b hb), hb]; rfl)
  · obtain ⟨⟨b, hb⟩, e⟩ := hB p hp
    rw [e]
    exact hlen _ b hb

set_option maxRecDepth 20000 in
set_option maxHeartbeats 8000000 in
theorem implSolve_any (ps : List (List Nd × List Nd)) (m : Nat) (HM : Hid (ps.length = m)) (hm : m ≤ 1048576) (HPL : Hid (∀ p ∈ ps, p.1.length ≤ 1048576 ∧ p.2.length ≤ 1048576)) (HWF : Hid (∀ p ∈ ps, (∀ x ∈ p.1, (Lit.int .i64 x.num).wf = true) ∧ ∀ x ∈ p.2, (Lit.int .i64 x.num).wf = true)) (gp : Value) (ao : Option Addr) (cap : Nat) (w : World) (hgv : w.cell? ⟨0, 0, none⟩ = some (.iface 219 gp)) (hgt : ErrT w) (hx : Pairs w ao ps) :
    Calls Tryz.prog 6 #[.slice ao m cap] w fun e w' => ∃ (ok : Bool) (at' : Int) (bo : Option Addr) (l c : Nat) (bs : List (Int × List Nd)), e = .returned (.agg #[.bool ok, .int .i64 at', .slice bo l c]) ∧ bs.length = l ∧ SolveRes ps ok at' bs ∧ BAns w' w.heap.size bo bs ∧ Below w.heap.size w w' := by
  obtain ⟨z, hz⟩ : ∃ z, w.heap.size = z := ⟨_, rfl⟩
  have hz1 : 1 < w.heap.size := lt_of_cell hgt
  have HX : Hid (Pairs w ao ps) := hx
  have HGT : Hid (ErrT w) := hgt
  have HGV : Hid (w.cell? ⟨0, 0, none⟩ = some (.iface 219 gp)) := hgv
  clear hx hgt hgv
  go_enter Tryz.func6, Tryz.ntmps6
  go_wp2_with fail
  have hA : Below w.heap.size w (w.alloc (.cells #[.bool false, .int .i64 0, .slice none 0 0] 27)) := (Below.refl _ w).alloc (Nat.le_refl _) _
  have hzb : (w.alloc (.cells #[.bool false, .int .i64 0, .slice none 0 0] 27)).heap[z]? = some (.cells #[.bool false, .int .i64 0, .slice none 0 0] 27 (0, 0)) := by rw [← hz]; exact heap_alloc_new _ _
  have hzl0 : z < (w.alloc (.cells #[.bool false, .int .i64 0, .slice none 0 0] 27)).heap.size := (Array.getElem?_eq_some_iff.1 hzb).1
  refine (areTypes_any ps m HM hm HPL ao cap _ (HX.out.below hA)).mono ?_
  rintro e w1 ⟨⟨ok, rfl, hok⟩, hb1⟩
  have hrb1 := (hb1.block z hzl0).trans hzb
  have hbw1 : Below z w w1 := by rw [← hz]; exact Below.step hA hb1
  have hz1' := hbw1.size
  clear hA hzb hb1 hzl0
  cases ok with
  | false =>
    have HRES : Hid (SolveRes ps false (-1) []) := .bad (fun hv => by have := hok.2 hv; cases this)
    obtain ⟨r0, r1, r2, f0, f1, f2, hzl, hrbut⟩ := rbox3 (a' := .bool false) (b' := .int .i64 (-1)) (c' := .slice none 0 0) hrb1
    have hfin := hbw1.trans (hrbut.below (by omega) (fun q hq => by omega))
    clear hok hrb1
    go_wp2
    refine bodyPost_ret (v := .agg #[.bool false, .int .i64 (-1), .slice none 0 0]) (by simp [results, Tryz.results6, go_sem, r0, r1, r2]) rfl ?_
    exact ⟨false, -1, none, 0, 0, [], rfl, rfl, HRES.out, .inl rfl, by rw [hz]; exact hfin⟩
  | true =>
    have HV : Hid (Valid ps) := hok.1 rfl
    have hgv1 := (hbw1.cell (p := ⟨0, 0, none⟩) (by show 0 < z; omega)).trans HGV.out
    have hgt1 : ErrT w1 := HGT.out.below hbw1 (by omega)
    have HSO := solve_any ps m HM HV HWF 219 gp ao cap w1 hgv1 (HX.out.below (by rw [hz]; exact hbw1))
    have hzl1 : z < w1.heap.size := (Array.getElem?_eq_some_iff.1 hrb1).1
    clear hok hgv1
    go_wp2_with fail
    refine HSO.mono ?_
    rintro e w2 ⟨hres, hb2⟩
    have hbw2 : Below z w w2 := by rw [← hz] at hbw1 ⊢; exact Below.step hbw1 hb2
    have hz2 := hb2.size
    have hrb2 := (hb2.block z hzl1).trans hrb1
    have hgt2 : ErrT w2 := hgt1.below hb2 (by omega)
    clear HSO hbw1 hrb1 hgt1
    rcases hres with ⟨ub, r, v, rfl, hub, hcl, hsr⟩ | ⟨ub, r, rfl, hub, hcl, hsr⟩ | ⟨sb, mb, n, X, f, lk, d, K, U, D, σ, θ, rfl, hn, hXz, hS, s0, hO, hud, hUX, hwu, hF, hlen⟩
    · have HRES : Hid (SolveRes ps false (r : Int) []) := hsr
      have hB : Below w2.heap.size w2 (w2.alloc (.cells #[.pointer none] 64)) := (Below.refl _ w2).alloc (Nat.le_refl _) _
      have HAS := as_upB ⟨ub, 0, none⟩ w2.heap.size _ (hgt2.below hB (by omega)) (heap_alloc_new w2 (.cells #[.pointer none] 64))
      have hubl : ub < w2.heap.size := (Array.getElem?_eq_some_iff.1 hcl).1
      have HST : Hid (∀ w3, But (fun k => k = w2.heap.size) (w2.alloc (.cells #[.pointer none] 64)) w3 → Below z w w3 ∧ ErrT w3 ∧ w3.heap[z]? = some (.cells #[.bool false, .int .i64 0, .slice none 0 0] 27 (0, 0)) ∧ w3.heap[ub]? = some (.cells #[.int .i64 (r : Int), .iface 104 (.pointer (some v))] 69 (0, 0)) ∧ w2.heap.size < w3.heap.size) := by
        intro w3 hb3
        have hb23 : Below w2.heap.size w2 w3 := ⟨hb3.os.trans hB.os, hb3.tape.trans hB.tape, hb3.output.trans hB.output, Nat.le_trans hB.size hb3.size, fun k hk => (hb3.block k (by simp; omega) (by omega)).trans (hB.block k hk)⟩
        refine ⟨hbw2.trans (hb23.mono (by omega)), hgt2.below hb23 (by omega), (hb23.block z (by omega)).trans hrb2, (hb23.block ub hubl).trans hcl, ?_⟩
        have := hb3.size
        simp at this
        omega
      clear hsr hB
      go_wp2_with fail
      refine HAS.mono ?_
      rintro e w3 ⟨rfl, hft, hb3⟩
      obtain ⟨hbw3, hgt3, hrb3, hcl3, hl3⟩ := HST.out w3 hb3
      have HIC := isClash_yes ub v w3 hgt3 (by rw [cell_of_row _ _ _ _ 69 (0, 0) hcl3]; rfl)
      clear HAS HST hb3 hgt3 hgt2 hcl hrb2 hbw2
      go_wp2_with fail
      refine HIC.mono ?_
      rintro e w4 ⟨rfl, hb4⟩
      have hs3 := hbw3.size
      have hzl3 : z < w3.heap.size := (Array.getElem?_eq_some_iff.1 hrb3).1
      have hbw4 : Below z w w4 := hbw3.trans (hb4.mono (by omega))
      have hrb4 := (hb4.block z hzl3).trans hrb3
      have hft4 := (hb4.cell (p := ⟨w2.heap.size, 0, none⟩) hl3).trans hft
      have hcl4 := (hb4.block ub (by omega)).trans hcl3
      have hp4 : w4.cell? ⟨ub, 0, none⟩ = some (.int .i64 (r : Int)) := by rw [cell_of_row _ _ _ _ 69 (0, 0) hcl4]; rfl
      have hs4 := hb4.size
      have hl4 : w2.heap.size < w4.heap.size := by omega
      have hul4 : ub < w4.heap.size := by omega
      obtain ⟨r0, r1, r2, f0, f1, f2, hzl, hrbut⟩ := rbox3 (a' := .bool false) (b' := .int .i64 (r : Int)) (c' := .slice none 0 0) hrb4
      have hfin := hbw4.trans (hrbut.below (by omega) (fun q hq => by omega))
      clear HIC hb4 hrb3 hcl3 hft hrb4 hcl4 hbw3
      go_wp2
      refine bodyPost_ret (v := .agg #[.bool false, .int .i64 (r : Int), .slice none 0 0]) (by simp [results, Tryz.results6, go_sem, r0, r1, r2]) rfl ?_
      exact ⟨false, (r : Int), none, 0, 0, [], rfl, rfl, HRES.out, .inl rfl, by rw [hz]; exact hfin⟩
    · have HRES : Hid (SolveRes ps false (-1) []) := hsr
      have hB : Below w2.heap.size w2 (w2.alloc (.cells #[.pointer none] 64)) := (Below.refl _ w2).alloc (Nat.le_refl _) _
      have HAS := as_upB ⟨ub, 0, none⟩ w2.heap.size _ (hgt2.below hB (by omega)) (heap_alloc_new w2 (.cells #[.pointer none] 64))
      have hubl : ub < w2.heap.size := (Array.getElem?_eq_some_iff.1 hcl).1
      have HST : Hid (∀ w3, But (fun k => k = w2.heap.size) (w2.alloc (.cells #[.pointer none] 64)) w3 → Below z w w3 ∧ ErrT w3 ∧ w3.heap[z]? = some (.cells #[.bool false, .int .i64 0, .slice none 0 0] 27 (0, 0)) ∧ w3.heap[ub]? = some (.cells #[.int .i64 (r : Int), .iface 219 gp] 69 (0, 0)) ∧ w2.heap.size < w3.heap.size) := by
        intro w3 hb3
        have hb23 : Below w2.heap.size w2 w3 := ⟨hb3.os.trans hB.os, hb3.tape.trans hB.tape, hb3.output.trans hB.output, Nat.le_trans hB.size hb3.size, fun k hk => (hb3.block k (by simp; omega) (by omega)).trans (hB.block k hk)⟩
        refine ⟨hbw2.trans (hb23.mono (by omega)), hgt2.below hb23 (by omega), (hb23.block z (by omega)).trans hrb2, (hb23.block ub hubl).trans hcl, ?_⟩
        have := hb3.size
        simp at this
        omega
      clear hsr hB
      go_wp2_with fail
      refine HAS.mono ?_
      rintro e w3 ⟨rfl, hft, hb3⟩
      obtain ⟨hbw3, hgt3, hrb3, hcl3, hl3⟩ := HST.out w3 hb3
      have HIC := isClash_no ub gp w3 hgt3 (by rw [cell_of_row _ _ _ _ 69 (0, 0) hcl3]; rfl)
      clear HAS HST hb3 hgt3 hgt2 hcl hrb2 hbw2
      go_wp2_with fail
      refine HIC.mono ?_
      rintro e w4 ⟨rfl, hb4⟩
      have hs3 := hbw3.size
      have hzl3 : z < w3.heap.size := (Array.getElem?_eq_some_iff.1 hrb3).1
      have hbw4 : Below z w w4 := hbw3.trans (hb4.mono (by omega))
      have hrb4 := (hb4.block z hzl3).trans hrb3
      obtain ⟨r0, r1, r2, f0, f1, f2, hzl, hrbut⟩ := rbox3 (a' := .bool false) (b' := .int .i64 (-1)) (c' := .slice none 0 0) hrb4
      have hfin := hbw4.trans (hrbut.below (by omega) (fun q hq => by omega))
      clear HIC hb4 hrb3 hcl3 hft hrb4 hbw3
      go_wp2
      refine bodyPost_ret (v := .agg #[.bool false, .int .i64 (-1), .slice none 0 0]) (by simp [results, Tryz.results6, go_sem, r0, r1, r2]) rfl ?_
      exact ⟨false, -1, none, 0, 0, [], rfl, rfl, HRES.out, .inl rfl, by rw [hz]; exact hfin⟩
    · have hB : Below w2.heap.size w2 (w2.alloc (.cells #[.pointer none] 64)) := (Below.refl _ w2).alloc (Nat.le_refl _) _
      have HSB : Hid (∀ bs, IsBinds (fun x => if (Lit.int .i64 x).wf = true then (U 1 x).map (fun _ => σ x) else none) bs → SolveRes ps true 0 bs) := fun bs h => solve_binds HV.out hF hwu hlen h
      have hSB : CSto (w2.alloc (.cells #[.pointer none] 64)) X f lk d K := hS.still (But.ofBelow hB)
      have HFO := found_any X f lk d K θ (w2.alloc (.cells #[.pointer none] 64)) sb mb n (by omega) U D hSB hF.sat ((hB.cell (p := ⟨sb, 0, none⟩) (lt_of_cell s0)).trans s0) (ownsMap_but hO (But.ofBelow (S := fun _ => False) hB) (fun h => h)) hud hUX σ (fun x b e => ⟨hF.read x b e, hlen x b e⟩)
      have hbwB : Below z w (w2.alloc (.cells #[.pointer none] 64)) := hbw2.trans (hB.mono (by omega))
      have hrbB := (hB.block z (by omega)).trans hrb2
      have hzB : z < (w2.alloc (.cells #[.pointer none] 64)).heap.size := (Array.getElem?_eq_some_iff.1 hrbB).1
      have HXW : Hid (∀ i, X i → w1.heap.size ≤ i) := hXz
      clear hgt2 hS s0 hO hud hUX hF hlen hSB hwu hrb2 hbw2 hB hXz
      go_wp2_with fail
      refine (as_nil _ _).mono ?_
      rintro e w3 ⟨rfl, rfl⟩
      go_wp2_with fail
      refine HFO.mono ?_
      rintro e w4 ⟨tb, k, hk, rfl, hRw, hB4⟩
      have hbw4 : Below z w w4 := below_but hbwB hB4 (by omega) (fun i hi => by have := HXW.out i hi; omega)
      have hrb4 := (hB4.block z hzB (fun hx => by have := HXW.out z hx; omega)).trans hrbB
      have hzB4 := hB4.size
      have HBO := bindsOf_any _ _ tb k (by omega) w4 hRw hB4.size
      have hz4 := hbw4.size
      have hzl4 : z < w4.heap.size := (Array.getElem?_eq_some_iff.1 hrb4).1
      clear HFO hRw hB4 hrbB
      go_wp2_with fail
      refine HBO.mono ?_
      rintro e w5 ⟨ag, cg, bs, rfl, hIB, hBA, hb5⟩
      have HRES : Hid (SolveRes ps true 0 bs) := HSB.out bs hIB
      have hbw5 : Below z w w5 := hbw4.trans (hb5.mono (by omega))
      have hrb5 := (hb5.block z hzl4).trans hrb4
      have hBA2 : BAns w5 (z + 1) ag bs := bans_mono hBA (by omega)
      obtain ⟨r0, r1, r2, f0, f1, f2, hzl, hrbut⟩ := rbox3 (a' := .bool true) (b' := .int .i64 0) (c' := .slice ag bs.length cg) hrb5
      have hfin := hbw5.trans (hrbut.below (by omega) (fun q hq => by omega))
      have hans2 := bans_mono (hBA2.but hrbut (fun q hq e => by omega)) (B' := z) (by omega)
      clear HBO hIB hBA hb5 hrb4 hrb5 hbw4 hBA2
      go_wp2
      refine bodyPost_ret (v := .agg #[.bool true, .int .i64 0, .slice ag bs.length cg]) (by simp [results, Tryz.results6, go_sem, r0, r1, r2]) rfl ?_
      exact ⟨true, 0, ag, bs.length, cg, bs, rfl, rfl, HRES.out, by rw [hz]; exact hans2, by rw [hz]; exact hfin⟩

end Go.Proofs.YtahdmflbdmlfhaaGreatDoor

namespace Go.Proofs.YtahdmflbdmlfhaaGreatDoor

open Go.RowKit

/-! Pairs as the laws hold them: sizes, copies, equality. -/

/-! Pairs that a law copies and marks. -/

/-- The Pairs that lead to the rows gs, two each. -/
def leadQ (gs : List (Nat × Nat)) (ps : List (List Nd × List Nd)) : List (Value × Value) := List.zipWith (fun h p => (.slice (some ⟨h.1, 0, none⟩) p.1.length p.1.length, .slice (some ⟨h.2, 0, none⟩) p.2.length p.2.length)) gs ps

/-- Block g is a row of Pairs of the call's own. -/
def OwnQ (w : World) (g : Nat) (qs : List (Value × Value)) : Prop := OwnT 32 w g (cells2 qs)

theorem OwnQ.ne {w : World} {g h : Nat} {qs : List (Value × Value)} {ds : List Value} (a : OwnQ w g qs) (b : Own w h ds) : h ≠ g := by
  rintro rfl
  obtain ⟨cur, _, hg, _⟩ := a
  obtain ⟨cur', _, hg', _⟩ := b
  rw [hg] at hg'
  simp at hg'

theorem OwnQ.at {w : World} {g : Nat} {qs : List (Value × Value)} (h : OwnQ w g qs) (i : Nat) (hi : i < qs.length) : w.cell? ⟨g, i * 2, none⟩ = some qs[i].1 ∧ w.cell? ⟨g, i * 2 + 1, none⟩ = some qs[i].2 := by
  have hl := cells2_length qs
  obtain ⟨h1, h2⟩ := cells2_get qs i hi
  exact ⟨(OwnT.at h _ (by omega)).trans h1, (OwnT.at h _ (by omega)).trans h2⟩

theorem OwnQ.put {w : World} {g : Nat} {qs : List (Value × Value)} (h : OwnQ w g qs) (j : Nat) (hj : j < qs.length) (a b : Value) : OwnQ ((w.setCell ⟨g, j * 2, none⟩ a).setCell ⟨g, j * 2 + 1, none⟩ b) g (qs.set j (a, b)) := by
  have hl := cells2_length qs
  have h9 := OwnT.set (OwnT.set h (j * 2) a (by omega)) (j * 2 + 1) b (by simp; omega)
  rw [cells2_set qs j (a, b)] at h9
  exact h9

/-- The rows of k Pairs, no two of them one. -/
structure RowsQ (w : World) (gs : List (Nat × Nat)) (ps : List (List Nd × List Nd)) (lo hi : Nat) : Prop where
  len : gs.length = ps.length
  rows : ∀ i (h : i < gs.length) (h' : i < ps.length), Row w gs[i].1 ps[i].1 ∧ Row w gs[i].2 ps[i].2
  inn : ∀ i (h : i < gs.length), (lo ≤ gs[i].1 ∧ gs[i].1 < hi) ∧ lo ≤ gs[i].2 ∧ gs[i].2 < hi
  two : ∀ i (h : i < gs.length), gs[i].1 ≠ gs[i].2
  apart : ∀ i j (h : i < gs.length) (h' : j < gs.length), i < j → gs[i].1 ≠ gs[j].1 ∧ gs[i].1 ≠ gs[j].2 ∧ gs[i].2 ≠ gs[j].1 ∧ gs[i].2 ≠ gs[j].2

theorem RowsQ.below {w w' : World} {gs : List (Nat × Nat)} {ps : List (List Nd × List Nd)} {lo hi : Nat} (h : RowsQ w gs ps lo hi) (hb : Below w.heap.size w w') : RowsQ w' gs ps lo hi :=
  ⟨h.len, fun i a b => ⟨(h.rows i a b).1.below hb, (h.rows i a b).2.below hb⟩, h.inn, h.two, h.apart⟩

theorem RowsQ.snoc {w : World} {gs : List (Nat × Nat)} {ps : List (List Nd × List Nd)} {lo hi hi' : Nat} {p : List Nd × List Nd} {g : Nat × Nat} (h : RowsQ w gs ps lo hi) (hlo : lo ≤ hi) (r1 : Row w g.1 p.1) (r2 : Row w g.2 p.2) (h1 : hi ≤ g.1 ∧ g.1 < hi') (h2 : hi ≤ g.2 ∧ g.2 < hi') (hne : g.1 ≠ g.2) : RowsQ w (gs ++ [g]) (ps ++ [p]) lo hi' := by
  have key : ∀ i (hi1 : i < (gs ++ [g]).length), (∃ h0 : i < gs.length, (gs ++ [g])[i] = gs[i]) ∨ (i = gs.length ∧ (gs ++ [g])[i] = g) := by
    intro i hi1
    by_cases h0 : i < gs.length
    · exact .inl ⟨h0, List.getElem_append_left h0⟩
    · have e : i = gs.length := by simp at hi1; omega
      subst e
      exact .inr ⟨rfl, by simp⟩
  refine ⟨by simp [h.len], fun i a b => ?_, fun i a => ?_, fun i a => ?_, fun i j a b hij => ?_⟩
  · rcases key i a with ⟨h0, e⟩ | ⟨h0, e⟩
    · have h0' : i < ps.length := by have := h.len; omega
      have e2 : (ps ++ [p])[i] = ps[i] := List.getElem_append_left h0'
      rw [e, e2]
      exact h.rows i h0 h0'
    · have e2 : (ps ++ [p])[i] = p := by
        have e3 : i = ps.length := by have := h.len; omega
        subst e3
        simp
      rw [e, e2]
      exact ⟨r1, r2⟩
  · rcases key i a with ⟨h0, e⟩ | ⟨h0, e⟩
    · rw [e]
      have := h.inn i h0
      omega
    · rw [e]
      omega
  · rcases key i a with ⟨h0, e⟩ | ⟨h0, e⟩
    · rw [e]
      exact h.two i h0
    · rw [e]
      exact hne
  · rcases key i a with ⟨h0, e⟩ | ⟨h0, e⟩
    · rcases key j b with ⟨h3, e3⟩ | ⟨h3, e3⟩
      · rw [e, e3]
        exact h.apart i j h0 h3 hij
      · rw [e, e3]
        have := h.inn i h0
        omega
    · rcases key j b with ⟨h3, e3⟩ | ⟨h3, e3⟩ <;> omega

/-- All of it. -/
structure TwoQ (w : World) (g : Nat) (gs : List (Nat × Nat)) (ps : List (List Nd × List Nd)) (lo hi : Nat) : Prop where
  lead : OwnQ w g (leadQ gs ps)
  rows : RowsQ w gs ps lo hi
  gin : lo ≤ g ∧ g < hi

theorem TwoQ.below {w w' : World} {g : Nat} {gs : List (Nat × Nat)} {ps : List (List Nd × List Nd)} {lo hi : Nat} (h : TwoQ w g gs ps lo hi) (hb : Below w.heap.size w w') : TwoQ w' g gs ps lo hi :=
  ⟨OwnT.below h.lead hb, h.rows.below hb, h.gin⟩

theorem TwoQ.get {w : World} {g : Nat} {gs : List (Nat × Nat)} {ps : List (List Nd × List Nd)} {lo hi : Nat} (h : TwoQ w g gs ps lo hi) (i : Nat) (hi' : i < ps.length) (hg : i < gs.length) :
    w.cell? ⟨g, i * 2, none⟩ = some (.slice (some ⟨gs[i].1, 0, none⟩) ps[i].1.length ps[i].1.length) ∧ w.cell? ⟨g, i * 2 + 1, none⟩ = some (.slice (some ⟨gs[i].2, 0, none⟩) ps[i].2.length ps[i].2.length) := by
  obtain ⟨h1, h2⟩ := h.lead.at i (by simp [leadQ]; omega)
  refine ⟨?_, ?_⟩
  · rw [h1]; simp [leadQ]
  · rw [h2]; simp [leadQ]

theorem TwoQ.pairs {w : World} {g : Nat} {gs : List (Nat × Nat)} {ps : List (List Nd × List Nd)} {lo hi : Nat} (h : TwoQ w g gs ps lo hi) : Pairs w (some ⟨g, 0, none⟩) ps := by
  intro i hi'
  have hg : i < gs.length := by have := h.rows.len; omega
  obtain ⟨h1, h2⟩ := h.get i hi' hg
  obtain ⟨r1, r2⟩ := h.rows.rows i hg hi'
  exact ⟨g, 0, _, _, _, _, rfl, by rw [Nat.zero_add]; exact h1, by rw [Nat.zero_add]; exact h2, r1.nodes, r2.nodes⟩



theorem solve_len {ps : List (List Nd × List Nd)} {ok : Bool} {at' : Int} {bs : List (Int × List Nd)} (h : SolveRes ps ok at' bs) : bs.length ≤ 20000 ∧ ∀ b ∈ bs, b.2.length ≤ 300 := by
  cases h using SolveRes.inv with
  | bad _ => exact ⟨by simp, by simp⟩
  | no _ _ _ _ _ => exact ⟨by simp, by simp⟩
  | large _ _ _ _ _ _ => exact ⟨by simp, by simp⟩
  | ok σ _ hv _ hup hocc hlen =>
    refine ⟨?_, fun b hb => (hlen b hb).2⟩
    have h1 : (nums bs).length ≤ (ps.flatMap fun p => metas p.1 ++ metas p.2).length := by
      refine nodup_len (hup.imp (fun {a b} hab e => by omega)) (fun x hx => ?_)
      obtain ⟨p, hp, h⟩ := (hocc x).1 hx
      refine List.mem_flatMap.2 ⟨p, hp, ?_⟩
      exact List.mem_append.2 h
    have h2 : ∀ qs : List (List Nd × List Nd), (qs.flatMap fun p => metas p.1 ++ metas p.2).length ≤ (qs.map fun p => p.1.length + p.2.length).sum := by
      intro qs
      induction qs with
      | nil => simp
      | cons q qs ih =>
        have h3 := metas_len q.1
        have h4 := metas_len q.2
        simp only [List.flatMap_cons, List.length_append, List.map_cons, List.sum_cons]
        omega
    have h3 := h2 ps
    have h4 := hv.1
    have h5 : (nums bs).length = bs.length := by simp [nums]
    omega

end Go.Proofs.YtahdmflbdmlfhaaGreatDoor
