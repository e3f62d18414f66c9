import Derived.Test.YtemancdlnakkmaaGreatLNew
import Derived.Deep.RegionWith
namespace Go.Proofs.YtemancdlnakkmaaGreat
open Go.RowKit
def MachRes (w : World) (k nm : Int) (tx : ByteArray) (st : Int) (e : Ending) (w' : World) : Prop :=
  ∃ g c, e = .returned (.tuple #[.agg (mach (some ⟨g, 0, none⟩, 1, c) st 0), .int .i64 0]) ∧ 1 ≤ c ∧ w'.cell? ⟨g, 0, none⟩ = some (.int .i64 k) ∧ w'.cell? ⟨g, 1, none⟩ = some (.int .i64 nm) ∧ V2 w' g tx ∧ w.heap.size ≤ g ∧ Below w.heap.size w w'
theorem mach_fin {w w3 : World} {b g c : Nat} {k nm : Int} {tx : ByteArray} {x0 x1 x2 x3 x4 x5 x6 x7 : Value} (st : Int) (hr : w3.heap[b]? = some (.cells #[x0, x1, x2, x3, x4, x5, x6, x7] 119 (0, 0))) (hb : Below w.heap.size w w3) (hwb : w.heap.size ≤ b) (hgb : g ≠ b) (c0 : w3.cell? ⟨g, 0, none⟩ = some (.int .i64 k)) (c1 : w3.cell? ⟨g, 1, none⟩ = some (.int .i64 nm)) (c2 : V2 w3 g tx) :
    ((((((((w3.setCell ⟨b, 0, none⟩ (.slice none 0 0)).setCell ⟨b, 1, none⟩ (.slice none 0 0)).setCell ⟨b, 2, none⟩ (.slice (some ⟨g, 0, none⟩) 1 c)).setCell ⟨b, 3, none⟩ (.slice none 0 0)).setCell ⟨b, 4, none⟩ (.int .i64 0)).setCell ⟨b, 5, none⟩ (.int .i64 st)).setCell ⟨b, 6, none⟩ (.int .i64 0)).setCell ⟨b, 7, none⟩ (.string ⟨#[]⟩)).heap[b]? = some (.cells (mach (some ⟨g, 0, none⟩, 1, c) st 0) 119 (0, 0)) ∧ ((((((((w3.setCell ⟨b, 0, none⟩ (.slice none 0 0)).setCell ⟨b, 1, none⟩ (.slice none 0 0)).setCell ⟨b, 2, none⟩ (.slice (some ⟨g, 0, none⟩) 1 c)).setCell ⟨b, 3, none⟩ (.slice none 0 0)).setCell ⟨b, 4, none⟩ (.int .i64 0)).setCell ⟨b, 5, none⟩ (.int .i64 st)).setCell ⟨b, 6, none⟩ (.int .i64 0)).setCell ⟨b, 7, none⟩ (.string ⟨#[]⟩)).cell? ⟨g, 0, none⟩ = some (.int .i64 k) ∧ ((((((((w3.setCell ⟨b, 0, none⟩ (.slice none 0 0)).setCell ⟨b, 1, none⟩ (.slice none 0 0)).setCell ⟨b, 2, none⟩ (.slice (some ⟨g, 0, none⟩) 1 c)).setCell ⟨b, 3, none⟩ (.slice none 0 0)).setCell ⟨b, 4, none⟩ (.int .i64 0)).setCell ⟨b, 5, none⟩ (.int .i64 st)).setCell ⟨b, 6, none⟩ (.int .i64 0)).setCell ⟨b, 7, none⟩ (.string ⟨#[]⟩)).cell? ⟨g, 1, none⟩ = some (.int .i64 nm) ∧ V2 ((((((((w3.setCell ⟨b, 0, none⟩ (.slice none 0 0)).setCell ⟨b, 1, none⟩ (.slice none 0 0)).setCell ⟨b, 2, none⟩ (.slice (some ⟨g, 0, none⟩) 1 c)).setCell ⟨b, 3, none⟩ (.slice none 0 0)).setCell ⟨b, 4, none⟩ (.int .i64 0)).setCell ⟨b, 5, none⟩ (.int .i64 st)).setCell ⟨b, 6, none⟩ (.int .i64 0)).setCell ⟨b, 7, none⟩ (.string ⟨#[]⟩)) g tx ∧ Below w.heap.size w ((((((((w3.setCell ⟨b, 0, none⟩ (.slice none 0 0)).setCell ⟨b, 1, none⟩ (.slice none 0 0)).setCell ⟨b, 2, none⟩ (.slice (some ⟨g, 0, none⟩) 1 c)).setCell ⟨b, 3, none⟩ (.slice none 0 0)).setCell ⟨b, 4, none⟩ (.int .i64 0)).setCell ⟨b, 5, none⟩ (.int .i64 st)).setCell ⟨b, 6, none⟩ (.int .i64 0)).setCell ⟨b, 7, none⟩ (.string ⟨#[]⟩)) := by
  have hfin := set8 hr (.slice none 0 0) (.slice none 0 0) (.slice (some ⟨g, 0, none⟩) 1 c) (.slice none 0 0) (.int .i64 0) (.int .i64 st) (.int .i64 0) (.string ⟨#[]⟩)
  have hbut : But (· = b) w3 ((((((((w3.setCell ⟨b, 0, none⟩ (.slice none 0 0)).setCell ⟨b, 1, none⟩ (.slice none 0 0)).setCell ⟨b, 2, none⟩ (.slice (some ⟨g, 0, none⟩) 1 c)).setCell ⟨b, 3, none⟩ (.slice none 0 0)).setCell ⟨b, 4, none⟩ (.int .i64 0)).setCell ⟨b, 5, none⟩ (.int .i64 st)).setCell ⟨b, 6, none⟩ (.int .i64 0)).setCell ⟨b, 7, none⟩ (.string ⟨#[]⟩)) := set8_but (.slice none 0 0) (.slice none 0 0) (.slice (some ⟨g, 0, none⟩) 1 c) (.slice none 0 0) (.int .i64 0) (.int .i64 st) (.int .i64 0) (.string ⟨#[]⟩)
  generalize ((((((((w3.setCell ⟨b, 0, none⟩ (.slice none 0 0)).setCell ⟨b, 1, none⟩ (.slice none 0 0)).setCell ⟨b, 2, none⟩ (.slice (some ⟨g, 0, none⟩) 1 c)).setCell ⟨b, 3, none⟩ (.slice none 0 0)).setCell ⟨b, 4, none⟩ (.int .i64 0)).setCell ⟨b, 5, none⟩ (.int .i64 st)).setCell ⟨b, 6, none⟩ (.int .i64 0)).setCell ⟨b, 7, none⟩ (.string ⟨#[]⟩)) = WF at hfin hbut ⊢
  have hlg : g < w3.heap.size := lt_of_cell c0
  have hblk := hbut.block g hlg hgb
  have hc : ∀ j, WF.cell? ⟨g, j, none⟩ = w3.cell? ⟨g, j, none⟩ := fun j => by simp only [World.cell?, hblk]
  exact ⟨hfin, (hc 0).trans c0, (hc 1).trans c1, c2.keep hc, hb.trans (hbut.below hb.size (fun k hk => by omega))⟩
theorem zero8 {w3 : World} {b : Nat} (r : w3.heap[b]? = some (.cells #[.slice none 0 0, .slice none 0 0, .slice none 0 0, .slice none 0 0, .int .i64 0, .int .i64 0, .int .i64 0, .string ⟨#[]⟩] 119 (0, 0))) : (∀ j, w3.frozen? ⟨b, j, none⟩ = false) ∧ w3.cell? ⟨b, 0, none⟩ = some (.slice none 0 0) ∧ w3.cell? ⟨b, 1, none⟩ = some (.slice none 0 0) ∧ w3.cell? ⟨b, 2, none⟩ = some (.slice none 0 0) ∧ w3.cell? ⟨b, 3, none⟩ = some (.slice none 0 0) ∧ w3.cell? ⟨b, 4, none⟩ = some (.int .i64 0) ∧ w3.cell? ⟨b, 5, none⟩ = some (.int .i64 0) ∧ w3.cell? ⟨b, 6, none⟩ = some (.int .i64 0) ∧ w3.cell? ⟨b, 7, none⟩ = some (.string ⟨#[]⟩) := by
  refine ⟨fun j => frozen_of_row _ _ _ _ _ r, ?_, ?_, ?_, ?_, ?_, ?_, ?_, ?_⟩ <;> (rw [cell_of_row _ _ _ _ _ _ r]; rfl)
set_option maxRecDepth 20000 in
set_option maxHeartbeats 4000000 in
theorem number_any (n : Int) (w : World) :
    Calls Tryz.prog 107 #[.agg (mach (none, 0, 0) 0 0), .int .i64 n] w fun e w' => MachRes w 1 n ⟨#[]⟩ 0 e w' := by
  have b1 := (Below.refl w.heap.size w).alloc (Nat.le_refl _) (.cells #[.slice none 0 0, .slice none 0 0, .slice none 0 0, .slice none 0 0, .int .i64 0, .int .i64 0, .int .i64 0, .string ⟨#[]⟩] 119)
  have b2 := b1.alloc b1.size (.cells #[.slice none 0 0, .slice none 0 0, .slice none 0 0, .slice none 0 0, .int .i64 0, .int .i64 0, .int .i64 0, .string ⟨#[]⟩] 119)
  have r1 : ((w.alloc (.cells #[.slice none 0 0, .slice none 0 0, .slice none 0 0, .slice none 0 0, .int .i64 0, .int .i64 0, .int .i64 0, .string ⟨#[]⟩] 119)).alloc (.cells #[.slice none 0 0, .slice none 0 0, .slice none 0 0, .slice none 0 0, .int .i64 0, .int .i64 0, .int .i64 0, .string ⟨#[]⟩] 119)).heap[w.heap.size + 1]? = some (.cells #[.slice none 0 0, .slice none 0 0, .slice none 0 0, .slice none 0 0, .int .i64 0, .int .i64 0, .int .i64 0, .string ⟨#[]⟩] 119 (0, 0)) := by
    have h9 := heap_alloc_new (w.alloc (.cells #[.slice none 0 0, .slice none 0 0, .slice none 0 0, .slice none 0 0, .int .i64 0, .int .i64 0, .int .i64 0, .string ⟨#[]⟩] 119)) (.cells #[.slice none 0 0, .slice none 0 0, .slice none 0 0, .slice none 0 0, .int .i64 0, .int .i64 0, .int .i64 0, .string ⟨#[]⟩] 119)
    rw [World.size_alloc] at h9
    exact h9
  have HR1 : Hid _ := r1
  have hN := new_any 1 n ⟨#[]⟩ ((w.alloc (.cells #[.slice none 0 0, .slice none 0 0, .slice none 0 0, .slice none 0 0, .int .i64 0, .int .i64 0, .int .i64 0, .string ⟨#[]⟩] 119)).alloc (.cells #[.slice none 0 0, .slice none 0 0, .slice none 0 0, .slice none 0 0, .int .i64 0, .int .i64 0, .int .i64 0, .string ⟨#[]⟩] 119))
  have hsz : ((w.alloc (.cells #[.slice none 0 0, .slice none 0 0, .slice none 0 0, .slice none 0 0, .int .i64 0, .int .i64 0, .int .i64 0, .string ⟨#[]⟩] 119)).alloc (.cells #[.slice none 0 0, .slice none 0 0, .slice none 0 0, .slice none 0 0, .int .i64 0, .int .i64 0, .int .i64 0, .string ⟨#[]⟩] 119)).heap.size = w.heap.size + 1 + 1 := by simp
  have HSZ : Hid _ := hsz
  unfold mach at hN ⊢
  simp only at hN ⊢
  clear r1 hsz b1
  go_enter Tryz.func107, Tryz.ntmps107
  go_wp2_with fail
  refine hN.mono ?_
  rintro e w3 ⟨g, c, rfl, hc, c0, c1, c2, hg, hb3⟩
  have r3 := (hb3.block (w.heap.size + 1) (by rw [HSZ.out]; omega)).trans HR1.out
  have hbb := Below.step b2 hb3
  rw [HSZ.out] at hg
  obtain ⟨hf, hWF⟩ := mach_fin (c := c) 0 r3 hbb (by omega) (by omega) c0 c1 c2
  obtain ⟨f, d0, d1, d2, d3, d4, d5, d6, d7⟩ := zero8 r3
  have f0 := f 0
  have f1 := f 1
  have f2 := f 2
  have f3 := f 3
  have f4 := f 4
  have f5 := f 5
  have f6 := f 6
  have f7 := f 7
  have HF : Hid _ := hf
  have HW : Hid _ := hWF
  have l1 : w.heap.size + 1 < w3.heap.size := lt_of_cell d0
  clear hN hf hWF r3 hb3 hbb b2 c0 c1 c2 f
  go_wp2
  have h9 := HF.out
  refine bodyPost_ret (results_mach rfl _ (w.heap.size + 1) rfl _ (some ⟨g, 0, none⟩, 1, c) 0 0 h9 _ rfl) rfl ?_
  exact ⟨g, c, rfl, hc, HW.out.1, HW.out.2.1, HW.out.2.2.1, by omega, HW.out.2.2.2⟩
def boolT (b : Bool) : ByteArray := if b then ⟨#[116, 114, 117, 101]⟩ else ⟨#[102, 97, 108, 115, 101]⟩
set_option maxRecDepth 20000 in
set_option maxHeartbeats 4000000 in
theorem bool13_any (b : Bool) (w : World) :
    Calls Tryz.prog 108 #[.agg (mach (none, 0, 0) 0 0), .bool b] w fun e w' => MachRes w 4 0 (boolT b) 0 e w' := by
  have b1 := (Below.refl w.heap.size w).alloc (Nat.le_refl _) (.cells #[.slice none 0 0, .slice none 0 0, .slice none 0 0, .slice none 0 0, .int .i64 0, .int .i64 0, .int .i64 0, .string ⟨#[]⟩] 119)
  have b2 := b1.alloc b1.size (.cells #[.slice none 0 0, .slice none 0 0, .slice none 0 0, .slice none 0 0, .int .i64 0, .int .i64 0, .int .i64 0, .string ⟨#[]⟩] 119)
  have r1 : ((w.alloc (.cells #[.slice none 0 0, .slice none 0 0, .slice none 0 0, .slice none 0 0, .int .i64 0, .int .i64 0, .int .i64 0, .string ⟨#[]⟩] 119)).alloc (.cells #[.slice none 0 0, .slice none 0 0, .slice none 0 0, .slice none 0 0, .int .i64 0, .int .i64 0, .int .i64 0, .string ⟨#[]⟩] 119)).heap[w.heap.size + 1]? = some (.cells #[.slice none 0 0, .slice none 0 0, .slice none 0 0, .slice none 0 0, .int .i64 0, .int .i64 0, .int .i64 0, .string ⟨#[]⟩] 119 (0, 0)) := by
    have h9 := heap_alloc_new (w.alloc (.cells #[.slice none 0 0, .slice none 0 0, .slice none 0 0, .slice none 0 0, .int .i64 0, .int .i64 0, .int .i64 0, .string ⟨#[]⟩] 119)) (.cells #[.slice none 0 0, .slice none 0 0, .slice none 0 0, .slice none 0 0, .int .i64 0, .int .i64 0, .int .i64 0, .string ⟨#[]⟩] 119)
    rw [World.size_alloc] at h9
    exact h9
  have r0 : ((w.alloc (.cells #[.slice none 0 0, .slice none 0 0, .slice none 0 0, .slice none 0 0, .int .i64 0, .int .i64 0, .int .i64 0, .string ⟨#[]⟩] 119)).alloc (.cells #[.slice none 0 0, .slice none 0 0, .slice none 0 0, .slice none 0 0, .int .i64 0, .int .i64 0, .int .i64 0, .string ⟨#[]⟩] 119)).heap[w.heap.size]? = some (.cells #[.slice none 0 0, .slice none 0 0, .slice none 0 0, .slice none 0 0, .int .i64 0, .int .i64 0, .int .i64 0, .string ⟨#[]⟩] 119 (0, 0)) := (Below.heap_alloc _ _ _ (by simp)).trans (heap_alloc_new _ _)
  have HR1 : Hid _ := r1
  have HR0 : Hid _ := r0
  have hsz : ((w.alloc (.cells #[.slice none 0 0, .slice none 0 0, .slice none 0 0, .slice none 0 0, .int .i64 0, .int .i64 0, .int .i64 0, .string ⟨#[]⟩] 119)).alloc (.cells #[.slice none 0 0, .slice none 0 0, .slice none 0 0, .slice none 0 0, .int .i64 0, .int .i64 0, .int .i64 0, .string ⟨#[]⟩] 119)).heap.size = w.heap.size + 1 + 1 := by simp
  have HSZ : Hid _ := hsz
  have hN := new_any 4 0 (boolT b) ((w.alloc (.cells #[.slice none 0 0, .slice none 0 0, .slice none 0 0, .slice none 0 0, .int .i64 0, .int .i64 0, .int .i64 0, .string ⟨#[]⟩] 119)).alloc (.cells #[.slice none 0 0, .slice none 0 0, .slice none 0 0, .slice none 0 0, .int .i64 0, .int .i64 0, .int .i64 0, .string ⟨#[]⟩] 119))
  unfold mach at hN ⊢
  simp only at hN ⊢
  clear r1 r0 hsz b1
  cases b
  · unfold boolT at hN ⊢
    simp only [Bool.false_eq_true, if_false] at hN ⊢
    go_enter Tryz.func108, Tryz.ntmps108
    go_wp2_with fail
    refine hN.mono ?_
    rintro e w3 ⟨g, c, rfl, hc, c0, c1, c2, hg, hb3⟩
    have r3 := (hb3.block (w.heap.size + 1) (by rw [HSZ.out]; omega)).trans HR1.out
    have hbb := Below.step b2 hb3
    rw [HSZ.out] at hg
    obtain ⟨hf, hWF⟩ := mach_fin (c := c) 0 r3 hbb (by omega) (by omega) c0 c1 c2
    obtain ⟨f, d0, d1, d2, d3, d4, d5, d6, d7⟩ := zero8 r3
    have f0 := f 0
    have f1 := f 1
    have f2 := f 2
    have f3 := f 3
    have f4 := f 4
    have f5 := f 5
    have f6 := f 6
    have f7 := f 7
    have HF : Hid _ := hf
    have HW : Hid _ := hWF
    have l1 : w.heap.size + 1 < w3.heap.size := lt_of_cell d0
    clear hN hf hWF r3 hb3 hbb b2 c0 c1 c2 f
    go_wp2
    have h9 := HF.out
    refine bodyPost_ret (results_mach rfl _ (w.heap.size + 1) rfl _ (some ⟨g, 0, none⟩, 1, c) 0 0 h9 _ rfl) rfl ?_
    exact ⟨g, c, rfl, hc, HW.out.1, HW.out.2.1, HW.out.2.2.1, by omega, HW.out.2.2.2⟩
  · unfold boolT at hN ⊢
    simp only [if_true] at hN ⊢
    go_enter Tryz.func108, Tryz.ntmps108
    go_wp2_with fail
    refine hN.mono ?_
    rintro e w3 ⟨g, c, rfl, hc, c0, c1, c2, hg, hb3⟩
    have r3 := (hb3.block (w.heap.size + 1) (by rw [HSZ.out]; omega)).trans HR1.out
    have hbb := Below.step b2 hb3
    rw [HSZ.out] at hg
    obtain ⟨hf, hWF⟩ := mach_fin (c := c) 0 r3 hbb (by omega) (by omega) c0 c1 c2
    obtain ⟨f, d0, d1, d2, d3, d4, d5, d6, d7⟩ := zero8 r3
    have f0 := f 0
    have f1 := f 1
    have f2 := f 2
    have f3 := f 3
    have f4 := f 4
    have f5 := f 5
    have f6 := f 6
    have f7 := f 7
    have HF : Hid _ := hf
    have HW : Hid _ := hWF
    have l1 : w.heap.size + 1 < w3.heap.size := lt_of_cell d0
    clear hN hf hWF r3 hb3 hbb b2 c0 c1 c2 f
    go_wp2
    have h9 := HF.out
    refine bodyPost_ret (results_mach rfl _ (w.heap.size + 1) rfl _ (some ⟨g, 0, none⟩, 1, c) 0 0 h9 _ rfl) rfl ?_
    exact ⟨g, c, rfl, hc, HW.out.1, HW.out.2.1, HW.out.2.2.1, by omega, HW.out.2.2.2⟩
set_option maxRecDepth 20000 in
set_option maxHeartbeats 4000000 in
theorem raise13_any (tx : ByteArray) (w : World) :
    Calls Tryz.prog 109 #[.agg (mach (none, 0, 0) 0 0), .string tx] w fun e w' => MachRes w 4 0 tx 1 e w' := by
  have b1 := (Below.refl w.heap.size w).alloc (Nat.le_refl _) (.cells #[.slice none 0 0, .slice none 0 0, .slice none 0 0, .slice none 0 0, .int .i64 0, .int .i64 0, .int .i64 0, .string ⟨#[]⟩] 119)
  have b2 := b1.alloc b1.size (.cells #[.slice none 0 0, .slice none 0 0, .slice none 0 0, .slice none 0 0, .int .i64 0, .int .i64 0, .int .i64 0, .string ⟨#[]⟩] 119)
  have r1 : ((w.alloc (.cells #[.slice none 0 0, .slice none 0 0, .slice none 0 0, .slice none 0 0, .int .i64 0, .int .i64 0, .int .i64 0, .string ⟨#[]⟩] 119)).alloc (.cells #[.slice none 0 0, .slice none 0 0, .slice none 0 0, .slice none 0 0, .int .i64 0, .int .i64 0, .int .i64 0, .string ⟨#[]⟩] 119)).heap[w.heap.size + 1]? = some (.cells #[.slice none 0 0, .slice none 0 0, .slice none 0 0, .slice none 0 0, .int .i64 0, .int .i64 0, .int .i64 0, .string ⟨#[]⟩] 119 (0, 0)) := by
    have h9 := heap_alloc_new (w.alloc (.cells #[.slice none 0 0, .slice none 0 0, .slice none 0 0, .slice none 0 0, .int .i64 0, .int .i64 0, .int .i64 0, .string ⟨#[]⟩] 119)) (.cells #[.slice none 0 0, .slice none 0 0, .slice none 0 0, .slice none 0 0, .int .i64 0, .int .i64 0, .int .i64 0, .string ⟨#[]⟩] 119)
    rw [World.size_alloc] at h9
    exact h9
  have r0 : ((w.alloc (.cells #[.slice none 0 0, .slice none 0 0, .slice none 0 0, .slice none 0 0, .int .i64 0, .int .i64 0, .int .i64 0, .string ⟨#[]⟩] 119)).alloc (.cells #[.slice none 0 0, .slice none 0 0, .slice none 0 0, .slice none 0 0, .int .i64 0, .int .i64 0, .int .i64 0, .string ⟨#[]⟩] 119)).heap[w.heap.size]? = some (.cells #[.slice none 0 0, .slice none 0 0, .slice none 0 0, .slice none 0 0, .int .i64 0, .int .i64 0, .int .i64 0, .string ⟨#[]⟩] 119 (0, 0)) := (Below.heap_alloc _ _ _ (by simp)).trans (heap_alloc_new _ _)
  have HR1 : Hid _ := r1
  have HR0 : Hid _ := r0
  have hsz : ((w.alloc (.cells #[.slice none 0 0, .slice none 0 0, .slice none 0 0, .slice none 0 0, .int .i64 0, .int .i64 0, .int .i64 0, .string ⟨#[]⟩] 119)).alloc (.cells #[.slice none 0 0, .slice none 0 0, .slice none 0 0, .slice none 0 0, .int .i64 0, .int .i64 0, .int .i64 0, .string ⟨#[]⟩] 119)).heap.size = w.heap.size + 1 + 1 := by simp
  have HSZ : Hid _ := hsz
  have hN := new_any 4 0 tx ((w.alloc (.cells #[.slice none 0 0, .slice none 0 0, .slice none 0 0, .slice none 0 0, .int .i64 0, .int .i64 0, .int .i64 0, .string ⟨#[]⟩] 119)).alloc (.cells #[.slice none 0 0, .slice none 0 0, .slice none 0 0, .slice none 0 0, .int .i64 0, .int .i64 0, .int .i64 0, .string ⟨#[]⟩] 119))
  unfold mach at hN ⊢
  simp only at hN ⊢
  clear r1 r0 hsz b1
  go_enter Tryz.func109, Tryz.ntmps109
  go_wp2_with fail
  refine hN.mono ?_
  rintro e w3 ⟨g, c, rfl, hc, c0, c1, c2, hg, hb3⟩
  have r3 := (hb3.block (w.heap.size + 1) (by rw [HSZ.out]; omega)).trans HR1.out
  have r4 := (hb3.block w.heap.size (by rw [HSZ.out]; omega)).trans HR0.out
  have hbb := Below.step b2 hb3
  rw [HSZ.out] at hg
  obtain ⟨hf, k0, k1, k2, hb5⟩ := mach_fin (c := c) 0 r4 hbb (Nat.le_refl _) (by omega) c0 c1 c2
  obtain ⟨f, d0, d1, d2, d3, d4, d5, d6, d7⟩ := zero8 r4
  have f0 := f 0
  have f1 := f 1
  have f2 := f 2
  have f3 := f 3
  have f4 := f 4
  have f5 := f 5
  have f6 := f 6
  have f7 := f 7
  have l1 : w.heap.size < w3.heap.size := lt_of_cell d0
  have r5 : ((((((((w3.setCell ⟨w.heap.size, 0, none⟩ (.slice none 0 0)).setCell ⟨w.heap.size, 1, none⟩ (.slice none 0 0)).setCell ⟨w.heap.size, 2, none⟩ (.slice (some ⟨g, 0, none⟩) 1 c)).setCell ⟨w.heap.size, 3, none⟩ (.slice none 0 0)).setCell ⟨w.heap.size, 4, none⟩ (.int .i64 0)).setCell ⟨w.heap.size, 5, none⟩ (.int .i64 0)).setCell ⟨w.heap.size, 6, none⟩ (.int .i64 0)).setCell ⟨w.heap.size, 7, none⟩ (.string ⟨#[]⟩)).heap[w.heap.size + 1]? = some (.cells #[.slice none 0 0, .slice none 0 0, .slice none 0 0, .slice none 0 0, .int .i64 0, .int .i64 0, .int .i64 0, .string ⟨#[]⟩] 119 (0, 0)) :=
    ((set8_but (w := w3) (g := w.heap.size) (.slice none 0 0) (.slice none 0 0) (.slice (some ⟨g, 0, none⟩) 1 c) (.slice none 0 0) (.int .i64 0) (.int .i64 0) (.int .i64 0) (.string ⟨#[]⟩)).block _ (Array.getElem?_eq_some_iff.1 r3).1 (by omega)).trans r3
  obtain ⟨W5, hW5⟩ : ∃ W5, ((((((((w3.setCell ⟨w.heap.size, 0, none⟩ (.slice none 0 0)).setCell ⟨w.heap.size, 1, none⟩ (.slice none 0 0)).setCell ⟨w.heap.size, 2, none⟩ (.slice (some ⟨g, 0, none⟩) 1 c)).setCell ⟨w.heap.size, 3, none⟩ (.slice none 0 0)).setCell ⟨w.heap.size, 4, none⟩ (.int .i64 0)).setCell ⟨w.heap.size, 5, none⟩ (.int .i64 0)).setCell ⟨w.heap.size, 6, none⟩ (.int .i64 0)).setCell ⟨w.heap.size, 7, none⟩ (.string ⟨#[]⟩)) = W5 := ⟨_, rfl⟩
  rw [hW5] at hf k0 k1 k2 hb5 r5
  have hf' : W5.heap[w.heap.size]? = some (.cells #[.slice none 0 0, .slice none 0 0, .slice (some ⟨g, 0, none⟩) 1 c, .slice none 0 0, .int .i64 0, .int .i64 0, .int .i64 0, .string ⟨#[]⟩] 119 (0, 0)) := hf
  have hg5 : (W5.setCell ⟨w.heap.size, 5, none⟩ (.int .i64 1)).heap[w.heap.size]? = some (.cells #[.slice none 0 0, .slice none 0 0, .slice (some ⟨g, 0, none⟩) 1 c, .slice none 0 0, .int .i64 0, .int .i64 1, .int .i64 0, .string ⟨#[]⟩] 119 (0, 0)) := heap_setCell_same _ _ _ _ _ _ hf'
  have hg6 : ((W5.setCell ⟨w.heap.size, 5, none⟩ (.int .i64 1)).setCell ⟨w.heap.size, 6, none⟩ (.int .i64 0)).heap[w.heap.size]? = some (.cells #[.slice none 0 0, .slice none 0 0, .slice (some ⟨g, 0, none⟩) 1 c, .slice none 0 0, .int .i64 0, .int .i64 1, .int .i64 0, .string ⟨#[]⟩] 119 (0, 0)) := heap_setCell_same _ _ _ _ _ _ hg5
  have r6 : ((W5.setCell ⟨w.heap.size, 5, none⟩ (.int .i64 1)).setCell ⟨w.heap.size, 6, none⟩ (.int .i64 0)).heap[w.heap.size + 1]? = some (.cells #[.slice none 0 0, .slice none 0 0, .slice none 0 0, .slice none 0 0, .int .i64 0, .int .i64 0, .int .i64 0, .string ⟨#[]⟩] 119 (0, 0)) := (Below.heap_setCell _ _ _ _ (by show w.heap.size + 1 ≠ w.heap.size; omega)).trans ((Below.heap_setCell _ _ _ _ (by show w.heap.size + 1 ≠ w.heap.size; omega)).trans r5)
  have hb6 : Below w.heap.size w ((W5.setCell ⟨w.heap.size, 5, none⟩ (.int .i64 1)).setCell ⟨w.heap.size, 6, none⟩ (.int .i64 0)) := (hb5.setCell (p := ⟨w.heap.size, 5, none⟩) (Nat.le_refl _) _).setCell (p := ⟨w.heap.size, 6, none⟩) (Nat.le_refl _) _
  have hne : ∀ j, ((W5.setCell ⟨w.heap.size, 5, none⟩ (.int .i64 1)).setCell ⟨w.heap.size, 6, none⟩ (.int .i64 0)).cell? ⟨g, j, none⟩ = W5.cell? ⟨g, j, none⟩ := fun j => (World.cell?_setCell_far _ _ _ _ (by show w.heap.size ≠ g; omega)).trans (World.cell?_setCell_far _ _ _ _ (by show w.heap.size ≠ g; omega))
  have m0 := (hne 0).trans k0
  have m1 := (hne 1).trans k1
  have m2 := k2.keep hne
  obtain ⟨W6, hW6⟩ : ∃ W6, ((W5.setCell ⟨w.heap.size, 5, none⟩ (.int .i64 1)).setCell ⟨w.heap.size, 6, none⟩ (.int .i64 0)) = W6 := ⟨_, rfl⟩
  rw [hW6] at hg6 r6 hb6 m0 m1 m2
  have p0 : W5.cell? ⟨w.heap.size, 0, none⟩ = some (.slice none 0 0) := by rw [cell_of_row _ _ _ _ _ _ hf']; rfl
  have p1 : W5.cell? ⟨w.heap.size, 1, none⟩ = some (.slice none 0 0) := by rw [cell_of_row _ _ _ _ _ _ hf']; rfl
  have p2 : W5.cell? ⟨w.heap.size, 2, none⟩ = some (.slice (some ⟨g, 0, none⟩) 1 c) := by rw [cell_of_row _ _ _ _ _ _ hf']; rfl
  have p3 : W5.cell? ⟨w.heap.size, 3, none⟩ = some (.slice none 0 0) := by rw [cell_of_row _ _ _ _ _ _ hf']; rfl
  have p4 : W5.cell? ⟨w.heap.size, 4, none⟩ = some (.int .i64 0) := by rw [cell_of_row _ _ _ _ _ _ hf']; rfl
  have p5 : W5.cell? ⟨w.heap.size, 5, none⟩ = some (.int .i64 0) := by rw [cell_of_row _ _ _ _ _ _ hf']; rfl
  have p6 : W5.cell? ⟨w.heap.size, 6, none⟩ = some (.int .i64 0) := by rw [cell_of_row _ _ _ _ _ _ hf']; rfl
  have p7 : W5.cell? ⟨w.heap.size, 7, none⟩ = some (.string ⟨#[]⟩) := by rw [cell_of_row _ _ _ _ _ _ hf']; rfl
  have x5 : W5.frozen? ⟨w.heap.size, 5, none⟩ = false := frozen_of_row _ _ _ _ _ hf'
  have x6 : (W5.setCell ⟨w.heap.size, 5, none⟩ (.int .i64 1)).frozen? ⟨w.heap.size, 6, none⟩ = false := frozen_of_row _ _ _ _ _ hg5
  have x7 : (W5.setCell ⟨w.heap.size, 5, none⟩ (.int .i64 1)).cell? ⟨w.heap.size, 6, none⟩ = some (.int .i64 0) := by rw [cell_of_row _ _ _ _ _ _ hg5]; rfl
  have s0 : W6.cell? ⟨w.heap.size, 0, none⟩ = some (.slice none 0 0) := by rw [cell_of_row _ _ _ _ _ _ hg6]; rfl
  have s1 : W6.cell? ⟨w.heap.size, 1, none⟩ = some (.slice none 0 0) := by rw [cell_of_row _ _ _ _ _ _ hg6]; rfl
  have s2 : W6.cell? ⟨w.heap.size, 2, none⟩ = some (.slice (some ⟨g, 0, none⟩) 1 c) := by rw [cell_of_row _ _ _ _ _ _ hg6]; rfl
  have s3 : W6.cell? ⟨w.heap.size, 3, none⟩ = some (.slice none 0 0) := by rw [cell_of_row _ _ _ _ _ _ hg6]; rfl
  have s4 : W6.cell? ⟨w.heap.size, 4, none⟩ = some (.int .i64 0) := by rw [cell_of_row _ _ _ _ _ _ hg6]; rfl
  have s5 : W6.cell? ⟨w.heap.size, 5, none⟩ = some (.int .i64 1) := by rw [cell_of_row _ _ _ _ _ _ hg6]; rfl
  have s6 : W6.cell? ⟨w.heap.size, 6, none⟩ = some (.int .i64 0) := by rw [cell_of_row _ _ _ _ _ _ hg6]; rfl
  have s7 : W6.cell? ⟨w.heap.size, 7, none⟩ = some (.string ⟨#[]⟩) := by rw [cell_of_row _ _ _ _ _ _ hg6]; rfl
  obtain ⟨hF, hWF⟩ := mach_fin (c := c) 1 r6 hb6 (show w.heap.size ≤ w.heap.size + 1 by omega) (show g ≠ w.heap.size + 1 by omega) m0 m1 m2
  obtain ⟨fz, z0, z1, z2, z3, z4, z5, z6, z7⟩ := zero8 r6
  have g0 := fz 0
  have g1 := fz 1
  have g2 := fz 2
  have g3 := fz 3
  have g4 := fz 4
  have g5 := fz 5
  have g6 := fz 6
  have g7 := fz 7
  have l5 : w.heap.size < W5.heap.size := lt_of_cell p0
  have l6 : w.heap.size + 1 < W6.heap.size := lt_of_cell z0
  have l7 : w.heap.size < W6.heap.size := lt_of_cell s0
  have HF : Hid _ := hF
  have HW : Hid _ := hWF
  clear hN hb3 b2 c0 c1 c2 f fz hF hWF hf hf' hg5 hg6 r5 r6 hb5 hb6 k0 k1 k2 m0 m1 m2 hne r3 r4 hbb HR0 HR1
  go_wp2
  have h9 := HF.out
  refine bodyPost_ret (results_mach rfl _ (w.heap.size + 1) rfl _ (some ⟨g, 0, none⟩, 1, c) 1 0 h9 _ rfl) rfl ?_
  exact ⟨g, c, rfl, hc, HW.out.1, HW.out.2.1, HW.out.2.2.1, by omega, HW.out.2.2.2⟩
end Go.Proofs.YtemancdlnakkmaaGreat
