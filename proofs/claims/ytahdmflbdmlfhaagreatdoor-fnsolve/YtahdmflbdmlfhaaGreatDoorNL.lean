import Derived.Test.YtahdmflbdmlfhaaGreatDoorWAB
import Derived.Deep.RegionWith
import Derived.Deep.RegionLaw
namespace Go.Proofs.YtahdmflbdmlfhaaGreatDoor

open Go.RowKit

/-- Behind calls that only shorten ways. -/
def Shortened (X : Nat → Prop) (f : Nat → CC) (lk : Nat → Option Nat) (d : Nat → Nat) (w w' : World) : Prop := ∃ lk', Cells w' X f lk' ∧ SameHd lk lk' ∧ Acyc lk' d ∧ But X w w'

/-- How long a slice is. -/
def lenOf : Value → Nat
  | .slice _ n _ => n
  | _ => 0

theorem But.undrew {S : Nat → Prop} {w w' : World} (h : But S w.drew w') : But S w w' := ⟨h.os, h.tape, h.output, h.size, h.block⟩

theorem Shortened.undrew {X : Nat → Prop} {f : Nat → CC} {lk : Nat → Option Nat} {d : Nat → Nat} {w w' : World} (h : Shortened X f lk d w.drew w') : Shortened X f lk d w w' := by
  obtain ⟨lk', h1, h2, h3, h4⟩ := h
  exact ⟨lk', h1, h2, h3, h4.undrew⟩

set_option maxRecDepth 20000 in
set_option maxHeartbeats 2000000 in
theorem lower1_any (X : Nat → Prop) (f : Nat → CC) (lk : Nat → Option Nat) (d : Nat → Nat) (HA : Hid (Acyc lk d)) (w : World) (hC : Cells w X f lk) (c : Nat) (hX : X c) (hl : lk c = none) (bx : Nat) (level : Int) (hbx : w.cell? ⟨bx, 0, none⟩ = some (.int .i64 level)) (hbX : ¬ X bx) (hle : (f c).lv ≤ level) :
    Calls Tryz.prog 93 #[.pointer (some ⟨c, 0, none⟩), .pointer (some ⟨bx, 0, none⟩)] w fun e w' => e = .returned (.slice none 0 0) ∧ Shortened X f lk d w w' := by
  go_enter Tryz.func93, Tryz.ntmps93
  go_wp2_with fail
  refine (head_any X f lk d HA w hC c c hX (Hd.root hl)).mono ?_
  rintro e w1 ⟨rfl, lk1, hC1, hS1, hA1, hB1, hz1⟩
  have hbx1 : w1.cell? ⟨bx, 0, none⟩ = some (.int .i64 level) := (hB1.cellB (lt_of_cell hbx) hbX).trans hbx
  obtain ⟨_, _, _, _, _, _, _, _, c8, _, _, _, _, _⟩ := (hC1.at' c hX).cell
  have H9 : Hid (Shortened X f lk d w w1) := ⟨lk1, hC1, hS1, hA1, hB1⟩
  have tle : decide ((f c).lv ≤ level) = true := decide_eq_true hle
  clear hC hC1 hS1 hA1 hB1 hbx
  go_wp2
  go_quiet (fail)
  go_wp2
  go_ret
  obtain ⟨lk1, h1, h2, h3, h4⟩ := H9.out
  exact ⟨rfl, lk1, h1.drewN _, h2, h3, h4.drewN _⟩

set_option maxRecDepth 20000 in
set_option maxHeartbeats 2000000 in
theorem until1_any (X : Nat → Prop) (f : Nat → CC) (lk : Nat → Option Nat) (d : Nat → Nat) (HA : Hid (Acyc lk d)) (w : World) (hC : Cells w X f lk) (c : Nat) (hX : X c) (hl : lk c = none) (bx g : Nat) (level : Int) (hbx : w.cell? ⟨bx, 0, none⟩ = some (.int .i64 level)) (hbX : ¬ X bx) (hle : (f c).lv ≤ level)
    (hg : w.cell? ⟨g, 0, none⟩ = some (.pointer (some ⟨c, 0, none⟩))) :
    Calls Tryz.prog 92 #[.slice (some ⟨g, 0, none⟩) 1 1, .func (.func 93) #[] #[.pointer (some ⟨bx, 0, none⟩)]] w fun e w' => e = .returned (.tuple #[]) ∧ Shortened X f lk d w w' := by
  have HC := lower1_any X f lk d HA w.drew hC.drew c hX hl bx level hbx hbX hle
  go_enter Tryz.func92, Tryz.ntmps92
  go_wp2
  go_loopw [0] (fun v wr => (v = .slice (some ⟨g, 0, none⟩) 1 1 ∧ wr = w) ∨ (v = .slice (some ⟨g, 0, none⟩) 0 1 ∧ Shortened X f lk d w wr)) (fun v _ => lenOf v)
  case atStart => exact .inl ⟨rfl, rfl⟩
  case round =>
    rcases hrel with ⟨rfl, rfl⟩ | ⟨rfl, hS⟩
    · go_wp2_with fail
      go_region_law (go_simp; refine HC.mono ?_; rintro e w1 ⟨rfl, hS⟩)
      all_goals
        have hS := hS.undrew
        clear HC
        simp only [Act.put, List.getElem_toArray, List.getElem_cons_succ, List.getElem_cons_zero, List.setIfInBounds_toArray, List.set_cons_zero]
        go_wp2
        go_roundw
        case rel => exact .inr ⟨rfl, hS⟩
        case measure => simp [lenOf]
    · clear HC
      go_wp2
      go_end0
      exact ⟨rfl, hS⟩

set_option maxRecDepth 20000 in
set_option maxHeartbeats 2000000 in
theorem lower_any (X : Nat → Prop) (f : Nat → CC) (lk : Nat → Option Nat) (d : Nat → Nat) (HA : Hid (Acyc lk d)) (w : World) (hC : Cells w X f lk) (hlt : ∀ b, X b → b < w.heap.size) (c : Nat) (hX : X c) (hl : lk c = none) (level : Int) (hle : (f c).lv ≤ level) :
    Calls Tryz.prog 85 #[.pointer (some ⟨c, 0, none⟩), .int .i64 level] w fun e w' => e = .returned (.tuple #[]) ∧ Shortened X f lk d w w' := by
  have hb0 : Below w.heap.size w (w.alloc (.cells #[.int .i64 level] 3)) := (Below.refl _ w).alloc (Nat.le_refl _) _
  have hb1 := hb0.alloc hb0.size (.cells #[.pointer (some ⟨c, 0, none⟩)] 100)
  have hB : But (fun _ => False) w ((w.alloc (.cells #[.int .i64 level] 3)).alloc (.cells #[.pointer (some ⟨c, 0, none⟩)] 100)) := But.ofBelow hb1
  have hC1 := hC.but hB (fun _ _ h => h)
  have k0 : ((w.alloc (.cells #[.int .i64 level] 3)).alloc (.cells #[.pointer (some ⟨c, 0, none⟩)] 100)).cell? ⟨w.heap.size, 0, none⟩ = some (.int .i64 level) := by
    have h8 := heap_alloc_new w (.cells #[.int .i64 level] 3)
    have h9 := (heap_alloc_old (w.alloc (.cells #[.int .i64 level] 3)) (.cells #[.pointer (some ⟨c, 0, none⟩)] 100) (r := w.heap.size) (by simp)).trans h8
    rw [cell_of_row _ _ _ _ 3 (0, 0) h9]
    rfl
  have k1 : ((w.alloc (.cells #[.int .i64 level] 3)).alloc (.cells #[.pointer (some ⟨c, 0, none⟩)] 100)).cell? ⟨w.heap.size + 1, 0, none⟩ = some (.pointer (some ⟨c, 0, none⟩)) := by
    have h9 := heap_alloc_new (w.alloc (.cells #[.int .i64 level] 3)) (.cells #[.pointer (some ⟨c, 0, none⟩)] 100)
    rw [World.size_alloc] at h9
    rw [cell_of_row _ _ _ _ 100 (0, 0) h9]
    rfl
  have HU := until1_any X f lk d HA _ hC1 c hX hl w.heap.size (w.heap.size + 1) level k0 (fun h => Nat.lt_irrefl _ (hlt _ h)) hle k1
  clear hC hC1 k0 k1 hb0 hb1
  go_enter Tryz.func85, Tryz.ntmps85
  go_wp2_with fail
  refine HU.mono ?_
  rintro e w1 ⟨rfl, lk1, h1, h2, h3, h4⟩
  clear HU
  have HR : Hid (Shortened X f lk d w w1) := ⟨lk1, h1, h2, h3, (hB.mono (fun _ h => h.elim)).trans h4⟩
  clear h1 h2 h3 h4 hB
  go_wp2
  go_end0
  exact ⟨rfl, HR.out⟩

end Go.Proofs.YtahdmflbdmlfhaaGreatDoor
