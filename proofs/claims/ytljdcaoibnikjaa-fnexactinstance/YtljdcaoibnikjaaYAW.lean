import Derived.Test.YtljdcaoibnikjaaYAV
import Derived.Deep.RegionWith
import Derived.Deep.RegionLaw
namespace Go.Proofs.Ytljdcaoibnikjaa
open Go.RowKit

/-- Behind calls that only shorten ways. -/
def Shortened (X : Nat → Prop) (f : Nat → CC) (lk : Nat → Option Nat) (d : Nat → Nat) (w w' : World) : Prop := ∃ lk', Cells w' X f lk' ∧ SameHd lk lk' ∧ Acyc lk' d ∧ But X w w'

/-- How long a slice is. -/
def lenOf : Value → Nat
  | .slice _ n _ => n
  | _ => 0

theorem But.undrew {S : Nat → Prop} {w w' : World} (h : But S w.drew w') : But S w w' := ⟨h.os, h.tape, h.output, h.size, h.block⟩

theorem Shortened.undrew {X : Nat → Prop} {f : Nat → CC} {lk : Nat → Option Nat} {d : Nat → Nat} {w w' : World} (h : Shortened X f lk d w.drew w') : Shortened X f lk d w w' := by
  obtain ⟨lk', h1, h2, h3, h4⟩ := h
  exact ⟨lk', h1, h2, h3, h4.undrew⟩

set_option maxRecDepth 20000 in
set_option maxHeartbeats 2000000 in
theorem lower1_any (X : Nat → Prop) (f : Nat → CC) (lk : Nat → Option Nat) (d : Nat → Nat) (HA : Hid (Acyc lk d)) (w : World) (hC : Cells w X f lk) (c : Nat) (hX : X c) (hl : lk c = none) (bx : Nat) (level : Int) (hbx : w.cell? ⟨bx, 0, none⟩ = some (.int .i64 level)) (hbX : ¬ X bx) (hle : (f c).lv ≤ level) :
    Calls Try.prog 78 #[.pointer (some ⟨c, 0, none⟩), .pointer (some ⟨bx, 0, none⟩)] w fun e w' => e = .returned (.slice none 0 0) ∧ Shortened X f lk d w w' := by
  go_enter Try.func78, Try.ntmps78
  go_wp2_with fail
  refine (head_any X f lk d HA w hC c c hX (Hd.root hl)).mono ?_
  rintro e w1 ⟨rfl, lk1, hC1, hS1, hA1, hB1, hz1⟩
  have hbx1 : w1.cell? ⟨bx, 0, none⟩ = some (.int .i64 level) := (hB1.cellB (lt_of_cell hbx) hbX).trans hbx
  obtain ⟨_, _, _, _, _, _, _, _, c8, _, _, _, _, _⟩ := (hC1.at' c hX).cell
  have H9 : Hid (Shortened X f lk d w w1) := ⟨lk1, hC1, hS1, hA1, hB1⟩
  have tle : decide ((f c).lv ≤ level) = true := decide_eq_true hle
  clear hC hC1 hS1 hA1 hB1 hbx
  go_wp2
  go_quiet (fail)
  go_wp2
  go_ret
  obtain ⟨lk1, h1, h2, h3, h4⟩ := H9.out
  exact ⟨rfl, lk1, h1.drewN _, h2, h3, h4.drewN _⟩

set_option maxRecDepth 20000 in
set_option maxHeartbeats 2000000 in
theorem until1_any (X : Nat → Prop) (f : Nat → CC) (lk : Nat → Option Nat) (d : Nat → Nat) (HA : Hid (Acyc lk d)) (w : World) (hC : Cells w X f lk) (c : Nat) (hX : X c) (hl : lk c = none) (bx g : Nat) (level : Int) (hbx : w.cell? ⟨bx, 0, none⟩ = some (.int .i64 level)) (hbX : ¬ X bx) (hle : (f c).lv ≤ level)
    (hg : w.cell? ⟨g, 0, none⟩ = some (.pointer (some ⟨c, 0, none⟩))) :
    Calls Try.prog 77 #[.slice (some ⟨g, 0, none⟩) 1 1, .func (.func 78) #[] #[.pointer (some ⟨bx, 0, none⟩)]] w fun e w' => e = .returned (.tuple #[]) ∧ Shortened X f lk d w w' := by
  have HC := lower1_any X f lk d HA w.drew hC.drew c hX hl bx level hbx hbX hle
  go_enter Try.func77, Try.ntmps77
  go_wp2
  go_loopw [0] (fun v wr => (v = .slice (some ⟨g, 0, none⟩) 1 1 ∧ wr = w) ∨ (v = .slice (some ⟨g, 0, none⟩) 0 1 ∧ Shortened X f lk d w wr)) (fun v _ => lenOf v)
  case atStart => exact .inl ⟨rfl, rfl⟩
  case round =>
    rcases hrel with ⟨rfl, rfl⟩ | ⟨rfl, hS⟩
    · go_wp2_with fail
      go_region_law (go_simp; refine HC.mono ?_; rintro e w1 ⟨rfl, hS⟩)
      all_goals
        have hS := hS.undrew
        clear HC
        simp only [Act.put, List.getElem_toArray, List.getElem_cons_succ, List.getElem_cons_zero, List.setIfInBounds_toArray, List.set_cons_zero]
        go_wp2
        go_roundw
        case rel => exact .inr ⟨rfl, hS⟩
        case measure => simp [lenOf]
    · clear HC
      go_wp2
      go_end0
      exact ⟨rfl, hS⟩

set_option maxRecDepth 20000 in
set_option maxHeartbeats 2000000 in
theorem lower_any (X : Nat → Prop) (f : Nat → CC) (lk : Nat → Option Nat) (d : Nat → Nat) (HA : Hid (Acyc lk d)) (w : World) (hC : Cells w X f lk) (hlt : ∀ b, X b → b < w.heap.size) (c : Nat) (hX : X c) (hl : lk c = none) (level : Int) (hle : (f c).lv ≤ level) :
    Calls Try.prog 71 #[.pointer (some ⟨c, 0, none⟩), .int .i64 level] w fun e w' => e = .returned (.tuple #[]) ∧ Shortened X f lk d w w' := by
  have hb0 : Below w.heap.size w (w.alloc (.cells #[.int .i64 level] 3)) := (Below.refl _ w).alloc (Nat.le_refl _) _
  have hb1 := hb0.alloc hb0.size (.cells #[.pointer (some ⟨c, 0, none⟩)] 60)
  have hB : But (fun _ => False) w ((w.alloc (.cells #[.int .i64 level] 3)).alloc (.cells #[.pointer (some ⟨c, 0, none⟩)] 60)) := But.ofBelow hb1
  have hC1 := hC.but hB (fun _ _ h => h)
  have k0 : ((w.alloc (.cells #[.int .i64 level] 3)).alloc (.cells #[.pointer (some ⟨c, 0, none⟩)] 60)).cell? ⟨w.heap.size, 0, none⟩ = some (.int .i64 level) := by
    have h8 := heap_alloc_new w (.cells #[.int .i64 level] 3)
    have h9 := (heap_alloc_old (w.alloc (.cells #[.int .i64 level] 3)) (.cells #[.pointer (some ⟨c, 0, none⟩)] 60) (r := w.heap.size) (by simp)).trans h8
    rw [cell_of_row _ _ _ _ 3 (0, 0) h9]
    rfl
  have k1 : ((w.alloc (.cells #[.int .i64 level] 3)).alloc (.cells #[.pointer (some ⟨c, 0, none⟩)] 60)).cell? ⟨w.heap.size + 1, 0, none⟩ = some (.pointer (some ⟨c, 0, none⟩)) := by
    have h9 := heap_alloc_new (w.alloc (.cells #[.int .i64 level] 3)) (.cells #[.pointer (some ⟨c, 0, none⟩)] 60)
    rw [World.size_alloc] at h9
    rw [cell_of_row _ _ _ _ 60 (0, 0) h9]
    rfl
  have HU := until1_any X f lk d HA _ hC1 c hX hl w.heap.size (w.heap.size + 1) level k0 (fun h => Nat.lt_irrefl _ (hlt _ h)) hle k1
  clear hC hC1 k0 k1 hb0 hb1
  go_enter Try.func71, Try.ntmps71
  go_wp2_with fail
  refine HU.mono ?_
  rintro e w1 ⟨rfl, lk1, h1, h2, h3, h4⟩
  clear HU
  have HR : Hid (Shortened X f lk d w w1) := ⟨lk1, h1, h2, h3, (hB.mono (fun _ h => h.elim)).trans h4⟩
  clear h1 h2 h3 h4 hB
  go_wp2
  go_end0
  exact ⟨rfl, HR.out⟩

end Go.Proofs.Ytljdcaoibnikjaa

namespace Go.Proofs.Ytljdcaoibnikjaa
open Go.RowKit

/-- What may be said of two heads that are tied at once: the second is open and the first, where it is open too, has no higher number; or neither is open and their nodes are the same. -/
def MayTie (x y : CC) : Prop := (y.open? = true ∧ (x.open? = true → x.nd.num ≤ y.nd.num)) ∨ (x.open? = false ∧ y.open? = false ∧ x.nd = y.nd)

/-- A store to which another has come by ties at a time (and by links that were shortened). -/
inductive Ties (X : Nat → Prop) (t : Int) (f : Nat → CC) (lk : Nat → Option Nat) : (Nat → CC) → (Nat → Option Nat) → Prop
  | same {lk' : Nat → Option Nat} : SameHd lk lk' → Ties X t f lk f lk'
  | step {f1 : Nat → CC} {lk1 lk2 : Nat → Option Nat} {a b h q : Nat} {r : Int} : Ties X t f lk f1 lk1 → X a → X b → a ≠ b → lk1 a = none → lk1 b = none → (h = a ∧ q = b ∨ h = b ∧ q = a) → MayTie (f1 a) (f1 b) → SameHd (tied lk1 h q) lk2 → Ties X t f lk (tiedF f1 a h q r t) lk2

theorem Ties.refl (X : Nat → Prop) (t : Int) (f : Nat → CC) (lk : Nat → Option Nat) : Ties X t f lk f lk := .same (SameHd.refl lk)

theorem Ties.short {X : Nat → Prop} {t : Int} {f f' : Nat → CC} {lk lk' lk2 : Nat → Option Nat} (h : Ties X t f lk f' lk') (hs : SameHd lk' lk2) : Ties X t f lk f' lk2 := by
  cases h with
  | same h1 => exact .same (h1.trans hs)
  | step h1 h2 h3 h4 h5 h6 h7 h8 h9 => exact .step h1 h2 h3 h4 h5 h6 h7 h8 (h9.trans hs)

theorem Ties.trans {X : Nat → Prop} {t : Int} {f f1 f2 : Nat → CC} {lk lk1 lk2 : Nat → Option Nat} (h : Ties X t f lk f1 lk1) (h' : Ties X t f1 lk1 f2 lk2) : Ties X t f lk f2 lk2 := by
  induction h' with
  | same h1 => exact h.short h1
  | step _ h2 h3 h4 h5 h6 h7 h8 h9 ih => exact .step ih h2 h3 h4 h5 h6 h7 h8 h9

theorem SameHd.symm {a b : Nat → Option Nat} (h : SameHd a b) : SameHd b a := fun i r => (h i r).symm

theorem CSto.still {w w' : World} {X : Nat → Prop} {f : Nat → CC} {lk : Nat → Option Nat} {d : Nat → Nat} {K : (Option Addr × Nat × Nat) → List Nat} (h : CSto w X f lk d K) (hb : But (fun _ => False) w w') : CSto w' X f lk d K :=
  h.short (h.cells.but hb (fun _ _ h => h)) h.acyc (hb.mono (fun _ h => h.elim))

end Go.Proofs.Ytljdcaoibnikjaa
