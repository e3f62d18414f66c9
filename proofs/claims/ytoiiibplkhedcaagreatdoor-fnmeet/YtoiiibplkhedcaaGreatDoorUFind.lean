import Derived.Test.YtoiiibplkhedcaaGreatDoorGG
namespace Go.Proofs.YtoiiibplkhedcaaGreatDoor
open Go.RowKit
set_option maxHeartbeats 1000000 in
theorem find_any (st : List SK) (n : Nat) (HL : Hid (st.length = n)) (ka : Nat → Option Addr × Nat) (lk : Nat → Option Nat) (mk : Nat → Int) (rk : Nat → Nat) (HR : Hid (Ranked st lk rk)) (HG : Hid (∀ i j, lk i = some j → i < st.length ∧ j < st.length))
    (B g c : Nat) (wk : Int) (w : World) (hS : Sto w B g c st ka lk mk) (i r : Nat) (hi : i < n) (hr : Rt lk i r) :
    Calls Tryz.prog 70 #[.agg #[.slice (some ⟨g, 0, none⟩) n c, .int .i64 wk], .int .i64 (i : Int)] w fun e w' => e = .returned (.int .i64 (r : Int)) ∧ Below w.heap.size w w' := by
  have hgw := hS.block
  have HS : Hid (Sto w B g c st ka lk mk) := hS
  clear hS
  go_enter Tryz.func70, Tryz.ntmps70
  go_wp2
  go_loopw [1] (fun v wr => ∃ k : Nat, k < n ∧ v = .int .i64 (k : Int) ∧ Rt lk k r ∧ wr = w.alloc (.cells #[.slice (some ⟨g, 0, none⟩) n c, .int .i64 wk] 78)) (fun v _ => rk (intOf v).toNat)
  case atStart => exact ⟨i, hi, rfl, hr, rfl⟩
  case round =>
    obtain ⟨k, hk, rfl, hrt, rfl⟩ := hrel
    have hbox : Below w.heap.size w (w.alloc (.cells #[.slice (some ⟨g, 0, none⟩) n c, .int .i64 wk] 78)) := (Below.refl _ w).alloc (Nat.le_refl _) _
    have c4 : w.cell? ⟨g, k * 6 + 4, none⟩ = some (.int .i64 (lkv (lk k))) := by
      rw [HS.out.cell k 4 (by have := HL.out; omega) (by omega)]
      rfl
    cases hl : lk k with
    | none =>
      have e : k = r := by
        cases hrt with
        | root _ => rfl
        | step h1 _ => rw [hl] at h1; cases h1
      subst e
      rw [hl] at c4
      simp only [lkv] at c4
      clear hrt hl
      go_wp2
      go_ret
      exact ⟨rfl, hbox⟩
    | some j =>
      have hj : j < n := by have := (HG.out k j hl).2; have := HL.out; omega
      have hrj : Rt lk j r := by
        cases hrt with
        | root h1 => rw [hl] at h1; cases h1
        | step h1 h2 => rw [hl] at h1; cases h1; exact h2
      have hrk := HR.out.link k j hl
      rw [hl] at c4
      simp only [lkv] at c4
      clear hrt hl
      go_wp2
      go_roundw
      case rel => exact ⟨j, hj, rfl, hrj, trivial⟩
      case measure => simpa [intOf] using hrk
end Go.Proofs.YtoiiibplkhedcaaGreatDoor
