import Derived.Test.YtfkopelhaghdaaaDoorProg
import Derived.WalkKit
import Derived.Lib.ItoaNum
import Derived.Deep.RegionWith
namespace Go.Proofs.YtfkopelhaghdaaaDoor
open Go.RowKit Go.Lib

abbrev DG : ByteArray := { data := #[48, 49, 50, 51, 52, 53, 54, 55, 56, 57] }

theorem dg_fin : ∀ i : Fin 10, (DG.extract i.val (i.val + 1)) = ⟨#[UInt8.ofNat (48 + i.val)]⟩ := by decide +kernel

theorem dg_at {i : Nat} (h : i < 10) : DG.extract i (i + 1) = ⟨#[UInt8.ofNat (48 + i)]⟩ := dg_fin ⟨i, h⟩

theorem cat_mk (a b : List UInt8) : (⟨a.toArray⟩ : ByteArray) ++ ⟨b.toArray⟩ = ⟨(a ++ b).toArray⟩ := by
  apply ByteArray.ext
  simp

theorem size_mk (a : List UInt8) : (⟨a.toArray⟩ : ByteArray).size = a.length := by simp [ByteArray.size]

theorem digits_le (k : Nat) (hk : k < 100000000000000000000) : (decDigits k).length ≤ 20 := by
  rw [decDigits_length]
  by_cases h : nDigits k ≤ 20
  · exact h
  · exfalso
    have h1 : ∀ (m u : Nat), m + 1 < nDigits u → 10 ^ (m + 1) ≤ u := by
      intro m
      induction m with
      | zero =>
        intro u hu
        by_cases h10 : u < 10
        · rw [nDigits_small h10] at hu; omega
        · omega
      | succ m ih =>
        intro u hu
        by_cases h10 : u < 10
        · rw [nDigits_small h10] at hu; omega
        · rw [nDigits_big h10] at hu
          have := ih (u / 10) (by omega)
          rw [Nat.pow_succ]
          omega
    have := h1 19 k (by omega)
    omega

set_option maxHeartbeats 1000000 in
theorem down_any (k : Nat) (hk : k ≤ 9223372036854775808) (w : World) :
    Calls Tryd.prog 12 #[.int .i64 (-(k : Int))] w fun e w' => e = .returned (.string ⟨(decDigits k).toArray⟩) ∧ Below w.heap.size w w' := by
  induction k using Nat.strongRecOn generalizing w with
  | _ k ih =>
    obtain ⟨D, hD⟩ : ∃ D : ByteArray, D = ⟨#[UInt8.ofNat (48 + k % 10)]⟩ := ⟨_, rfl⟩
    have hsl : ∀ w, (Instr.slice 9 (.string DG) (some (.int .i64 ((k : Int) % 10))) (some (.int .i64 ((k : Int) % 10 + 1))) none).run Tryd.prog w = .ok (.string D) w := fun w => by
      rw [run_slice_string w 9 DG .i64 .i64 _ _ Tryd.underlying9 (by omega) (by omega) (by have : DG.size = 10 := rfl; omega), show ((k : Int) % 10).toNat = k % 10 by omega, show ((k : Int) % 10 + 1).toNat = k % 10 + 1 by omega, dg_at (by omega), hD]
    by_cases h10 : k < 10
    · have HE : Hid (D = ⟨(decDigits k).toArray⟩) := by
        show D = _
        rw [hD, decDigits_one h10, show k % 10 = k by omega]
      clear hD
      go_enter Tryd.func12, Tryd.ntmps12
      go_wp2
      go_ret
      exact ⟨by rw [HE.out]; rfl, Below.refl _ _⟩
    · have ih' := ih (k / 10) (by omega) (by omega)
      obtain ⟨S, hS⟩ : ∃ S : ByteArray, S = ⟨(decDigits (k / 10)).toArray⟩ := ⟨_, rfl⟩
      rw [show (((k / 10 : Nat)) : Int) = (k : Int) / 10 by omega, ← hS] at ih'
      have hle : S.size + D.size ≤ 9223372036854775807 := by
        have := digits_le (k / 10) (by omega)
        rw [hS, hD, size_mk]
        simp [ByteArray.size]
        omega
      have HE : Hid (S ++ D = ⟨(decDigits k).toArray⟩) := by
        show S ++ D = _
        rw [hS, hD, decDigits.eq_def k, dif_neg h10]
        exact cat_mk _ _
      have hwr : IntKind.i64.wrap (-((k : Int) / 10)) = -((k : Int) / 10) := by rw [IntWalk.i64_in _ (by omega)]
      have hwr2 : IntKind.i64.wrap ((k : Int) % 10 + 1) = (k : Int) % 10 + 1 := by rw [IntWalk.i64_in _ (by omega)]
      clear hD hS ih
      go_enter Tryd.func12, Tryd.ntmps12
      go_wp2
      go_region_with (go_at_call 12; refine (ih' _).mono ?_; rintro e w' ⟨rfl, hb⟩)
      go_wp2
      go_ret
      exact ⟨by rw [HE.out]; rfl, (Below.refl _ w).drew.trans hb⟩

end Go.Proofs.YtfkopelhaghdaaaDoor
