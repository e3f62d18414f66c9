
import Derived.Test.YtocidoamfofefaaYAC
import Derived.Test.YtocidoamfofefaaYAA
namespace Go.Proofs.Ytocidoamfofefaa
open Go.RowKit

/-- A slice of numbers of 64 bits. -/
def Nums (w : World) (ao : Option Addr) (xs : List Int) : Prop := ∀ i (h : i < xs.length), ∃ b o, ao = some ⟨b, o, none⟩ ∧ w.cell? ⟨b, o + i, none⟩ = some (.int .i64 xs[i])

theorem Nums.below {w w' : World} {ao : Option Addr} {xs : List Int} (h : Nums w ao xs) (hb : Below w.heap.size w w') : Nums w' ao xs := by
  intro i hi
  obtain ⟨b, o, e, hc⟩ := h i hi
  exact ⟨b, o, e, (hb.cell (p := ⟨b, o + i, none⟩) (lt_of_cell hc)).trans hc⟩

/-- The last place of a number among the first k, or -1. -/
def lastTo (xs : List Int) (x : Int) : Nat → Int
  | 0 => -1
  | k + 1 => if xs[k]? = some x then (k : Int) else lastTo xs x k

theorem lastTo_hit {xs : List Int} {x : Int} {k : Nat} (h : xs[k]? = some x) : lastTo xs x (k + 1) = (k : Int) := by simp [lastTo, h]

theorem lastTo_miss {xs : List Int} {x : Int} {k : Nat} (h : ¬ xs[k]? = some x) : lastTo xs x (k + 1) = lastTo xs x k := by simp [lastTo, h]

theorem lastTo_ge (xs : List Int) (x : Int) (k : Nat) : -1 ≤ lastTo xs x k ∧ lastTo xs x k < k := by
  induction k with
  | zero => simp [lastTo]
  | succ k ih =>
    unfold lastTo
    split <;> omega

theorem lastTo_none {xs : List Int} {x : Int} {k : Nat} : lastTo xs x k = -1 ↔ ∀ i, i < k → ¬ xs[i]? = some x := by
  induction k with
  | zero => simp [lastTo]
  | succ k ih =>
    unfold lastTo
    split
    · rename_i h
      constructor
      · intro e; omega
      · intro h9; exact absurd h (h9 k (by omega))
    · rename_i h
      rw [ih]
      constructor
      · intro h9 i hi
        by_cases e : i = k
        · subst e; exact h
        · exact h9 i (by omega)
      · intro h9 i hi
        exact h9 i (by omega)

set_option maxHeartbeats 2000000 in
set_option maxRecDepth 20000 in
theorem l12In_any (xs : List Int) (n : Nat) (HN : Hid (xs.length = n)) (hn : n ≤ 60000) (ao : Option Addr) (cap : Nat) (x : Int) (w : World) (hS : Nums w ao xs) :
    Calls Try.prog 67 #[.slice ao n cap, .int .i64 x] w fun e w' => e = .returned (.int .i64 (lastTo xs x n)) ∧ w' = w := by
  go_enter Try.func67, Try.ntmps67
  go_wp2
  go_loop [5] (fun vi => ∃ k : Nat, k ≤ n ∧ vi = .int .i64 ((k : Int) - 1) ∧ Hid (lastTo xs x n = lastTo xs x k)) (fun vi => ((intOf vi) + 1).toNat)
  case atStart => exact ⟨n, Nat.le_refl _, rfl, rfl⟩
  case round =>
    obtain ⟨k, hk, rfl, hh⟩ := hrel
    by_cases h0 : k = 0
    · subst h0
      have HV : Hid (lastTo xs x n = -1) := hh.out
      clear hh hS
      go_wp2
      go_ret
      exact ⟨by rw [HV.out]; rfl, rfl⟩
    · obtain ⟨j, rfl⟩ : ∃ j, k = j + 1 := ⟨k - 1, by omega⟩
      have hj : j < xs.length := by have := HN.out; omega
      obtain ⟨b, o, rfl, hc⟩ := hS j hj
      obtain ⟨y, hy⟩ : ∃ y, xs[j] = y := ⟨_, rfl⟩
      rw [hy] at hc
      have ej : ((j + 1 : Nat) : Int) - 1 = (j : Int) := by omega
      rw [ej]
      by_cases hxy : y = x
      · have HV : Hid (lastTo xs x n = (j : Int)) := by
          rw [hh.out]
          exact lastTo_hit (by rw [List.getElem?_eq_getElem hj, hy, hxy])
        have t1 : (y == x) = true := by simpa using hxy
        clear hh hS hy hxy
        go_wp2
        go_ret
        exact ⟨by rw [HV.out]; rfl, rfl⟩
      · have HV : Hid (lastTo xs x n = lastTo xs x j) := by
          rw [hh.out]
          exact lastTo_miss (by rw [List.getElem?_eq_getElem hj, hy]; simpa using hxy)
        have t1 : (y == x) = false := by simpa using hxy
        clear hh hS hy
        go_wp2
        refine ⟨⟨j, by omega, rfl, HV⟩, ?_⟩
        simp [intOf]

end Go.Proofs.Ytocidoamfofefaa
