import Derived.Test.YtekogjmmfhbinaaFMath
import Derived.Test.YtekogjmmfhbinaaWAA
namespace Go.Proofs.Ytekogjmmfhbinaa

open Go.RowKit

set_option maxHeartbeats 2000000 in
set_option maxRecDepth 20000 in
theorem letter_any (k : Int) (w : World) :
    Calls Try.prog 28 #[.int .i64 k] w fun e w' => e = .returned (.int .u8 (letK k : Int)) ∧ w' = w := by
  unfold letK
  by_cases h1 : k = 84
  · subst h1
    go_enter Try.func28, Try.ntmps28
    go_wp2
    go_ret
    exact ⟨rfl, rfl⟩
  have t1 : (k == 84) = false := by simpa using h1
  by_cases h2 : k = 82
  · subst h2
    go_enter Try.func28, Try.ntmps28
    go_wp2
    go_ret
    exact ⟨rfl, rfl⟩
  have t2 : (k == 82) = false := by simpa using h2
  by_cases h3 : k = 90 ∨ k = 91 ∨ k = 15 ∨ k = 17 ∨ k = 18 ∨ k = 19 ∨ k = 20
  · rcases h3 with rfl | rfl | rfl | rfl | rfl | rfl | rfl
    all_goals
      go_enter Try.func28, Try.ntmps28
      go_wp2
      go_ret
      exact ⟨rfl, rfl⟩
  have u1 : (k == 90) = false := by simp; omega
  have u2 : (k == 91) = false := by simp; omega
  have u3 : (k == 15) = false := by simp; omega
  have u4 : (k == 17) = false := by simp; omega
  have u5 : (k == 18) = false := by simp; omega
  have u6 : (k == 19) = false := by simp; omega
  have u7 : (k == 20) = false := by simp; omega
  rw [if_neg h1, if_neg h2, if_neg h3]
  by_cases h4 : 70 ≤ k ∧ k ≤ 89
  · have v1 : decide (k ≥ 70) = true := decide_eq_true h4.1
    have v2 : decide (k ≤ 89) = true := decide_eq_true h4.2
    rw [if_pos h4]
    go_enter Try.func28, Try.ntmps28
    go_wp2
    go_ret
    exact ⟨rfl, rfl⟩
  rw [if_neg h4]
  by_cases h5 : k = 60 ∨ k = 12 ∨ k = 13 ∨ k = 14
  · rw [if_pos h5]
    rcases h5 with rfl | rfl | rfl | rfl
    all_goals
      go_enter Try.func28, Try.ntmps28
      go_wp2
      go_ret
      exact ⟨rfl, rfl⟩
  have x1 : (k == 60) = false := by simp; omega
  have x2 : (k == 12) = false := by simp; omega
  have x3 : (k == 13) = false := by simp; omega
  have x4 : (k == 14) = false := by simp; omega
  rw [if_neg h5]
  by_cases h6 : k = 62
  · subst h6
    go_enter Try.func28, Try.ntmps28
    go_wp2
    go_ret
    exact ⟨rfl, rfl⟩
  have x5 : (k == 62) = false := by simpa using h6
  rw [if_neg h6]
  by_cases h7 : 70 ≤ k
  · have v1 : decide (k ≥ 70) = true := decide_eq_true h7
    have v2 : decide (k ≤ 89) = false := decide_eq_false (by omega)
    go_enter Try.func28, Try.ntmps28
    go_wp2
    go_ret
    exact ⟨rfl, rfl⟩
  · have v1 : decide (k ≥ 70) = false := decide_eq_false h7
    go_enter Try.func28, Try.ntmps28
    go_wp2
    go_ret
    exact ⟨rfl, rfl⟩

theorem letK_lt (k : Int) : letK k < 256 := by
  unfold letK
  repeat' split
  all_goals omega

set_option maxHeartbeats 2000000 in
set_option maxRecDepth 20000 in
theorem is_any (k : Int) (c : Nat) (hc : c < 256) (w : World) :
    Calls Try.prog 45 #[.int .i64 k, .int .u8 (c : Int)] w fun e w' => e = .returned (.bool (isK k c)) ∧ w' = w := by
  have hl := letK_lt k
  have HL := letter_any k w
  unfold isK
  obtain ⟨l, hle⟩ : ∃ l, letK k = l := ⟨_, rfl⟩
  rw [hle] at HL hl ⊢
  clear hle
  by_cases h1 : l = c
  · subst h1
    go_enter Try.func45, Try.ntmps45
    go_wp2_with fail
    refine HL.mono ?_
    rintro e w1 ⟨rfl, rfl⟩
    clear HL
    go_wp2
    go_ret
    exact ⟨by simp, rfl⟩
  · have t1 : ((l : Int) == (c : Int)) = false := by simp; omega
    have t1n : (l == c) = false := by simpa using h1
    by_cases h2 : c = 115
    · subst h2
      by_cases h3 : l = 116
      · subst h3
        go_enter Try.func45, Try.ntmps45
        go_wp2_with fail
        refine HL.mono ?_
        rintro e w1 ⟨rfl, rfl⟩
        clear HL
        go_wp2
        go_ret
        exact ⟨by simp, rfl⟩
      · have t3 : ((l : Int) == 116) = false := by simp; omega
        have t3n : (l == 116) = false := by simpa using h3
        go_enter Try.func45, Try.ntmps45
        go_wp2_with fail
        refine HL.mono ?_
        rintro e w1 ⟨rfl, rfl⟩
        clear HL
        go_wp2
        go_ret
        exact ⟨by (simp [t1n, t3n]) <;> omega, rfl⟩
    · have t2 : ((c : Int) == 115) = false := by simp; omega
      have t2n : (c == 115) = false := by simpa using h2
      go_enter Try.func45, Try.ntmps45
      go_wp2_with fail
      refine HL.mono ?_
      rintro e w1 ⟨rfl, rfl⟩
      clear HL
      go_wp2
      go_ret
      exact ⟨by simp [t1n, t2n], rfl⟩

end Go.Proofs.Ytekogjmmfhbinaa
