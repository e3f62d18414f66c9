
import Derived.Test.YtekogjmmfhbinaaChecked
import Derived.WalkKit
import Derived.Lib.Walk
import Derived.Lib.Strings
import Derived.Lib.Bytealg
import Derived.Lib.LastIndexByte
import Derived.BigCall
import Derived.BigGuard
namespace Go.Proofs.Ytekogjmmfhbinaa
open Go.RowKit Go.Lib

/-- Line and column behind the first k bytes of s. -/
def lcOf (s : ByteArray) : Nat → Nat × Nat
  | 0 => (1, 1)
  | k + 1 => if s.data[k]! = 10 then ((lcOf s k).1 + 1, 1) else ((lcOf s k).1, (lcOf s k).2 + 1)

theorem byteBang (s : ByteArray) (j : Nat) (hj : j < s.size) : s.data[j]! = s[j] := by
  rw [getElem!_pos s.data j (by simpa using hj)]; rfl

theorem lc_le (s : ByteArray) : ∀ k, (lcOf s k).1 ≤ k + 1 ∧ (lcOf s k).2 ≤ k + 1
  | 0 => by simp [lcOf]
  | k + 1 => by
    have ih := lc_le s k
    unfold lcOf
    split <;> simp <;> omega

theorem lc_count (s : ByteArray) : ∀ k, k ≤ s.size → ((lcOf s k).1 = 1 + countByte (s.data.toList.take k) 10)
  | 0, _ => by simp [lcOf, countByte]
  | k + 1, h => by
    have ih := lc_count s k (by omega)
    have hk : k < s.data.toList.length := Nat.lt_of_lt_of_eq (Nat.lt_of_succ_le h) (Array.length_toList (xs := s.data)).symm
    rw [List.take_succ_eq_append_getElem hk]
    have e : s.data[k]! = s.data.toList[k] := by
      rw [getElem!_pos s.data k (Nat.lt_of_succ_le h)]; simp
    unfold lcOf countByte
    rw [List.count_append, e]
    unfold countByte at ih
    split
    · rename_i h1
      rw [h1]
      simp
      omega
    · rename_i h1
      have : List.count (10 : UInt8) [s.data.toList[k]] = 0 := by
        rw [List.count_eq_zero]
        intro h2
        simp at h2
        apply h1
        simp
        exact h2.symm
      rw [this]
      simpa using ih

theorem lc_last (s : ByteArray) : ∀ k, k ≤ s.size → (((lcOf s k).2 : Nat) : Int) = (k : Int) - lastIdx s 10 k
  | 0, _ => by simp [lcOf, lastIdx]
  | k + 1, h => by
    have ih := lc_last s k (by omega)
    unfold lcOf lastIdx
    by_cases h1 : s.data[k]! = 10
    · rw [if_pos h1, if_pos (by rw [h1]; rfl)]
      push_cast; omega
    · rw [if_neg h1, if_neg (by intro h2; apply h1; exact UInt8.toNat_inj.1 (by have h3 : ((10 : UInt8).toNat) = 10 := rfl; omega))]
      push_cast; omega

theorem last_extract (s : ByteArray) (n : Nat) (hn : n ≤ s.size) (c : Int) : ∀ k, k ≤ n → lastIdx (s.extract 0 n) c k = lastIdx s c k
  | 0, _ => rfl
  | k + 1, h => by
    have ih := last_extract s n hn c k (by omega)
    have e : (s.extract 0 n).data[k]! = s.data[k]! := by
      have h1 : k < (s.extract 0 n).data.size := by
        have : (s.extract 0 n).size = n := by rw [ByteArray.size_extract]; omega
        exact Nat.lt_of_lt_of_eq (by omega : k < n) this.symm
      rw [getElem!_pos _ k h1, getElem!_pos s.data k (by have : s.data.size = s.size := rfl; omega)]
      simp [ByteArray.data_extract]
    unfold lastIdx
    rw [e, ih]

set_option maxHeartbeats 1000000 in
set_option maxRecDepth 100000 in
theorem count_one (s : ByteArray) (c : UInt8) (w : World) :
    Calls Try.prog 12 #[.string s, .string ⟨#[c]⟩] w fun e w' => e = .returned (.int .i64 (countByte s.data.toList c)) ∧ w' = w := by
  go_enter Try.func12, Try.ntmps12
  go_wp2
  rw [run_callFunc_extern Try.func24 (by kernel_rfl) (by kernel_rfl) (by kernel_rfl) (e := Extern.BytealgCount.count) (by kernel_rfl), Lib.run_countString]
  simp only [Result.andThen]
  rw [Oper.upon_value]
  go_wp2
  go_ret
  exact ⟨rfl, rfl⟩

set_option maxHeartbeats 1000000 in
set_option maxRecDepth 100000 in
theorem lastByte_any (s : ByteArray) (c : Int) (hs : s.size < 4611686018427387904) (w : World) :
    Calls Try.prog 26 #[.string s, .int .u8 c] w fun e w' => e = .returned (.int .i64 (Lib.lastIndexByte s c)) ∧ w' = w := by
  go_enter Try.func26, Try.ntmps26
  go_wp2
  go_loop [5] (fun vi => ∃ k : Nat, k ≤ s.size ∧ vi = .int .i64 ((k : Int) - 1) ∧ Hid (Lib.lastIndexByte s c = Lib.lastIdx s c k)) (fun vi => ((RowKit.intOf vi) + 1).toNat)
  case atStart => exact ⟨s.size, Nat.le_refl _, by first | rfl | go_num | (congr 1; omega), rfl⟩
  case round =>
    obtain ⟨k, hk, rfl, hh⟩ := hrel
    go_wp2
    · have hc : (((s[k - 1]).toNat : Int) == c) = true := by assumption
      have k1 : 1 ≤ k := by omega
      have e1 : Lib.lastIdx s c k = ((k - 1 : Nat) : Int) := by
        have := Lib.lastIdx_hit s c (k - 1) (by rw [byteBang s (k - 1) (by omega)]; simpa using hc)
        rwa [show k - 1 + 1 = k by omega] at this
      have e2 : ((k - 1 : Nat) : Int) = (k : Int) - 1 := by omega
      go_ret
      rw [hh.out, e1, e2]
      exact ⟨rfl, rfl⟩
    · have hc : (((s[k - 1]).toNat : Int) == c) = false := by assumption
      have k1 : 1 ≤ k := by omega
      have e1 : Lib.lastIdx s c k = Lib.lastIdx s c (k - 1) := by
        have := Lib.lastIdx_miss s c (k - 1) (by rw [byteBang s (k - 1) (by omega)]; simpa using hc)
        rwa [show k - 1 + 1 = k by omega] at this
      refine ⟨⟨k - 1, by omega, by congr 1; omega, hh.out.trans e1⟩, ?_⟩
      simp [RowKit.intOf]; omega
    · have k0 : k = 0 := by omega
      subst k0
      go_ret
      rw [hh.out]
      exact ⟨rfl, rfl⟩

set_option maxHeartbeats 1000000 in
set_option maxRecDepth 100000 in
theorem last_one (s : ByteArray) (c : UInt8) (hs : s.size < 4611686018427387904) (w : World) :
    Calls Try.prog 13 #[.string s, .string ⟨#[c]⟩] w fun e w' => e = .returned (.int .i64 (Lib.lastIndexByte s (c.toNat : Int))) ∧ w' = w := by
  go_enter Try.func13, Try.ntmps13
  go_wp2_with fail
  refine (lastByte_any s _ hs w).mono ?_
  rintro e w' ⟨rfl, rfl⟩
  go_wp2
  go_ret
  exact ⟨rfl, rfl⟩

set_option maxHeartbeats 1000000 in
set_option maxRecDepth 100000 in
theorem specPlace_any (s : ByteArray) (v : Int) (hs : s.size ≤ 1048576) (w : World) :
    Calls Try.prog 5 #[.string s, .int .i64 v] w fun e w' => e = .returned (.tuple (if v < 0 ∨ (s.size : Int) < v then #[.int .i64 0, .int .i64 0] else #[.int .i64 ((lcOf s v.toNat).1 : Int), .int .i64 ((lcOf s v.toNat).2 : Int)])) ∧ w' = w := by
  by_cases h0 : v < 0
  · rw [if_pos (Or.inl h0)]
    go_enter Try.func5, Try.ntmps5
    go_wp2
    go_ret2
    exact ⟨rfl, rfl⟩
  by_cases h1 : (s.size : Int) < v
  · rw [if_pos (Or.inr h1)]
    go_enter Try.func5, Try.ntmps5
    go_wp2
    go_ret2
    exact ⟨rfl, rfl⟩
  rw [if_neg (by omega)]
  obtain ⟨n, rfl⟩ : ∃ n : Nat, v = (n : Int) := ⟨v.toNat, by omega⟩
  rw [Int.toNat_natCast]
  have hn : n ≤ s.size := by omega
  go_enter Try.func5, Try.ntmps5
  go_wp2
  go_loop [6, 7, 8] (fun vl vc vi => ∃ k : Nat, k ≤ n ∧ vi = .int .i64 (k : Int) ∧ vl = .int .i64 ((lcOf s k).1 : Int) ∧ vc = .int .i64 ((lcOf s k).2 : Int)) (fun _ _ vi => n - (RowKit.intOf vi).toNat)
  case atStart => exact ⟨0, by omega, rfl, rfl, rfl⟩
  case round =>
    obtain ⟨k, hk, rfl, rfl, rfl⟩ := hrel
    have hl := lc_le s k
    obtain ⟨l, el⟩ : ∃ l, (lcOf s k).1 = l := ⟨_, rfl⟩
    obtain ⟨c, ec⟩ : ∃ c, (lcOf s k).2 = c := ⟨_, rfl⟩
    rw [el, ec] at hl ⊢
    by_cases hlt : k < n
    · have hks : k < s.size := by omega
      by_cases h10 : s.data[k]! = 10
      · have e1 : lcOf s (k + 1) = (l + 1, 1) := by rw [lcOf, if_pos h10, el]
        have hc : (((s[k]).toNat : Int) == 10) = true := by rw [← byteBang s k hks, h10]; rfl
        go_wp2
        refine ⟨⟨k + 1, by omega, by push_cast; rfl, by rw [e1]; push_cast; rfl, by rw [e1]; rfl⟩, ?_⟩
        simp [RowKit.intOf]; omega
      · have e1 : lcOf s (k + 1) = (l, c + 1) := by rw [lcOf, if_neg h10, el, ec]
        have hc : (((s[k]).toNat : Int) == 10) = false := by
          rw [← byteBang s k hks]
          simp
          intro h2
          exact h10 (UInt8.toNat_inj.1 (by have h3 : ((10 : UInt8).toNat) = 10 := rfl; omega))
        go_wp2
        refine ⟨⟨k + 1, by omega, by push_cast; rfl, by rw [e1], by rw [e1]; push_cast; rfl⟩, ?_⟩
        simp [RowKit.intOf]; omega
    · obtain rfl : k = n := by omega
      go_wp2
      go_ret2
      exact ⟨rfl, rfl⟩

set_option maxHeartbeats 1000000 in
set_option maxRecDepth 100000 in
theorem implPlace_any (s : ByteArray) (v : Int) (hs : s.size ≤ 1048576) (w : World) :
    Calls Try.prog 6 #[.string s, .int .i64 v] w fun e w' => e = .returned (.tuple (if v < 0 ∨ (s.size : Int) < v then #[.int .i64 0, .int .i64 0] else #[.int .i64 ((lcOf s v.toNat).1 : Int), .int .i64 ((lcOf s v.toNat).2 : Int)])) ∧ w' = w := by
  by_cases h0 : v < 0
  · rw [if_pos (Or.inl h0)]
    go_enter Try.func6, Try.ntmps6
    go_wp2
    go_ret2
    exact ⟨rfl, rfl⟩
  by_cases h1 : (s.size : Int) < v
  · rw [if_pos (Or.inr h1)]
    go_enter Try.func6, Try.ntmps6
    go_wp2
    go_ret2
    exact ⟨rfl, rfl⟩
  rw [if_neg (by omega)]
  obtain ⟨n, rfl⟩ : ∃ n : Nat, v = (n : Int) := ⟨v.toNat, by omega⟩
  rw [Int.toNat_natCast]
  have hn : n ≤ s.size := by omega
  have e1 : (((lcOf s n).1 : Nat) : Int) = 1 + ((countByte (s.extract 0 n).data.toList 10 : Nat) : Int) := by
    rw [lc_count s n hn]
    have : (s.extract 0 n).data.toList = s.data.toList.take n := by simp [ByteArray.data_extract]
    rw [this]; push_cast; rfl
  have hz : (s.extract 0 n).size = n := by rw [ByteArray.size_extract]; omega
  have e2 : (((lcOf s n).2 : Nat) : Int) = (n : Int) - Lib.lastIndexByte (s.extract 0 n) 10 := by
    rw [lc_last s n hn]
    unfold Lib.lastIndexByte
    rw [hz, last_extract s n hn 10 n (Nat.le_refl _)]
  have hl := lc_le s n
  rw [e1, e2]
  go_enter Try.func6, Try.ntmps6
  go_wp2_with fail
  refine (count_one (s.extract 0 n) 10 w).mono ?_
  rintro e w1 ⟨rfl, rfl⟩
  obtain ⟨a, ea⟩ : ∃ a : Nat, countByte (s.extract 0 n).data.toList 10 = a := ⟨_, rfl⟩
  rw [ea] at e1 ⊢
  go_wp2_with fail
  refine (last_one (s.extract 0 n) 10 (by omega) w1).mono ?_
  rintro e w2 ⟨rfl, rfl⟩
  rw [show (((10 : UInt8).toNat : Nat) : Int) = 10 from rfl]
  obtain ⟨b, eb⟩ : ∃ b : Int, Lib.lastIndexByte (s.extract 0 n) 10 = b := ⟨_, rfl⟩
  rw [eb] at e2 ⊢
  have h3 : 0 ≤ (n : Int) - b ∧ (n : Int) - b ≤ 1048577 := by omega
  have h4 : a ≤ 1048577 := by omega
  have h5 : n ≤ 1048577 := by omega
  have HA : Hid (countByte (s.extract 0 n).data.toList 10 = a) := ea
  have HB : Hid (Lib.lastIndexByte (s.extract 0 n) 10 = b) := eb
  clear e1 e2 ea eb hl h0 h1 hz hn
  generalize s.extract 0 n = S2
  go_wp2
  go_ret2
  refine ⟨?_, rfl⟩
  rw [HA.out, HB.out]
  rfl

end Go.Proofs.Ytekogjmmfhbinaa
