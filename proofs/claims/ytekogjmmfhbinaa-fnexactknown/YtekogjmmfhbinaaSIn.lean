import Derived.Test.YtekogjmmfhbinaaFMath
import Derived.Test.YtekogjmmfhbinaaWAA
import Derived.Test.YtekogjmmfhbinaaOwn
namespace Go.Proofs.Ytekogjmmfhbinaa

open Go.RowKit

/-- A slice of strings. -/
def Strs (w : World) (ao : Option Addr) (L : List ByteArray) : Prop := ∀ i (h : i < L.length), ∃ b o, ao = some ⟨b, o, none⟩ ∧ w.cell? ⟨b, o + i, none⟩ = some (.string L[i])

theorem anyS_true {α : Type} {p : α → Bool} {xs : List α} (k : Nat) (h : k < xs.length) (hf : p xs[k] = true) : xs.any p = true :=
  List.any_eq_true.2 ⟨_, List.getElem_mem h, hf⟩

theorem takeS_any {α : Type} {p : α → Bool} {xs : List α} (k : Nat) (h : k < xs.length) (ht : p xs[k] = false) (ha : (xs.take k).any p = false) : (xs.take (k + 1)).any p = false := by
  rw [List.take_succ_eq_append_getElem h, List.any_append, ha]
  simp [ht]

set_option maxHeartbeats 2000000 in
set_option maxRecDepth 20000 in
theorem in_any (L : List ByteArray) (n : Nat) (HL : Hid (L.length = n)) (hn : n ≤ 1000) (ao : Option Addr) (cap : Nat) (s : ByteArray) (w : World) (hS : Strs w ao L) :
    Calls Try.prog 43 #[.slice ao n cap, .string s] w fun e w' => e = .returned (.bool (L.any fun o => o.toList == s.toList)) ∧ w' = w := by
  go_enter Try.func43, Try.ntmps43
  go_wp2
  go_loop [5] (fun vi => ∃ k : Nat, k ≤ n ∧ vi = .int .i64 (k : Int) ∧ (L.take k).any (fun o => o.toList == s.toList) = false) (fun vi => n - (intOf vi).toNat)
  case atStart => exact ⟨0, Nat.zero_le _, rfl, by simp⟩
  case round =>
    obtain ⟨k, hk, rfl, hall⟩ := hrel
    by_cases hlt : k < n
    · have hltx : k < L.length := by have := HL.out; omega
      obtain ⟨x, hxk⟩ : ∃ x, L[k] = x := ⟨_, rfl⟩
      obtain ⟨b, o, rfl, hc⟩ := hS k hltx
      rw [hxk] at hc
      have HXK : Hid (L[k] = x) := hxk
      clear hxk hS
      cases hq : (x.toList == s.toList)
      · have HA : Hid ((L.take (k + 1)).any (fun o => o.toList == s.toList) = false) := takeS_any k hltx (by rw [HXK.out]; exact hq) hall
        clear hall
        go_wp2
        refine ⟨⟨k + 1, by omega, by push_cast; rfl, HA.out⟩, ?_⟩
        simp [intOf]; omega
      · have HA : Hid (L.any (fun o => o.toList == s.toList) = true) := anyS_true k hltx (by rw [HXK.out]; exact hq)
        clear hall
        go_wp2
        go_ret
        exact ⟨by rw [HA.out]; rfl, rfl⟩
    · have HA : Hid (L.any (fun o => o.toList == s.toList) = false) := by
        have h9 := hall
        rw [List.take_of_length_le (by have := HL.out; omega)] at h9
        exact h9
      clear hall hS
      go_wp2
      go_ret
      exact ⟨by rw [HA.out]; rfl, rfl⟩

/-- The operators, as the model keeps them. -/
def opsB : List ByteArray := [⟨#[58, 61]⟩, ⟨#[61]⟩, ⟨#[60, 62]⟩, ⟨#[60]⟩, ⟨#[60, 61]⟩, ⟨#[62]⟩, ⟨#[62, 61]⟩, ⟨#[94]⟩, ⟨#[43]⟩, ⟨#[45]⟩, ⟨#[42]⟩, ⟨#[47]⟩, ⟨#[37]⟩]

theorem beq_comm' (a b : List UInt8) : (a == b) = (b == a) := by
  by_cases h : a = b
  · subst h; rfl
  · rw [beq_eq_false_iff_ne.2 h, beq_eq_false_iff_ne.2 (fun e => h e.symm)]

theorem ops_same (s : ByteArray) : (opsB.any fun o => o.toList == s.toList) = opsL.any (fun o => s.toList == o) := by
  have e : opsL = opsB.map ByteArray.toList := by kernel_rfl
  rw [e, List.any_map]
  congr 1
  funext o
  exact beq_comm' _ _

set_option maxHeartbeats 2000000 in
set_option maxRecDepth 20000 in
theorem operators_any (w : World) :
    Calls Try.prog 44 #[] w fun e w' => ∃ g cap, e = .returned (.slice (some ⟨g, 0, none⟩) 13 cap) ∧ Strs w' (some ⟨g, 0, none⟩) opsB ∧ Below w.heap.size w w' := by
  go_enter Try.func44, Try.ntmps44
  go_wp2
  go_ret
  refine ⟨_, _, rfl, ?_, (Below.refl _ _).alloc (Nat.le_refl _) _⟩
  intro i h
  refine ⟨_, _, rfl, ?_⟩
  match i, h with
  | 0, _ => simp; rfl
  | 1, _ => simp; rfl
  | 2, _ => simp; rfl
  | 3, _ => simp; rfl
  | 4, _ => simp; rfl
  | 5, _ => simp; rfl
  | 6, _ => simp; rfl
  | 7, _ => simp; rfl
  | 8, _ => simp; rfl
  | 9, _ => simp; rfl
  | 10, _ => simp; rfl
  | 11, _ => simp; rfl
  | 12, _ => simp; rfl
  | n + 13, h => exact absurd h (by simp [opsB])

end Go.Proofs.Ytekogjmmfhbinaa
