
import Derived.Test.YtocidoamfofefaaMark2
namespace Go.Proofs.Ytocidoamfofefaa
open Go.RowKit

set_option maxHeartbeats 1000000 in
theorem heldNodeS_any (n g cap k : Nat) (w : World) (hr : Row w g (marks k n)) (hn : n ≤ 1048577) (hk : k ≤ 100000000) (hk0 : 0 < k) :
    Calls Try.prog 17 #[.slice (some ⟨g, 0, none⟩) n cap, .int .i64 k] w fun e w' =>
      e = .returned (.int .i64 (k + 5 * n : Nat)) ∧ Below w.heap.size w w' := by
  go_enter Try.func17, Try.ntmps17
  go_wp2
  go_loopw [1, 5] (fun a i wr => ∃ (j : Nat), j ≤ n ∧ i = .int .i64 j ∧ a = .int .i64 (k + 5 * j : Nat) ∧ Below w.heap.size w wr) (fun _ i _ => n - (intOf i).toNat)
  case atStart => exact ⟨0, Nat.zero_le _, rfl, rfl, Below.refl _ _⟩
  case round =>
    obtain ⟨j, hj, rfl, rfl, hb⟩ := hrel
    by_cases hlt : j < n
    · have hrow := hr.below hb
      have hl : j < (marks k n).length := by rw [marks_length]; exact hlt
      obtain ⟨q, hq⟩ : ∃ q : Nat, k + 5 * j = q := ⟨_, rfl⟩
      have HQ : Hid (k + 5 * j = q) := hq
      have hq1 : q ≤ 200000000 := by omega
      obtain ⟨c0, c1, c2, c3, c4⟩ := hrow.node j hl
      rw [marks_get, hq] at c0 c1 c2 c3 c4
      simp only [mk] at c0 c1 c2 c3 c4
      have hlb : g < wr.heap.size := hrow.lt
      rw [hq]
      clear hl hq hr hrow
      go_wp2_with fail
      go_region_with (go_at_call 35; refine (markText_int ((q : Int) + 1 + 1) (q + 2) (by omega) (by omega) (by omega) _).mono ?_; rintro e w1 ⟨rfl, hb1⟩; have hc1 := bcell_drew hb1)
      all_goals
        have hbb := Below.step hb (undrew hb1)
        clear hb hb1
        go_wp2
        go_roundw
        case rel => exact ⟨j + 1, by omega, by go_num, by have := HQ.out; congr 1; omega, hbb⟩
        case measure => simp [intOf]; omega
    · have hje : j = n := by omega
      subst hje
      clear hr
      go_wp2
      go_ret
      exact ⟨rfl, hb⟩

end Go.Proofs.Ytocidoamfofefaa
