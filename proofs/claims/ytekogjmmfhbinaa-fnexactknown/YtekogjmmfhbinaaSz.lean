
import Derived.Test.YtekogjmmfhbinaaLeaf
namespace Go.Proofs.Ytekogjmmfhbinaa
open Go.RowKit

theorem szNode_ex (x : Nd) (left : Int) (w : World) (hs : x.text.size ≤ maxLen) (h0 : 0 ≤ left) (h1 : left ≤ 1048576) :
    Calls Try.prog 14 #[.agg #[.int .i64 x.kind, .int .i64 x.num, .string x.text, .int .i64 x.kids, .int .i64 x.place], .int .i64 left] w fun e w' =>
      (∃ r : Int, e = .returned (.int .i64 r) ∧ (r = -1 ∨ (0 ≤ r ∧ r ≤ left))) ∧ Below w.heap.size w w' := by
  refine (szNode_any x left w hs h0 h1).mono ?_
  rintro e w' ⟨rfl, hb⟩
  refine ⟨⟨_, rfl, ?_⟩, hb⟩
  split
  · exact Or.inl rfl
  · right; omega

set_option maxHeartbeats 400000 in
theorem szNodeS_any (xs : List Nd) (ao : Option Addr) (cap : Nat) (left : Int) (w : World) (hx : Nodes w ao xs) (hs : ∀ x ∈ xs, x.text.size ≤ maxLen) (hlen : xs.length ≤ 9223372036854775807) (h0 : 0 ≤ left) (h1 : left ≤ 1048576) :
    Calls Try.prog 7 #[.slice ao xs.length cap, .int .i64 left] w fun e w' =>
      (∃ r : Int, e = .returned (.int .i64 r) ∧ (r = -1 ∨ (0 ≤ r ∧ r ≤ left - xs.length))) ∧ Below w.heap.size w w' := by
  by_cases hl : left < xs.length
  · go_enter Try.func7, Try.ntmps7
    go_wp2
    go_ret
    exact ⟨⟨-1, rfl, Or.inl rfl⟩, Below.refl _ _⟩
  · go_enter Try.func7, Try.ntmps7
    go_wp2
    go_loopw [1, 5] (fun l i wr => ∃ (k : Nat) (r : Int), k ≤ xs.length ∧ i = .int .i64 k ∧ l = .int .i64 r ∧ 0 ≤ r ∧ r ≤ left - xs.length ∧ Below w.heap.size w wr) (fun _ i _ => xs.length - (intOf i).toNat)
    case atStart => exact ⟨0, _, Nat.zero_le _, rfl, rfl, by omega, by omega, Below.refl _ _⟩
    case round =>
      obtain ⟨k, r, hk, rfl, rfl, hr0, hr1, hb⟩ := hrel
      by_cases hlt : k < xs.length
      · obtain ⟨b, o, rfl, hn⟩ := hx.below hb k hlt
        have hsk := hs xs[k] (List.getElem_mem hlt)
        obtain ⟨c0, c1, c2, c3, c4⟩ := hn
        clear hx hs
        go_wp2_with fail
        refine (szNode_ex xs[k] r wr hsk hr0 (by omega)).mono ?_
        rintro e w1 ⟨⟨r', rfl, hr'⟩, hb1⟩
        rcases hr' with hr' | ⟨hr2, hr3⟩
        · subst hr'
          go_wp2
          go_ret
          exact ⟨⟨-1, rfl, Or.inl rfl⟩, Below.step hb hb1⟩
        · have hbb := Below.step hb hb1
          clear hb1 hb c0 c1 c2 c3 c4
          go_wp2
          go_roundw
          case rel => exact ⟨k + 1, r', by omega, by go_num, rfl, hr2, by omega, hbb⟩
          case measure => simp [intOf]; omega
      · go_wp2
        go_ret
        exact ⟨⟨r, rfl, Or.inr ⟨hr0, hr1⟩⟩, hb⟩

end Go.Proofs.Ytekogjmmfhbinaa
