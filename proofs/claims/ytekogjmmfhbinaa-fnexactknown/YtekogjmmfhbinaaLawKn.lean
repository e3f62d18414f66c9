
import Derived.Test.YtekogjmmfhbinaaSz
import Derived.Test.YtekogjmmfhbinaaTo
import Derived.Test.YtekogjmmfhbinaaEq
import Derived.Test.YtekogjmmfhbinaaKnE
namespace Go.Proofs.Ytekogjmmfhbinaa
open Go.RowKit

theorem alike_sameK (xs : List Nd) : Alike Nd.eqb xs xs := ⟨rfl, fun _ _ _ => Nd.eqb_refl _⟩

set_option maxHeartbeats 1000000 in
theorem lawKnown (xs : List Nd) (ao : Option Addr) (cap : Nat) (w : World) (hx : Nodes w ao xs)
    (hsx : ∀ x ∈ xs, x.text.size ≤ maxLen) (hlx : xs.length ≤ 9223372036854775807) :
    Calls Try.prog 4 #[.slice ao xs.length cap] w fun e w' => e = .returned (.bool true) ∧ Below w.heap.size w w' := by
  go_enter Try.func4, Try.ntmps4
  go_wp2_with fail
  refine (szNodeS_any xs ao cap 1048576 w hx hsx hlx (by omega) (by omega)).mono ?_
  rintro e w1 ⟨⟨r, rfl, hr⟩, b1⟩
  have hx := hx.below b1
  rcases hr with hr | ⟨hr0, hr1⟩
  · subst hr
    go_wp2
    go_ret
    exact ⟨rfl, b1⟩
  have lx : xs.length ≤ 1048576 := by omega
  obtain ⟨l, hl⟩ : ∃ l, xs.length = l := ⟨_, rfl⟩
  have HL : Hid (xs.length = l) := hl
  have hx1 := hx
  rw [hl] at lx ⊢
  clear hl hr1 hlx hsx hx
  have toN : ∀ W, Nodes W ao xs → Calls Try.prog 9 #[.slice ao l cap] W fun e w' => ∃ g, e = .returned (.slice (some ⟨g, 0, none⟩) l l) ∧ W.heap.size ≤ g ∧ Row w' g xs ∧ Below W.heap.size W w' := by
    intro W hW
    have h9 := toNodeS_any xs ao cap W hW (by have := HL.out; omega)
    rw [HL.out] at h9
    exact h9
  have TON : Hid (∀ W, Nodes W ao xs → Calls Try.prog 9 #[.slice ao l cap] W fun e w' => ∃ g, e = .returned (.slice (some ⟨g, 0, none⟩) l l) ∧ W.heap.size ≤ g ∧ Row w' g xs ∧ Below W.heap.size W w') := toN
  clear toN
  go_wp2_with fail
  refine (TON.out w1 hx1).mono ?_
  rintro e w2 ⟨g1, rfl, _, R1, b2⟩
  have hx2 := hx1.below b2
  have b2 := Below.step b1 b2
  clear b1 hx1
  go_wp2_with fail
  refine (specKnown_any xs l HL lx _ _ w2 R1.nodes).mono ?_
  rintro e w3 ⟨⟨c1, rfl, hc1⟩, b3⟩
  have hx3 := hx2.below b3
  have b3 := Below.step b2 b3
  clear b2 hx2 R1
  go_wp2_with fail
  refine (TON.out w3 hx3).mono ?_
  rintro e w4 ⟨g2, rfl, _, R2, b4⟩
  have hx4 := hx3.below b4
  have b4 := Below.step b3 b4
  clear b3 hx3
  go_wp2_with fail
  refine (implKnown_any xs l HL lx _ _ w4 R2.nodes).mono ?_
  rintro e w5 ⟨⟨c2, rfl, hc2⟩, b5⟩
  obtain rfl : c1 = c2 := by rw [Bool.eq_iff_iff, hc1, hc2]
  clear hc1 hc2
  have hx5 := hx4.below b5
  have R2 := R2.below b5
  have b5 := Below.step b4 b5
  clear b4 hx4
  go_wp2_with fail
  refine (TON.out w5 hx5).mono ?_
  rintro e w6 ⟨g3, rfl, _, R3, b6⟩
  have R2 := R2.below b6
  have b6 := Below.step b5 b6
  clear b5 hx5
  go_wp2_with fail
  refine (eqNodeS_any xs xs l l HL HL _ _ _ _ w6 R2.nodes R3.nodes (by omega) (by omega)).mono ?_
  rintro e w7 ⟨⟨u, rfl, hu⟩, b7⟩
  have hu1 : u = true := hu.2 (alike_sameK xs)
  subst hu1
  have b7 := Below.step b6 b7
  clear b6 hu R2 R3
  go_wp2
  go_ret
  exact ⟨rfl, b7⟩

end Go.Proofs.Ytekogjmmfhbinaa
