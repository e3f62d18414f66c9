
import Derived.Test.YtocidoamfofefaaYAB
import Derived.Test.YtocidoamfofefaaYAC
import Derived.Test.YtocidoamfofefaaSSs
namespace Go.Proofs.Ytocidoamfofefaa
open Go.RowKit

theorem alike_reflS (xs : List Nd) : Alike Nd.eqb xs xs := ⟨rfl, fun _ _ _ => Nd.eqb_refl _⟩

set_option maxHeartbeats 1000000 in
theorem lawSs (xs ys : List Nd) (ao bo : Option Addr) (cap cbp : Nat) (w : World) (hx : Nodes w ao xs) (hy : Nodes w bo ys)
    (hsx : ∀ x ∈ xs, x.text.size ≤ maxLen) (hsy : ∀ x ∈ ys, x.text.size ≤ maxLen) (hlx : xs.length ≤ 9223372036854775807) (hly : ys.length ≤ 9223372036854775807) (HWX : Hid (∀ x ∈ xs, (Lit.int .i64 x.num).wf = true)) (HWY : Hid (∀ x ∈ ys, (Lit.int .i64 x.num).wf = true)) :
    Calls Try.prog 6 #[.slice ao xs.length cap, .slice bo ys.length cbp] w fun e w' => e = .returned (.bool true) ∧ Below w.heap.size w w' := by
  go_enter Try.func6, Try.ntmps6
  go_wp2_with fail
  refine (szNodeS_any xs ao cap 1048576 w hx hsx hlx (by omega) (by omega)).mono ?_
  rintro e w1 ⟨⟨r, rfl, hr⟩, b1⟩
  have hx := hx.below b1
  have hy := hy.below b1
  rcases hr with hr | ⟨hr0, hr1⟩
  · subst hr
    go_wp2
    go_ret
    exact ⟨rfl, b1⟩
  go_wp2_with fail
  refine (szNodeS_any ys bo cbp r w1 hy hsy hly (by omega) (by omega)).mono ?_
  rintro e w2 ⟨⟨r', rfl, hr'⟩, b2⟩
  have hx := hx.below b2
  have hy := hy.below b2
  have b2 := Below.step b1 b2
  clear b1
  rcases hr' with hr' | ⟨hr2, hr3⟩
  · subst hr'
    go_wp2
    go_ret
    exact ⟨rfl, b2⟩
  have lx : xs.length ≤ 1048576 := by omega
  have ly : ys.length ≤ 1048576 := by omega
  go_wp2_with fail
  refine (toNodeS_any xs ao cap w2 hx lx).mono ?_
  rintro e w3 ⟨g1, rfl, _, R1, b3⟩
  have hx := hx.below b3
  have hy := hy.below b3
  have b3 := Below.step b2 b3
  clear b2
  go_wp2_with fail
  refine (toNodeS_any ys bo cbp w3 hy ly).mono ?_
  rintro e w4 ⟨g2, rfl, _, R2, b4⟩
  have hx := hx.below b4
  have hy := hy.below b4
  have R1 := R1.below b4
  have b4 := Below.step b3 b4
  clear b3
  go_wp2_with fail
  refine (specSS_any xs ys _ _ rfl rfl lx ly _ _ _ _ w4 R1.nodes R2.nodes).mono ?_
  rintro e w5 ⟨⟨s, rfl, hs⟩, b5⟩
  have HS : Hid (s = true ↔ SameS xs ys) := hs
  have hx := hx.below b5
  have hy := hy.below b5
  have b5 := Below.step b4 b5
  clear b4 R1 R2 hs
  go_wp2_with fail
  refine (toNodeS_any xs ao cap w5 hx lx).mono ?_
  rintro e w6 ⟨g3, rfl, _, R3, b6⟩
  have hx := hx.below b6
  have hy := hy.below b6
  have b6 := Below.step b5 b6
  clear b5
  go_wp2_with fail
  refine (toNodeS_any ys bo cbp w6 hy ly).mono ?_
  rintro e w7 ⟨g4, rfl, _, R4, b7⟩
  have hx := hx.below b7
  have hy := hy.below b7
  have R3 := R3.below b7
  have b7 := Below.step b6 b7
  clear b6
  go_wp2_with fail
  refine (implSS_any xs ys _ _ rfl rfl lx ly HWX HWY _ _ _ _ (Nat.le_refl _) (Nat.le_refl _) w7 R3.nodes R4.nodes).mono ?_
  rintro e w8 ⟨⟨t, rfl, ht⟩, b8⟩
  have ets : t = s := by
    rw [Bool.eq_iff_iff, ht, HS.out, same_eqS]
  subst ets
  have hx := hx.below b8
  have hy := hy.below b8
  have R3 := R3.below b8
  have R4 := R4.below b8
  have b8 := Below.step b7 b8
  clear b7 ht
  go_wp2_with fail
  refine (toNodeS_any xs ao cap w8 hx lx).mono ?_
  rintro e w9 ⟨g5, rfl, _, R5, b9⟩
  have hx := hx.below b9
  have hy := hy.below b9
  have R3 := R3.below b9
  have R4 := R4.below b9
  have b9 := Below.step b8 b9
  clear b8
  go_wp2_with fail
  refine (eqNodeS_any xs xs _ _ rfl rfl _ _ _ _ w9 R3.nodes R5.nodes (by omega) (by omega)).mono ?_
  rintro e w10 ⟨⟨u, rfl, hu⟩, b10⟩
  have hu1 : u = true := hu.2 (alike_reflS xs)
  subst hu1
  have hx := hx.below b10
  have hy := hy.below b10
  have R4 := R4.below b10
  have b10 := Below.step b9 b10
  clear b9 hu R3 R5
  go_wp2_with fail
  refine (toNodeS_any ys bo cbp w10 hy ly).mono ?_
  rintro e w11 ⟨g6, rfl, _, R6, b11⟩
  have R4 := R4.below b11
  have b11 := Below.step b10 b11
  clear b10
  go_wp2_with fail
  refine (eqNodeS_any ys ys _ _ rfl rfl _ _ _ _ w11 R4.nodes R6.nodes (by omega) (by omega)).mono ?_
  rintro e w12 ⟨⟨v, rfl, hv⟩, b12⟩
  have hv1 : v = true := hv.2 (alike_reflS ys)
  subst hv1
  have b12 := Below.step b11 b12
  clear b11 hv
  go_wp2
  go_ret
  exact ⟨rfl, b12⟩

end Go.Proofs.Ytocidoamfofefaa
