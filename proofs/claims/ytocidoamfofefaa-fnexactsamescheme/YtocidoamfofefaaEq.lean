
import Derived.Test.YtocidoamfofefaaYAA
import Derived.Test.YtocidoamfofefaaYAB
import Derived.Deep.RegionWith
namespace Go.Proofs.Ytocidoamfofefaa
open Go.RowKit

/-- Alike, node by node. -/
def Alike (f : Nd → Nd → Bool) (xs ys : List Nd) : Prop := xs.length = ys.length ∧ ∀ i (h : i < xs.length) (h' : i < ys.length), f xs[i] ys[i] = true

set_option maxHeartbeats 1000000 in
theorem eqNodeS_any (xs ys : List Nd) (n m : Nat) (HX : Hid (xs.length = n)) (HY : Hid (ys.length = m)) (ao bo : Option Addr) (cap cbp : Nat) (w : World) (hx : Nodes w ao xs) (hy : Nodes w bo ys) (hlx : n ≤ 140737488355328) (hly : m ≤ 140737488355328) :
    Calls Try.prog 11 #[.slice ao n cap, .slice bo m cbp] w fun e w' =>
      (∃ r : Bool, e = .returned (.bool r) ∧ (r = true ↔ Alike Nd.eqb xs ys)) ∧ Below w.heap.size w w' := by
  by_cases hl : n = m
  · subst hl
    go_enter Try.func11, Try.ntmps11
    go_wp2
    go_loopw [5] (fun i wr => ∃ (k : Nat), k ≤ n ∧ i = .int .i64 k ∧ (∀ i (h : i < xs.length) (h' : i < ys.length), i < k → xs[i].eqb ys[i] = true) ∧ Below w.heap.size w wr) (fun i _ => n - (intOf i).toNat)
    case atStart => exact ⟨0, Nat.zero_le _, rfl, fun i _ _ h => absurd h (by omega), Below.refl _ _⟩
    case round =>
      obtain ⟨k, hk, rfl, hall, hb⟩ := hrel
      by_cases hlt : k < n
      · have hltx : k < xs.length := by have := HX.out; omega
        have hlty : k < ys.length := by have := HY.out; omega
        obtain ⟨b, o, rfl, c0, c1, c2, c3, c4⟩ := hx.below hb k hltx
        obtain ⟨b', o', rfl, e0, e1, e2, e3, e4⟩ := hy.below hb k hlty
        clear hx hy
        cases hq : xs[k].eqb ys[k]
        · have HA : Hid (∀ i (h : i < xs.length) (h' : i < ys.length), i < k → xs[i].eqb ys[i] = true) := hall
          clear hall
          go_wp2_with fail
          go_region_with (go_at_call 31; refine (eqNode_any xs[k] ys[k] _).mono ?_; rintro e w1 ⟨rfl, hb1⟩)
          all_goals
            have hbb := Below.step hb (undrew hb1)
            clear hb hb1 c0 c1 c2 c3 c4 e0 e1 e2 e3 e4
            go_wp2
            go_ret
            exact ⟨⟨false, rfl, by simp only [Bool.false_eq_true, false_iff]; intro ha; have := ha.2 k hltx hlty; rw [hq] at this; cases this⟩, hbb⟩
        · have HA : Hid (∀ i (h : i < xs.length) (h' : i < ys.length), i < k + 1 → xs[i].eqb ys[i] = true) := by
            intro i h h' hi
            by_cases e : i = k
            · subst e; exact hq
            · exact hall i h h' (by omega)
          clear hall
          go_wp2_with fail
          go_region_with (go_at_call 31; refine (eqNode_any xs[k] ys[k] _).mono ?_; rintro e w1 ⟨rfl, hb1⟩)
          all_goals
            have hbb := Below.step hb (undrew hb1)
            clear hb hb1 c0 c1 c2 c3 c4 e0 e1 e2 e3 e4
            go_wp2
            go_roundw
            case rel => exact ⟨k + 1, by omega, by go_num, HA.out, hbb⟩
            case measure => simp [intOf]; omega
      · have HA : Hid (Alike Nd.eqb xs ys) := ⟨HX.out.trans HY.out.symm, fun i h h' => hall i h h' (by have := HX.out; omega)⟩
        clear hall hx hy
        go_wp2
        go_ret
        exact ⟨⟨true, rfl, by simp only [true_iff]; exact HA.out⟩, hb⟩
  · have hne : ((n : Int) != (m : Int)) = true := by simp; omega
    clear hx hy
    go_enter Try.func11, Try.ntmps11
    go_wp2
    go_ret
    exact ⟨⟨false, rfl, by simp only [Bool.false_eq_true, false_iff]; intro ha; exact hl (HX.out.symm.trans (ha.1.trans HY.out))⟩, Below.refl _ _⟩

end Go.Proofs.Ytocidoamfofefaa
