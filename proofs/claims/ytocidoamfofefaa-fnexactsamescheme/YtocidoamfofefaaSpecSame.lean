
import Derived.Test.YtocidoamfofefaaEq
import Derived.Test.YtocidoamfofefaaLeafSame
namespace Go.Proofs.Ytocidoamfofefaa
open Go.RowKit

set_option maxHeartbeats 2000000 in
theorem specSame_any (xs ys : List Nd) (n m : Nat) (HX : Hid (xs.length = n)) (HY : Hid (ys.length = m)) (ao bo : Option Addr) (cap cbp : Nat) (w : World) (hx : Nodes w ao xs) (hy : Nodes w bo ys) (hlx : n ≤ 140737488355328) (hly : m ≤ 140737488355328) :
    Calls Try.prog 37 #[.slice ao n cap, .slice bo m cbp] w fun e w' =>
      (∃ r : Bool, e = .returned (.bool r) ∧ (r = true ↔ Alike Nd.sameb xs ys)) ∧ Below w.heap.size w w' := by
  by_cases hl : n = m
  · subst hl
    go_enter Try.func37, Try.ntmps37
    go_wp2
    go_loopw [5] (fun i wr => ∃ (k : Nat), k ≤ n ∧ i = .int .i64 k ∧ (∀ i (h : i < xs.length) (h' : i < ys.length), i < k → xs[i].sameb ys[i] = true) ∧ Below w.heap.size w wr) (fun i _ => n - (intOf i).toNat)
    case atStart => exact ⟨0, Nat.zero_le _, rfl, fun i _ _ h => absurd h (by omega), Below.refl _ _⟩
    case round =>
      obtain ⟨k, hk, rfl, hall, hb⟩ := hrel
      by_cases hlt : k < n
      · have hltx : k < xs.length := by have := HX.out; omega
        have hlty : k < ys.length := by have := HY.out; omega
        obtain ⟨x, hxk⟩ : ∃ x, xs[k] = x := ⟨_, rfl⟩
        obtain ⟨y, hyk⟩ : ∃ y, ys[k] = y := ⟨_, rfl⟩
        obtain ⟨b, o, rfl, hcx⟩ := hx.below hb k hltx
        obtain ⟨b', o', rfl, hcy⟩ := hy.below hb k hlty
        rw [hxk] at hcx
        rw [hyk] at hcy
        obtain ⟨c0, c1, c2, c3, c4⟩ := hcx
        obtain ⟨e0, e1, e2, e3, e4⟩ := hcy
        have hlb : b < wr.heap.size := lt_of_cell c0
        have hlb' : b' < wr.heap.size := lt_of_cell e0
        clear hx hy
        have hne := neqN x y
        cases hq : x.sameb y
        · rw [hq] at hne
          have HA : Hid (∀ i (h : i < xs.length) (h' : i < ys.length), i < k → xs[i].sameb ys[i] = true) := hall
          have HXK : Hid (xs[k] = x) := hxk
          have HYK : Hid (ys[k] = y) := hyk
          clear hall hxk hyk
          go_wp2_with fail
          go_region_with (first | (go_at_call_of 68 (x.text); refine (bare_any x _).mono ?_; rintro e w1 ⟨rfl, hb1⟩; first | have hc1 := bcell_drew hb1 | skip) | (go_at_call_of 68 (y.text); refine (bare_any y _).mono ?_; rintro e w2 ⟨rfl, hb2⟩; first | have hc1 := bcell_drew hb2 | skip))
          all_goals
            first | have hbb := Below.step (Below.step hb (undrew hb1)) hb2 | have hbb := Below.step (Below.step hb (undrew hb2)) hb1
            clear hb hb1 hb2 hc1 c0 c1 c2 c3 c4 e0 e1 e2 e3 e4 hne
            go_wp2
            go_ret
            exact ⟨⟨false, rfl, by simp only [Bool.false_eq_true, false_iff]; intro ha; have := ha.2 k hltx hlty; rw [HXK.out, HYK.out, hq] at this; cases this⟩, hbb⟩
        · rw [hq] at hne
          have HA : Hid (∀ i (h : i < xs.length) (h' : i < ys.length), i < k + 1 → xs[i].sameb ys[i] = true) := by
            intro i h h' hi
            by_cases e : i = k
            · subst e; rw [hxk, hyk]; exact hq
            · exact hall i h h' (by omega)
          have HXK : Hid (xs[k] = x) := hxk
          have HYK : Hid (ys[k] = y) := hyk
          clear hall hxk hyk
          go_wp2_with fail
          go_region_with (first | (go_at_call_of 68 (x.text); refine (bare_any x _).mono ?_; rintro e w1 ⟨rfl, hb1⟩; first | have hc1 := bcell_drew hb1 | skip) | (go_at_call_of 68 (y.text); refine (bare_any y _).mono ?_; rintro e w2 ⟨rfl, hb2⟩; first | have hc1 := bcell_drew hb2 | skip))
          all_goals
            first | have hbb := Below.step (Below.step hb (undrew hb1)) hb2 | have hbb := Below.step (Below.step hb (undrew hb2)) hb1
            clear hb hb1 hb2 hc1 c0 c1 c2 c3 c4 e0 e1 e2 e3 e4 hne
            go_wp2
            go_roundw
            case rel => exact ⟨k + 1, by omega, by go_num, HA.out, hbb⟩
            case measure => simp [intOf]; omega
      · have HA : Hid (Alike Nd.sameb xs ys) := ⟨HX.out.trans HY.out.symm, fun i h h' => hall i h h' (by have := HX.out; omega)⟩
        clear hall hx hy
        go_wp2
        go_ret
        exact ⟨⟨true, rfl, by simp only [true_iff]; exact HA.out⟩, hb⟩
  · have hne : ((n : Int) != (m : Int)) = true := by simp; omega
    clear hx hy
    go_enter Try.func37, Try.ntmps37
    go_wp2
    go_ret
    exact ⟨⟨false, rfl, by simp only [Bool.false_eq_true, false_iff]; intro ha; exact hl (HX.out.symm.trans (ha.1.trans HY.out))⟩, Below.refl _ _⟩

end Go.Proofs.Ytocidoamfofefaa
