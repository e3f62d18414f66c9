
import Derived.Test.YtkmlfpfgiblcdaaSGood
namespace Go.Proofs.Ytkmlfpfgiblcdaa
open Go.RowKit

set_option maxRecDepth 100000 in
set_option maxHeartbeats 1000000 in
theorem specDeep_any (t : List Nd) (m : Nat) (HM : Hid (t.length = m)) (hm : m ≤ 1048576) (ao : Option Addr) (cap : Nat) (w : World) (hx : Nodes w ao t) :
    Calls Try.prog 26 #[.slice ao m cap] w fun e w' => e = .returned (.int .i64 (deepOf t : Int)) ∧ Below w.heap.size w w' := by
  go_enter Try.func26, Try.ntmps26
  go_wp2_with fail
  refine (specGood_any t m HM hm ao cap w hx).mono ?_
  rintro e w1 ⟨rfl, hb⟩
  by_cases hd : 0 < deepOf t
  · have e1 : decide (0 < deepOf t) = true := by simp [hd]
    rw [e1]
    have h6 : m ≤ 6000 := by
      by_cases h : m ≤ 6000
      · exact h
      · have := deepOf_great (t := t) (by have := HM.out; omega)
        omega
    have h0 : 0 < m := by
      by_cases h : m = 0
      · have := deepOf_nil (t := t) (by have := HM.out; omega)
        omega
      · omega
    cases hA : after t m with
    | none =>
      have := deepOf_none (t := t) (by rw [HM.out]; exact hA)
      omega
    | some p =>
      obtain ⟨S, ys⟩ := p
      have HA : Hid (after t m = some (S, ys)) := hA
      have hsz : sizesOf t = ys.map szOf := by unfold sizesOf; rw [HM.out, hA]
      have hyl := (after_fine hA).len
      obtain ⟨s, hs, hd1, hd2, hd3, hd4, hd5⟩ := deepOf_some HM.out h6 h0 hA
      have HV : Hid (deepOf t = s.dp) := by
        rw [hd1] at hd ⊢
        split at hd
        · rename_i h9; rw [if_pos h9]; rfl
        · omega
      have HYS : Hid (ys[m - 1]? = some s) := hs
      have HYL : Hid (ys.length = m) := hyl
      have HSZ : Hid (sizesOf t = ys.map szOf) := hsz
      have hx1 := hx.below hb
      clear hA hsz hd1 hs hyl hx e1 hd
      go_wp2_with fail
      refine (sizes_any t m HM h6 ao cap w1 hx1).mono ?_
      rintro e w2 ⟨gz, cz, n, rfl, hz, hb2⟩
      rw [HSZ.out] at hz
      have hnm : n = m := by have h9 := hz.1; have := HYL.out; simp at h9; omega
      subst hnm
      have hx2 := hx1.below hb2
      have hbb := Below.step hb hb2
      clear hx1 hb
      go_wp2_with fail
      refine (depths_any t S ys n HM h6 HA ao cap gz cz w1.heap.size w2 hx2 hz).mono ?_
      rintro e w3 ⟨g, c, rfl, hdp, hb3⟩
      have cd : w3.cell? ⟨g, n - 1, none⟩ = some (.int .i64 (s.dp : Int)) := by
        rw [hdp.at (n - 1) (by have := HYL.out; simp [dps]; omega)]
        obtain ⟨h8, h9⟩ := List.getElem?_eq_some_iff.1 HYS.out
        simp [dps, h9]
      have hb4 := Below.step hbb hb3
      clear hz hx2 hdp hbb hb2 hb3
      go_wp2
      go_ret
      exact ⟨by rw [HV.out]; rfl, hb4⟩
  · have e1 : decide (0 < deepOf t) = false := by simp; omega
    have HV : Hid (deepOf t = 0) := by show deepOf t = 0; omega
    rw [e1]
    clear hx e1 hd
    go_wp2
    go_ret
    exact ⟨by rw [HV.out]; rfl, hb⟩

end Go.Proofs.Ytkmlfpfgiblcdaa
