
import Derived.Test.YtocidoamfofefaaKid2
import Derived.Deep.RegionWith
namespace Go.Proofs.Ytocidoamfofefaa
open Go.RowKit

set_option maxHeartbeats 1000000 in
theorem lastApart1_any (x : Nd) (ks : List Nd) (q : Nat) (HQ : Hid (ks.length = q)) (hq : q ≤ 60000) (ao : Option Addr) (cap : Nat) (hcap : q ≤ cap) (b1 b2 : Nat) (v vl : Value) (p pl : Nd → Bool) (W : World)
    (c1 : W.cell? ⟨b1, 0, none⟩ = some v) (c2 : W.cell? ⟨b2, 0, none⟩ = some vl) (hx : Nodes W ao ks) (hv : FitV W v p) (hvl : FitV W vl pl) :
    Calls Try.prog 80 #[.agg #[.int .i64 x.kind, .int .i64 x.num, .string x.text, .int .i64 x.kids, .int .i64 x.place], .slice ao q cap, .pointer (some ⟨b1, 0, none⟩), .pointer (some ⟨b2, 0, none⟩)] W fun e w' =>
      e = .returned (.bool (lastB p pl ks)) ∧ Below W.heap.size W w' := by
  have hl1 := lt_of_cell c1
  have hl2 := lt_of_cell c2
  simp only at hl1 hl2
  have hb0 := new_node x W
  by_cases h : 2 ≤ q
  · obtain ⟨r, rfl⟩ : ∃ r, q = r + 1 := ⟨q - 1, by omega⟩
    have h0 : r < ks.length := by have := HQ.out; omega
    obtain ⟨b, o, rfl, hn⟩ := hx r h0
    have hn0 : NodeAt W b (o + r * 5) (ndAt ks r) := by rw [ndAt_get h0]; exact hn
    obtain ⟨y, hy⟩ : ∃ y, ndAt ks r = y := ⟨_, rfl⟩
    rw [hy] at hn0
    have HC := allFit_later p v (ks.take r) r (by show (ks.take r).length = r; simp; omega) (by omega) _ W (hx.front r) hv
    have HB : Hid (lastB p pl ks = ((ks.take r).all p && pl y)) := by
      show lastB p pl ks = _
      unfold lastB
      have e : ks.length - 1 = r := by have := HQ.out; omega
      rw [e, hy, decide_eq_true (by have := HQ.out; omega)]
      simp
    obtain ⟨N, lb, rfl, -, -⟩ := hv
    have hvl' := hvl
    obtain ⟨N0, lb0, rfl, -, -⟩ := hvl'
    obtain ⟨hN0, HF0⟩ := hvl.later
    have HP := HF0.out y
    obtain ⟨z, hz⟩ : ∃ z, (ks.take r).all p = z := ⟨_, rfl⟩
    rw [hz] at HC HB
    obtain ⟨s, hs⟩ : ∃ s, pl y = s := ⟨_, rfl⟩
    rw [hs] at HP HB
    obtain ⟨ykd, ynm, ytx, yks, ypl⟩ := y
    have t : decide ((1 : Int) ≤ (r : Int)) = true := decide_eq_true (by omega)
    have hlb := lt_of_cell hn0.1
    simp only at HP hlb
    clear hx hn hvl HF0 hy hz hs
    have hbd := hb0.drew
    cases z
    · go_enter Try.func80, Try.ntmps80
      go_wp2
      first | go_region_with (refine (HC.out _ _ hbd).mono ?_; rintro e w1 ⟨rfl, hb1⟩; have hbb := Below.step hbd hb1) | fail
      all_goals
        go_wp2
        go_ret
        exact ⟨by rw [HB.out]; rfl, hbb⟩
    · go_enter Try.func80, Try.ntmps80
      go_wp2
      go_region_with (first
        | (refine (HC.out _ _ hbd).mono ?_; rintro e w1 ⟨rfl, hb1⟩; have hbb := Below.step hbd hb1; have e2 := (hbb.cell (p := ⟨b2, 0, none⟩) hl2).trans c2; have hl2' : b2 < w1.heap.size := Nat.lt_of_lt_of_le hl2 hbb.size; obtain ⟨d0, d1, d2, d3, d4⟩ := hn0.below hbb; have hlb' : b < w1.heap.size := Nat.lt_of_lt_of_le hlb hbb.size)
        | (refine (HP _ hbb).mono ?_; rintro e w2 ⟨rfl, hb2⟩; have hbc := Below.step hbb hb2))
      all_goals
        go_wp2
        go_ret
        exact ⟨by rw [HB.out]; rfl, hbc⟩
  · have HB : Hid (lastB p pl ks = false) := by
      show lastB p pl ks = false
      unfold lastB
      rw [decide_eq_false (by have := HQ.out; omega)]
      rfl
    have t : decide ((1 : Int) ≤ (q : Int) - 1) = false := decide_eq_false (by omega)
    clear hx
    have hbd := hb0.drew
    go_enter Try.func80, Try.ntmps80
    go_wp2
    go_region
    all_goals
      go_wp2
      go_ret
      exact ⟨by first | (rw [HB.out]; rfl) | rfl, hbd⟩

end Go.Proofs.Ytocidoamfofefaa
