import Derived.Test.YtekogjmmfhbinaaKid2
import Derived.Deep.RegionWith
namespace Go.Proofs.Ytekogjmmfhbinaa

open Go.RowKit

set_option maxHeartbeats 1000000 in
theorem lastApart1_any (x : Nd) (ks : List Nd) (q : Nat) (HQ : Hid (ks.length = q)) (hq : q ≤ 60000) (ao : Option Addr) (cap : Nat) (hcap : q ≤ cap) (b1 b2 : Nat) (v vl : Value) (p pl : Nd → Bool) (W : World)
    (c1 : W.cell? ⟨b1, 0, none⟩ = some v) (c2 : W.cell? ⟨b2, 0, none⟩ = some vl) (hx : Nodes W ao ks) (hv : FitV W v p) (hvl : FitV W vl pl) :
    Calls Try.prog 89 #[.agg #[.int .i64 x.kind, .int .i64 x.num, .string x.text, .int .i64 x.kids, .int .i64 x.place], .slice ao q cap, .pointer (some ⟨b1, 0, none⟩), .pointer (some ⟨b2, 0, none⟩)] W fun e w' =>
      e = .returned (.bool (lastB p pl ks)) ∧ Below W.heap.size W w' := by
  have hl1 := lt_of_cell c1
  have hl2 := lt_of_cell c2
  simp only at hl1 hl2
  have hb0 := new_node x W
  by_cases h : 2 ≤ q
  · obtain ⟨r, rfl⟩ : ∃ r, q = r + 1 := ⟨q - 1, by omega⟩
    have h0 : r < ks.length := by have := HQ.out; omega
    obtain ⟨b, o, rfl, hn⟩ := hx r h0
    have hn0 : NodeAt W b (o + r * 5) (ndAt ks r) := by rw [ndAt_get h0]; exact hn
    obtain ⟨y, hy⟩ : ∃ y, ndAt ks r = y := ⟨_, rfl⟩
    rw [hy] at hn0
    have HC := allFit_later p v (ks.take r) r (by show (ks.take r).length = r; simp; omega) (by omega) _ W (hx.front r) hv
    have HB : Hid (lastB p pl ks = ((ks.take r).all p && pl y)) := by
      show lastB p pl ks = _
      unfold lastB
      have e : ks.length - 1 = r := by have := HQ.out; omega
      rw [e, hy, decide_eq_true (by have := HQ.out; omega)]
      simp
    obtain ⟨N, lb, rfl, -, -⟩ := hv
    have hvl' := hvl
    obtain ⟨N0, lb0, rfl, -, -⟩ := hvl'
    obtain ⟨hN0, HF0⟩ := hvl.later
    have HP := HF0.out y
    obtain ⟨z, hz⟩ : ∃ z, (ks.take r).all p = z := ⟨_, rfl⟩
    rw [hz] at HC HB
    obtain ⟨s, hs⟩ : ∃ s, pl y = s := ⟨_, rfl⟩
    rw [hs] at HP HB
    obtain ⟨ykd, ynm, ytx, yks, ypl⟩ := y
    have t : decide ((1 : Int) ≤ (r : Int)) = true := decide_eq_true (by omega)
    have hlb := lt_of_cell hn0.1
    simp only at HP hlb
    clear hx hn hvl HF0 hy hz hs
    have hbd := hb0.drew
    cases z
    · go_enter Try.func89, Try.ntmps89
      go_wp2
      first | go_region_with (refine (HC.out _ _ hbd).mono ?_; rintro e w1 ⟨rfl, hb1⟩; have hbb := Below.step hbd hb1) | fail
      all_goals
        go_wp2
        go_ret
        exact ⟨by rw [HB.out]; rfl, hbb⟩
    · go_enter Try.func89, Try.ntmps89
      go_wp2
      go_region_with (first
        | (refine (HC.out _ _ hbd).mono ?_; rintro e w1 ⟨rfl, hb1⟩; have hbb := Below.step hbd hb1; have e2 := (hbb.cell (p := ⟨b2, 0, none⟩) hl2).trans c2; have hl2' : b2 < w1.heap.size := Nat.lt_of_lt_of_le hl2 hbb.size; obtain ⟨d0, d1, d2, d3, d4⟩ := hn0.below hbb; have hlb' : b < w1.heap.size := Nat.lt_of_lt_of_le hlb hbb.size)
        | (refine (HP _ hbb).mono ?_; rintro e w2 ⟨rfl, hb2⟩; have hbc := Below.step hbb hb2))
      all_goals
        go_wp2
        go_ret
        exact ⟨by rw [HB.out]; rfl, hbc⟩
  · have HB : Hid (lastB p pl ks = false) := by
      show lastB p pl ks = false
      unfold lastB
      rw [decide_eq_false (by have := HQ.out; omega)]
      rfl
    have t : decide ((1 : Int) ≤ (q : Int) - 1) = false := decide_eq_false (by omega)
    clear hx
    have hbd := hb0.drew
    go_enter Try.func89, Try.ntmps89
    go_wp2
    go_region
    all_goals
      go_wp2
      go_ret
      exact ⟨by first | (rw [HB.out]; rfl) | rfl, hbd⟩

set_option maxHeartbeats 1000000 in
theorem firstApart1_any (x : Nd) (ks : List Nd) (q : Nat) (HQ : Hid (ks.length = q)) (hq : q ≤ 60000) (ao : Option Addr) (cap : Nat) (hcap : q ≤ cap) (b1 b2 : Nat) (v0 v : Value) (p0 p : Nd → Bool) (W : World)
    (c1 : W.cell? ⟨b1, 0, none⟩ = some v0) (c2 : W.cell? ⟨b2, 0, none⟩ = some v) (hx : Nodes W ao ks) (hv0 : FitV W v0 p0) (hv : FitV W v p) :
    Calls Try.prog 90 #[.agg #[.int .i64 x.kind, .int .i64 x.num, .string x.text, .int .i64 x.kids, .int .i64 x.place], .slice ao q cap, .pointer (some ⟨b1, 0, none⟩), .pointer (some ⟨b2, 0, none⟩)] W fun e w' =>
      e = .returned (.bool (firstB p0 p ks)) ∧ Below W.heap.size W w' := by
  have hl1 := lt_of_cell c1
  have hl2 := lt_of_cell c2
  simp only at hl1 hl2
  have hb0 := new_node x W
  by_cases h : 2 ≤ q
  · have h0 : 0 < ks.length := by have := HQ.out; omega
    obtain ⟨b, o, rfl, hn⟩ := hx 0 h0
    have hn0 : NodeAt W b o (ndAt ks 0) := by rw [ndAt_get h0]; simpa using hn
    obtain ⟨y, hy⟩ : ∃ y, ndAt ks 0 = y := ⟨_, rfl⟩
    rw [hy] at hn0
    obtain ⟨d0, d1, d2, d3, d4⟩ := hn0
    have hlb := lt_of_cell d0
    simp only at hlb
    have HC := allFit_later p v (ks.drop 1) (q - 1) (by show (ks.drop 1).length = q - 1; have := HQ.out; simp; omega) (by omega) _ W hx.tail hv
    have HB : Hid (firstB p0 p ks = (p0 y && (ks.drop 1).all p)) := by
      show firstB p0 p ks = _
      unfold firstB
      rw [hy, decide_eq_true (by have := HQ.out; omega)]
      rfl
    obtain ⟨N, lb, rfl, -, -⟩ := hv
    have hv0' := hv0
    obtain ⟨N0, lb0, rfl, -, -⟩ := hv0'
    obtain ⟨hN0, HF0⟩ := hv0.later
    have HP := HF0.out y
    obtain ⟨z, hz⟩ : ∃ z, p0 y = z := ⟨_, rfl⟩
    rw [hz] at HP HB
    obtain ⟨r, hr⟩ : ∃ r, (ks.drop 1).all p = r := ⟨_, rfl⟩
    rw [hr] at HC HB
    obtain ⟨ykd, ynm, ytx, yks, ypl⟩ := y
    simp only at HP d0 d1 d2 d3 d4
    clear hx hn hv0 HF0 hy hz hr
    have t0 : decide ((2 : Int) ≤ (q : Int)) = true := decide_eq_true (by omega)
    have hbd := hb0.drew
    cases z
    · go_enter Try.func90, Try.ntmps90
      go_wp2
      first | go_region_with (refine (HP _ hbd).mono ?_; rintro e w1 ⟨rfl, hb1⟩; have hbb := Below.step hbd hb1; have e2 := (hbb.cell (p := ⟨b2, 0, none⟩) hl2).trans c2; have hl2' : b2 < w1.heap.size := Nat.lt_of_lt_of_le hl2 hbb.size) | fail
      all_goals
        go_wp2
        go_ret
        exact ⟨by rw [HB.out]; rfl, hbb⟩
    · go_enter Try.func90, Try.ntmps90
      go_wp2
      go_region_with (first
        | (refine (HP _ hbd).mono ?_; rintro e w1 ⟨rfl, hb1⟩; have hbb := Below.step hbd hb1; have e2 := (hbb.cell (p := ⟨b2, 0, none⟩) hl2).trans c2; have hl2' : b2 < w1.heap.size := Nat.lt_of_lt_of_le hl2 hbb.size)
        | (refine (HC.out _ _ hbb).mono ?_; rintro e w2 ⟨rfl, hb2⟩; have hbc := Below.step hbb hb2))
      all_goals
        go_wp2
        go_ret
        exact ⟨by rw [HB.out]; rfl, hbc⟩
  · have HB : Hid (firstB p0 p ks = false) := by
      show firstB p0 p ks = false
      unfold firstB
      rw [decide_eq_false (by have := HQ.out; omega)]
      rfl
    have t : decide ((2 : Int) ≤ (q : Int)) = false := decide_eq_false (by omega)
    clear hx
    have hbd := hb0.drew
    go_enter Try.func90, Try.ntmps90
    go_wp2
    go_region
    all_goals
      go_wp2
      go_ret
      exact ⟨by first | (rw [HB.out]; rfl) | rfl, hbd⟩

end Go.Proofs.Ytekogjmmfhbinaa
