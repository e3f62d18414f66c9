import Derived.Test.YtekogjmmfhbinaaWAA
import Derived.Test.YtekogjmmfhbinaaOwn
import Derived.Deep.RegionWith
namespace Go.Proofs.Ytekogjmmfhbinaa

open Go.RowKit

/-- Alike, node by node. -/
def Alike (f : Nd → Nd → Bool) (xs ys : List Nd) : Prop := xs.length = ys.length ∧ ∀ i (h : i < xs.length) (h' : i < ys.length), f xs[i] ys[i] = true

set_option maxHeartbeats 1000000 in
theorem eqNodeS_any (xs ys : List Nd) (n m : Nat) (HX : Hid (xs.length = n)) (HY : Hid (ys.length = m)) (ao bo : Option Addr) (cap cbp : Nat) (w : World) (hx : Nodes w ao xs) (hy : Nodes w bo ys) (hlx : n ≤ 140737488355328) (hly : m ≤ 140737488355328) :
    Calls Try.prog 11 #[.slice ao n cap, .slice bo m cbp] w fun e w' =>
      (∃ r : Bool, e = .returned (.bool r) ∧ (r = true ↔ Alike Nd.eqb xs ys)) ∧ Below w.heap.size w w' := by
  by_cases hl : n = m
  · subst hl
    go_enter Try.func11, Try.ntmps11
    go_wp2
    go_loopw [5] (fun i wr => ∃ (k : Nat), k ≤ n ∧ i = .int .i64 k ∧ (∀ i (h : i < xs.length) (h' : i < ys.length), i < k → xs[i].eqb ys[i] = true) ∧ Below w.heap.size w wr) (fun i _ => n - (intOf i).toNat)
    case atStart => exact ⟨0, Nat.zero_le _, rfl, fun i _ _ h => absurd h (by omega), Below.refl _ _⟩
    case round =>
      obtain ⟨k, hk, rfl, hall, hb⟩ := hrel
      by_cases hlt : k < n
      · have hltx : k < xs.length := by have := HX.out; omega
        have hlty : k < ys.length := by have := HY.out; omega
        obtain ⟨b, o, rfl, c0, c1, c2, c3, c4⟩ := hx.below hb k hltx
        obtain ⟨b', o', rfl, e0, e1, e2, e3, e4⟩ := hy.below hb k hlty
        clear hx hy
        cases hq : xs[k].eqb ys[k]
        · have HA : Hid (∀ i (h : i < xs.length) (h' : i < ys.length), i < k → xs[i].eqb ys[i] = true) := hall
          clear hall
          go_wp2_with fail
          go_region_with (go_at_call 22; refine (eqNode_any xs[k] ys[k] _).mono ?_; rintro e w1 ⟨rfl, hb1⟩)
          all_goals
            have hbb := Below.step hb (undrew hb1)
            clear hb hb1 c0 c1 c2 c3 c4 e0 e1 e2 e3 e4
            go_wp2
            go_ret
            exact ⟨⟨false, rfl, by simp only [Bool.false_eq_true, false_iff]; intro ha; have := ha.2 k hltx hlty; rw [hq] at this; cases this⟩, hbb⟩
        · have HA : Hid (∀ i (h : i < xs.length) (h' : i < ys.length), i < k + 1 → xs[i].eqb ys[i] = true) := by
            intro i h h' hi
            by_cases e : i = k
            · subst e; exact hq
            · exact hall i h h' (by omega)
          clear hall
          go_wp2_with fail
          go_region_with (go_at_call 22; refine (eqNode_any xs[k] ys[k] _).mono ?_; rintro e w1 ⟨rfl, hb1⟩)
          all_goals
            have hbb := Below.step hb (undrew hb1)
            clear hb hb1 c0 c1 c2 c3 c4 e0 e1 e2 e3 e4
            go_wp2
            go_roundw
            case rel => exact ⟨k + 1, by omega, by go_num, HA.out, hbb⟩
            case measure => simp [intOf]; omega
      · have HA : Hid (Alike Nd.eqb xs ys) := ⟨HX.out.trans HY.out.symm, fun i h h' => hall i h h' (by have := HX.out; omega)⟩
        clear hall hx hy
        go_wp2
        go_ret
        exact ⟨⟨true, rfl, by simp only [true_iff]; exact HA.out⟩, hb⟩
  · have hne : ((n : Int) != (m : Int)) = true := by simp; omega
    clear hx hy
    go_enter Try.func11, Try.ntmps11
    go_wp2
    go_ret
    exact ⟨⟨false, rfl, by simp only [Bool.false_eq_true, false_iff]; intro ha; exact hl (HX.out.symm.trans (ha.1.trans HY.out))⟩, Below.refl _ _⟩

theorem Try.infoN : (Try.prog.info? 39).map (fun i => (i.zero, i.size, i.bytes)) = some (some (.agg #[.int .i64 0, .int .i64 0, .string ByteArray.empty, .int .i64 0, .int .i64 0]), 5, 48) := by kernel_rfl

theorem make_nodes (n : Nat) (h : n ≤ 1048576) (w : World) :
    (Instr.makeSlice 28 (.int .i64 (n : Int)) (.int .i64 (n : Int))).run Try.prog w = .ok (.slice (some ⟨w.heap.size, 0, none⟩) n n) (w.alloc (.cells (madeCells #[.int .i64 0, .int .i64 0, .string ByteArray.empty, .int .i64 0, .int .i64 0] (n * 5)) 39)) := by
  obtain ⟨i, hi, hzz⟩ := Option.map_eq_some_iff.1 Try.infoN
  simp only [Prod.mk.injEq] at hzz
  obtain ⟨hz, hs, hb⟩ := hzz
  have hr := run_make (P := Try.prog) w 28 39 i _ Try.underlying28 hi hz .i64 .i64 n n (by omega) (Int.le_refl _) (by rw [hb]; omega) (by omega)
  simp only [Int.toNat_natCast, hs] at hr
  exact hr

set_option maxHeartbeats 400000 in
theorem toNodeS_any (xs : List Nd) (ao : Option Addr) (cap : Nat) (w : World) (hx : Nodes w ao xs) (hlen : xs.length ≤ 1048576) :
    Calls Try.prog 9 #[.slice ao xs.length cap] w fun e w' =>
      ∃ g, e = .returned (.slice (some ⟨g, 0, none⟩) xs.length xs.length) ∧ w.heap.size ≤ g ∧ Row w' g xs ∧ Below w.heap.size w w' := by
  have hmk := make_nodes xs.length hlen
  go_enter Try.func9, Try.ntmps9
  go_wp2
  clear hmk
  go_loopw [4] (fun i wr => ∃ (k : Nat), k ≤ xs.length ∧ i = .int .i64 k ∧ Row wr w.heap.size (xs.take k ++ List.replicate (xs.length - k) Nd.zero) ∧ Below w.heap.size w wr) (fun i _ => xs.length - (intOf i).toNat)
  case atStart => exact ⟨0, Nat.zero_le _, rfl, by simpa using Row.made w xs.length, (Below.refl _ _).alloc (Nat.le_refl _) _⟩
  case round =>
    obtain ⟨k, hk, rfl, hrow, hb⟩ := hrel
    by_cases hlt : k < xs.length
    · obtain ⟨b, o, rfl, hn⟩ := hx.below hb k hlt
      obtain ⟨c0, c1, c2, c3, c4⟩ := hn
      clear hx
      go_wp2_with fail
      refine (toNode_any xs[k] wr).mono ?_
      rintro e w1 ⟨rfl, hb1⟩
      have hrow1 := hrow.below hb1
      have hbb := Below.step hb hb1
      have f0 := hrow1.frozen (k * 5)
      have f1 := hrow1.frozen (k * 5 + 1)
      have f2 := hrow1.frozen (k * 5 + 2)
      have f3 := hrow1.frozen (k * 5 + 3)
      have f4 := hrow1.frozen (k * 5 + 4)
      have hl : (xs.take k ++ List.replicate (xs.length - k) Nd.zero).length = xs.length := by simp; omega
      obtain ⟨v0, d0⟩ := hrow1.has (k * 5) (by rw [hl]; omega)
      obtain ⟨v1, d1⟩ := hrow1.has (k * 5 + 1) (by rw [hl]; omega)
      obtain ⟨v2, d2⟩ := hrow1.has (k * 5 + 2) (by rw [hl]; omega)
      obtain ⟨v3, d3⟩ := hrow1.has (k * 5 + 3) (by rw [hl]; omega)
      obtain ⟨v4, d4⟩ := hrow1.has (k * 5 + 4) (by rw [hl]; omega)
      have R := hrow1.put k (by rw [hl]; exact hlt) xs[k]
      rw [fill_step xs k hlt] at R
      have R2 := below_put hbb (Nat.le_refl _) (k * 5) xs[k]
      clear hl hrow hrow1 hb hb1 hbb c0 c1 c2 c3 c4
      go_wp2
      go_roundw
      case rel => exact ⟨k + 1, by omega, by go_num, R, R2⟩
      case measure => simp [intOf]; omega
    · have hke : k = xs.length := by omega
      subst hke
      clear hx
      go_wp2
      go_ret
      exact ⟨_, rfl, Nat.le_refl _, by simpa using hrow, hb⟩

end Go.Proofs.Ytekogjmmfhbinaa
