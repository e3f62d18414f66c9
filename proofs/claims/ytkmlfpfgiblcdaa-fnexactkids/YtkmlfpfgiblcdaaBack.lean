
import Derived.Test.YtkmlfpfgiblcdaaCollect
namespace Go.Proofs.Ytkmlfpfgiblcdaa
open Go.RowKit Go.Shelf

def encB (x : Nat × Sp) : Array Value := #[.int .i64 (x.1 : Int), .agg #[.int .i64 (x.2.fr : Int), .int .i64 (x.2.rt : Int), .int .i64 (x.2.dp : Int)]]

/-- What Backward reads of its caller's memory in each round. -/
def Reads (q g Bb : Nat) (A : World) : Prop := Box1 A Bb 70 (.slice (some ⟨g, 0, none⟩) q q) ∧ ∃ L : List Sp, L.length = q ∧ Sps A (some ⟨g, 0, none⟩) L

set_option maxRecDepth 100000 in
set_option maxHeartbeats 2000000 in
theorem backward1_any (q : Nat) (hq : q ≤ 6000) (g Bb n₀ n : Nat) (w : World) :
    Iter Fence.wide n Try.prog 57 #[.pointer (some ⟨Bb, 0, none⟩)] encB (fun xs => xs.length = q) (fun _ => True) (fun pre x => x.1 + 1 + pre.length = q) (Reads q g Bb) q n₀ w := by
  intro J Jx hJ hRd hY W hW hWs h0
  obtain ⟨hbx, _⟩ := hRd _ _ h0
  have hc := hbx.cell
  refine callsIn_of_wp Try.func57 rfl trivial ?_
  simp only [Try.ntmps57, List.size_toArray, List.length_cons, List.length_nil, Nat.reduceAdd, Nat.reduceSub, Array.replicate_succ, Array.replicate_zero, List.push_toArray, List.append_toArray, List.nil_append, List.cons_append]
  gi_wp2
  clear hbx hc
  gi_loopw [3] (fun p wr => ∃ (r : Nat) (pre : List (Nat × Sp)), p = .int .i64 ((r : Int) - 1) ∧ r + pre.length = q ∧ J pre wr) (fun p _ => (intOf p + 1).toNat)
  case atStart => exact ⟨q, [], rfl, by simp, h0⟩
  case round =>
    obtain ⟨r, pre, rfl, hr, hj⟩ := hrel
    by_cases hr0 : 0 < r
    · obtain ⟨r', rfl⟩ : ∃ r', r = r' + 1 := ⟨r - 1, by omega⟩
      obtain ⟨hbx, L, hL, hsp⟩ := hRd _ _ hj
      have hc := hbx.cell
      have hlt : r' < L.length := by omega
      obtain ⟨b, o, he, hat⟩ := hsp r' hlt
      simp only [Option.some.injEq, Addr.mk.injEq, and_true] at he
      obtain ⟨rfl, rfl⟩ := he
      obtain ⟨s, hs⟩ : ∃ s, L[r'] = s := ⟨_, rfl⟩
      rw [hs, Nat.zero_add] at hat
      obtain ⟨c0, c1, c2⟩ := hat
      obtain ⟨fn, tmps, assign, body, hy, hR⟩ := hY pre (r', s) _ hj (by omega) (by show r' + 1 + pre.length = q; omega)
      simp only [encB] at hy
      have e1 : (((r' + 1 : Nat) : Int) - 1) = (r' : Int) := by omega
      rw [e1]
      have hrq : r' < q := by omega
      clear hsp hs hL hlt h0
      gi_wp2_with fail
      refine ⟨fun h => (by cases h), hR.mono ?_⟩
      rintro e W3 (⟨rfl, hJ3, hk3⟩ | ⟨rfl, hJx3⟩)
      · gi_wp2
        go_roundw
        case rel => exact ⟨r', pre ++ [(r', s)], by go_num, by simp; omega, hJ3⟩
        case measure => simp [intOf]
      · gi_wp2
        refine bodyPost_ret (results_none rfl _ _ _) rfl ?_
        exact ⟨⟨_, rfl⟩, .inr ⟨pre ++ [(r', s)], trivial, hJx3⟩⟩
    · have hr00 : r = 0 := by omega
      subst hr00
      gi_wp2
      go_end0
      exact ⟨⟨_, rfl⟩, .inl ⟨pre, by omega, hj⟩⟩

end Go.Proofs.Ytkmlfpfgiblcdaa
