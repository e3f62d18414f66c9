
import Derived.Test.YtljdcaoibnikjaaNK
namespace Go.Proofs.Ytljdcaoibnikjaa
open Go.RowKit Go.Maps Go.WideMaps

theorem lits_int {m : Nat} {tt : TypeId} (hu : Try.prog.underlying tt = some (.int .i64)) {v : Value} {ls : List Lit} (h : Try.prog.keyLits (m + 1) tt [v] = some ls) : ∃ x, v = .int .i64 x ∧ (Lit.int .i64 x).wf = true ∧ ls = [.int .i64 x] := by
  unfold Program.keyLits at h
  rw [hu] at h
  cases v <;> simp at h
  rename_i k n
  obtain ⟨⟨rfl, h1⟩, rfl⟩ := h
  exact ⟨n, rfl, h1, rfl⟩

set_option maxRecDepth 20000 in
theorem keyU_inv {key : Value} {kl : Lit} (h : keyOf Try.prog 101 key = some kl) : ∃ p : Int × Int, key = .agg #[.int .i64 p.1, .int .i64 p.2] ∧ (Lit.int .i64 p.1).wf = true ∧ (Lit.int .i64 p.2).wf = true ∧ kl = kU p.1 p.2 := by
  have h0 := h
  unfold keyOf at h
  simp only [Try.underlying101] at h
  split at h
  · rename_i hf
    simp only [Bool.and_eq_true] at hf
    have hs : ∃ m, Try.prog.types.size + 1 = m + 2 := ⟨Try.prog.types.size - 1, by have h9 : 0 < Try.prog.types.size := Nat.lt_of_le_of_lt (Nat.zero_le _) rowU; omega⟩
    obtain ⟨m, hm⟩ := hs
    rw [hm] at h
    obtain ⟨ls, hls, _⟩ := Option.map_eq_some_iff.1 h
    unfold Program.keyLits at hls
    simp only [Try.underlying101] at hls
    split at hls
    · rename_i hc
      obtain ⟨hlen, _⟩ := hc
      rw [cellsU] at hlen
      have hag : ∃ c0 c1, key = .agg #[c0, c1] := by
        have hf2 := hf.2
        obtain ⟨cs, rfl⟩ : ∃ cs, key = .agg cs := by
          cases key <;> first | exact ⟨_, rfl⟩ | (exfalso; simp [Value.formed, Try.underlying101] at hf2)
        simp only [Value.cells] at hlen
        match cs, hlen with
        | ⟨[c0, c1]⟩, _ => exact ⟨c0, c1, rfl⟩
      obtain ⟨c0, c1, rfl⟩ := hag
      simp only [Value.cells, List.mapM_cons, List.mapM_nil, cells3K, cells2K, List.drop_zero, List.drop_succ_cons, List.take_succ_cons, List.take_zero] at hls
      cases e0 : Try.prog.keyLits (m + 1) 3 [c0] with
      | none => rw [e0] at hls; simp at hls
      | some l0 =>
        cases e1 : Try.prog.keyLits (m + 1) 2 [c1] with
        | none => rw [e0, e1] at hls; simp at hls
        | some l1 =>
          obtain ⟨x, rfl, wx, _⟩ := lits_int Try.underlying3 e0
          obtain ⟨y, rfl, wy, _⟩ := lits_int Try.underlying2 e1
          refine ⟨(x, y), rfl, wx, wy, ?_⟩
          have h9 := keyU x y wx wy
          rw [h9] at h0
          exact (Option.some.inj h0).symm
    · cases hls
  · cases h

theorem ranges_but {w w' : World} {S : Nat → Prop} {k : TypeId} {R : Value → Option (DataW Value × List MemPlace)} {b r n : Nat} {D : DataW Value} {left : Lit → Bool} {cnt : Nat} (h : w.ranges Try.prog k R b r n D left cnt) (hb : But S w w') (h1 : ¬ S b) (h2 : ¬ S r) : w'.ranges Try.prog k R b r n D left cnt := by
  obtain ⟨es, clock, since, seen, c0, a1, a2, a3, a4, a5, a6⟩ := h
  exact ⟨es, clock, since, seen, c0, (hb.block b (Array.getElem?_eq_some_iff.1 a1).1 h1).trans a1, a2, a3, a4, (hb.block r (Array.getElem?_eq_some_iff.1 a5).1 h2).trans a5, a6⟩

theorem ranges_kind {w : World} {k : TypeId} {R : Value → Option (DataW Value × List MemPlace)} {b r n : Nat} {D : DataW Value} {left : Lit → Bool} {cnt : Nat} (h : w.ranges Try.prog k R b r n D left cnt) : (∀ cs t f, w.heap[r]? ≠ some (.cells cs t f)) ∧ (∀ cs t f, w.heap[b]? ≠ some (.cells cs t f)) := by
  obtain ⟨es, clock, since, seen, c0, a1, _, _, _, a5, _⟩ := h
  refine ⟨fun cs t f e => ?_, fun cs t f e => ?_⟩
  · rw [a5] at e; cases e
  · rw [a1] at e; cases e

theorem kU_same {lv nu lv' nu' : Int} (h1 : (Lit.int .i64 lv).wf = true) (h2 : (Lit.int .i64 nu).wf = true) (h3 : (Lit.int .i64 lv').wf = true) (h4 : (Lit.int .i64 nu').wf = true) : (kU lv nu).sameKey (kU lv' nu') = decide (lv = lv' ∧ nu = nu') := by
  by_cases h : lv = lv' ∧ nu = nu'
  · obtain ⟨rfl, rfl⟩ := h
    rw [WideAt.sameKey_self (lawU.key (keyU lv nu h1 h2))]
    simp
  · rw [decide_eq_false h]
    cases e : (kU lv nu).sameKey (kU lv' nu')
    · rfl
    · exact absurd (kU_inj h1 h2 h3 h4 (WideAt.sameKey_eq e)) h

end Go.Proofs.Ytljdcaoibnikjaa
