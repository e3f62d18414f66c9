import Derived.Test.YtljdcaoibnikjaaNW
import Derived.Test.YtljdcaoibnikjaaMRows
import Derived.Test.YtljdcaoibnikjaaNK
namespace Go.Proofs.Ytljdcaoibnikjaa

open Go.RowKit Go.Maps

/-- A store of a new row, and where it lies. -/
theorem RwsAt.store {W0 W : World} {B b n g c : Nat} {E : Int → Option (List Nd)} {t : List Nd} {D : DataW Value} {F : Int → Nat × Nat} (h : RwsAt W0 B b n E D F) (hb : Below W0.heap.size W0 W) (hn : n < maxLen) {x : Int} (hx : (Lit.int .i64 x).wf = true) (hr : Row W g t) (hg : W0.heap.size ≤ g) (hB : B ≤ W0.heap.size) :
    ∃ W2, (Instr.mapUpdate 63 (.map (some b)) (.int .i64 x) (.slice (some ⟨g, 0, none⟩) t.length c)).run Try.prog W = .ok () W2 ∧ (∃ D2, RwsAt W2 B b (n + 1) (upE E x t) D2 (fun y => if y = x then (g, c) else F y)) ∧ W.grownBy W2 (some b) := by
  have hW := h.but (S := fun _ => False) (But.ofBelow hb) (fun _ h => h.elim)
  have hkl : ∀ z : Int, WideAt.IsKeyLit (.int .i64 z) := fun _ => trivial
  obtain ⟨W2, hrun, hown2, hg2⟩ := hW.own.update Try.law2 Try.underlying63 hn (keyOf_int_mk Try.underlying2 hx) (val := .slice (some ⟨g, 0, none⟩) t.length c) (d := .held (.slice (some ⟨g, 0, none⟩) t.length c)) (ps := []) rfl
  have hblt := h.own.lt
  have hti : IsMap D := hW.own.isMap
  refine ⟨W2, hrun, ⟨_, hown2, ?_, ?_, ?_⟩, hg2⟩
  · intro y
    by_cases hy : y = x
    · subst hy
      rw [has_put_same hti (hkl y), upE_same]
      rfl
    · rw [has_put_other (fun e => hy (by simpa using e)), upE_other _ _ _ _ hy]
      exact h.has y
  · intro y t' hy'
    by_cases hy : y = x
    · subst hy
      rw [upE_same] at hy'
      simp only [Option.some.injEq] at hy'
      subst hy'
      refine ⟨fun z => ?_, ?_, ?_⟩
      · rw [atKey_put_same hti (hkl y)]
        simp
      · simp only [if_true]
        omega
      · simp only [if_true]
        exact Row.kept hr hg2 (by omega)
    · rw [upE_other _ _ _ _ hy] at hy'
      obtain ⟨h1, h2, h3⟩ := hW.at' y t' hy'
      rw [if_neg hy]
      refine ⟨fun z => ?_, h2, ?_⟩
      · rw [atKey_put_other (fun e => hy (by simpa using e))]
        exact h1 z
      · refine Row.kept h3 hg2 ?_
        intro e9
        obtain ⟨es, clock, hb9, _⟩ := hW.own
        obtain ⟨cur, rest, hc, _⟩ := h3
        rw [e9, hb9] at hc
        cases hc
  · intro y z hy hz hne
    by_cases h1 : y = x
    · subst h1
      rw [if_pos rfl, if_neg (fun e => hne e.symm)]
      rw [upE_other _ _ _ _ (fun e => hne e.symm)] at hz
      obtain ⟨tz, htz⟩ := Option.isSome_iff_exists.1 hz
      have := (h.at' z tz htz).2.2.lt
      show g ≠ (F z).1
      omega
    · rw [upE_other _ _ _ _ h1] at hy
      obtain ⟨ty, hty⟩ := Option.isSome_iff_exists.1 hy
      have := (h.at' y ty hty).2.2.lt
      rw [if_neg h1]
      by_cases h2 : z = x
      · rw [if_pos h2]
        show (F y).1 ≠ g
        omega
      · rw [if_neg h2]
        rw [upE_other _ _ _ _ h2] at hz
        exact h.apart y z hy hz hne

/-- A map of rows, beside a row in block gw. -/
def RwsG (W : World) (B b n : Nat) (E : Int → Option (List Nd)) (gw : Nat) : Prop := ∃ D F, RwsAt W B b n E D F ∧ ∀ x t, E x = some t → (F x).1 ≠ gw

theorem RwsG.rws {W : World} {B b n gw : Nat} {E : Int → Option (List Nd)} (h : RwsG W B b n E gw) : Rws W B b n E := by
  obtain ⟨D, F, h, _⟩ := h
  exact ⟨D, F, h⟩

theorem RwsG.lt {W : World} {B b n gw : Nat} {E : Int → Option (List Nd)} (h : RwsG W B b n E gw) : b < W.heap.size := h.rws.lt

/-- Blocks are written that are no rows of nodes, or the row beside. -/
theorem RwsG.but {S : Nat → Prop} {W W' : World} {B b n gw : Nat} {E : Int → Option (List Nd)} (h : RwsG W B b n E gw) (hb : But (fun i => S i ∨ i = gw) W W') (hS : ∀ k, S k → k ≠ b ∧ ∀ cur, W.heap[k]? ≠ some (.cells cur 53 (0, 0))) (hgb : gw ≠ b) {gw' : Nat} (hg' : gw' = gw ∨ W.heap.size ≤ gw') : RwsG W' B b n E gw' := by
  obtain ⟨D, F, h, hne⟩ := h
  refine ⟨D, F, ⟨owns_same h.own (hb.block b h.own.lt ?_), h.has, fun x t hx => ?_, h.apart⟩, fun x t hx => ?_⟩
  · rintro (h9 | h9)
    · exact (hS b h9).1 rfl
    · exact hgb h9.symm
  · obtain ⟨h1, h2, h3⟩ := h.at' x t hx
    refine ⟨h1, h2, hb.row h3 ?_⟩
    obtain ⟨cur, rest, hc, _⟩ := h3
    rintro (h9 | h9)
    · exact (hS _ h9).2 _ hc
    · exact hne x t hx h9
  · have h1 := (h.at' x t hx).2.2.lt
    rcases hg' with rfl | h9
    · exact hne x t hx
    · omega

theorem RwsG.store {W0 W : World} {B b n g c gw : Nat} {E : Int → Option (List Nd)} {t : List Nd} (h : RwsG W0 B b n E gw) (hb : Below W0.heap.size W0 W) (hn : n < maxLen) {x : Int} (hx : (Lit.int .i64 x).wf = true) (hr : Row W g t) (hg : W0.heap.size ≤ g) (hB : B ≤ W0.heap.size) (hgw : gw < W0.heap.size) :
    ∃ W2, (Instr.mapUpdate 63 (.map (some b)) (.int .i64 x) (.slice (some ⟨g, 0, none⟩) t.length c)).run Try.prog W = .ok () W2 ∧ RwsG W2 B b (n + 1) (upE E x t) gw ∧ W.grownBy W2 (some b) := by
  obtain ⟨D, F, h, hne⟩ := h
  obtain ⟨W2, h1, ⟨D2, h2⟩, h3⟩ := h.store (c := c) hb hn hx hr hg hB
  refine ⟨W2, h1, ⟨D2, _, h2, fun y t' hy => ?_⟩, h3⟩
  by_cases e : y = x
  · simp only [e, if_true]
    omega
  · simp only [e, if_false]
    rw [upE_other _ _ _ _ e] at hy
    exact hne y t' hy

end Go.Proofs.Ytljdcaoibnikjaa

namespace Go.Proofs.Ytljdcaoibnikjaa

open Go.RowKit Go.Maps Go.WideMaps

theorem lits_int {m : Nat} {tt : TypeId} (hu : Try.prog.underlying tt = some (.int .i64)) {v : Value} {ls : List Lit} (h : Try.prog.keyLits (m + 1) tt [v] = some ls) : ∃ x, v = .int .i64 x ∧ (Lit.int .i64 x).wf = true ∧ ls = [.int .i64 x] := by
  unfold Program.keyLits at h
  rw [hu] at h
  cases v <;> simp at h
  rename_i k n
  obtain ⟨⟨rfl, h1⟩, rfl⟩ := h
  exact ⟨n, rfl, h1, rfl⟩

set_option maxRecDepth 20000 in
theorem keyU_inv {key : Value} {kl : Lit} (h : keyOf Try.prog 101 key = some kl) : ∃ p : Int × Int, key = .agg #[.int .i64 p.1, .int .i64 p.2] ∧ (Lit.int .i64 p.1).wf = true ∧ (Lit.int .i64 p.2).wf = true ∧ kl = kU p.1 p.2 := by
  have h0 := h
  unfold keyOf at h
  simp only [Try.underlying101] at h
  split at h
  · rename_i hf
    simp only [Bool.and_eq_true] at hf
    have hs : ∃ m, Try.prog.types.size + 1 = m + 2 := ⟨Try.prog.types.size - 1, by have h9 : 0 < Try.prog.types.size := Nat.lt_of_le_of_lt (Nat.zero_le _) rowU; omega⟩
    obtain ⟨m, hm⟩ := hs
    rw [hm] at h
    obtain ⟨ls, hls, _⟩ := Option.map_eq_some_iff.1 h
    unfold Program.keyLits at hls
    simp only [Try.underlying101] at hls
    split at hls
    · rename_i hc
      obtain ⟨hlen, _⟩ := hc
      rw [cellsU] at hlen
      have hag : ∃ c0 c1, key = .agg #[c0, c1] := by
        have hf2 := hf.2
        obtain ⟨cs, rfl⟩ : ∃ cs, key = .agg cs := by
          cases key <;> first | exact ⟨_, rfl⟩ | (exfalso; simp [Value.formed, Try.underlying101] at hf2)
        simp only [Value.cells] at hlen
        match cs, hlen with
        | ⟨[c0, c1]⟩, _ => exact ⟨c0, c1, rfl⟩
      obtain ⟨c0, c1, rfl⟩ := hag
      simp only [Value.cells, List.mapM_cons, List.mapM_nil, cells3K, cells2K, List.drop_zero, List.drop_succ_cons, List.take_succ_cons, List.take_zero] at hls
      cases e0 : Try.prog.keyLits (m + 1) 3 [c0] with
      | none => rw [e0] at hls; simp at hls
      | some l0 =>
        cases e1 : Try.prog.keyLits (m + 1) 2 [c1] with
        | none => rw [e0, e1] at hls; simp at hls
        | some l1 =>
          obtain ⟨x, rfl, wx, _⟩ := lits_int Try.underlying3 e0
          obtain ⟨y, rfl, wy, _⟩ := lits_int Try.underlying2 e1
          refine ⟨(x, y), rfl, wx, wy, ?_⟩
          have h9 := keyU x y wx wy
          rw [h9] at h0
          exact (Option.some.inj h0).symm
    · cases hls
  · cases h

theorem ranges_but {w w' : World} {S : Nat → Prop} {k : TypeId} {R : Value → Option (DataW Value × List MemPlace)} {b r n : Nat} {D : DataW Value} {left : Lit → Bool} {cnt : Nat} (h : w.ranges Try.prog k R b r n D left cnt) (hb : But S w w') (h1 : ¬ S b) (h2 : ¬ S r) : w'.ranges Try.prog k R b r n D left cnt := by
  obtain ⟨es, clock, since, seen, c0, a1, a2, a3, a4, a5, a6⟩ := h
  exact ⟨es, clock, since, seen, c0, (hb.block b (Array.getElem?_eq_some_iff.1 a1).1 h1).trans a1, a2, a3, a4, (hb.block r (Array.getElem?_eq_some_iff.1 a5).1 h2).trans a5, a6⟩

theorem ranges_kind {w : World} {k : TypeId} {R : Value → Option (DataW Value × List MemPlace)} {b r n : Nat} {D : DataW Value} {left : Lit → Bool} {cnt : Nat} (h : w.ranges Try.prog k R b r n D left cnt) : (∀ cs t f, w.heap[r]? ≠ some (.cells cs t f)) ∧ (∀ cs t f, w.heap[b]? ≠ some (.cells cs t f)) := by
  obtain ⟨es, clock, since, seen, c0, a1, _, _, _, a5, _⟩ := h
  refine ⟨fun cs t f e => ?_, fun cs t f e => ?_⟩
  · rw [a5] at e; cases e
  · rw [a1] at e; cases e

theorem kU_same {lv nu lv' nu' : Int} (h1 : (Lit.int .i64 lv).wf = true) (h2 : (Lit.int .i64 nu).wf = true) (h3 : (Lit.int .i64 lv').wf = true) (h4 : (Lit.int .i64 nu').wf = true) : (kU lv nu).sameKey (kU lv' nu') = decide (lv = lv' ∧ nu = nu') := by
  by_cases h : lv = lv' ∧ nu = nu'
  · obtain ⟨rfl, rfl⟩ := h
    rw [WideAt.sameKey_self (lawU.key (keyU lv nu h1 h2))]
    simp
  · rw [decide_eq_false h]
    cases e : (kU lv nu).sameKey (kU lv' nu')
    · rfl
    · exact absurd (kU_inj h1 h2 h3 h4 (WideAt.sameKey_eq e)) h

end Go.Proofs.Ytljdcaoibnikjaa
