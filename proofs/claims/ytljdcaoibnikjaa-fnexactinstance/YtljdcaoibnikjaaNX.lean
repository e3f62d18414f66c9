
import Derived.Test.YtljdcaoibnikjaaNW
import Derived.Test.YtljdcaoibnikjaaMRows
namespace Go.Proofs.Ytljdcaoibnikjaa
open Go.RowKit Go.Maps

/-- A store of a new row, and where it lies. -/
theorem RwsAt.store {W0 W : World} {B b n g c : Nat} {E : Int → Option (List Nd)} {t : List Nd} {D : DataW Value} {F : Int → Nat × Nat} (h : RwsAt W0 B b n E D F) (hb : Below W0.heap.size W0 W) (hn : n < maxLen) {x : Int} (hx : (Lit.int .i64 x).wf = true) (hr : Row W g t) (hg : W0.heap.size ≤ g) (hB : B ≤ W0.heap.size) :
    ∃ W2, (Instr.mapUpdate 63 (.map (some b)) (.int .i64 x) (.slice (some ⟨g, 0, none⟩) t.length c)).run Try.prog W = .ok () W2 ∧ (∃ D2, RwsAt W2 B b (n + 1) (upE E x t) D2 (fun y => if y = x then (g, c) else F y)) ∧ W.grownBy W2 (some b) := by
  have hW := h.but (S := fun _ => False) (But.ofBelow hb) (fun _ h => h.elim)
  have hkl : ∀ z : Int, WideAt.IsKeyLit (.int .i64 z) := fun _ => trivial
  obtain ⟨W2, hrun, hown2, hg2⟩ := hW.own.update Try.law2 Try.underlying63 hn (keyOf_int_mk Try.underlying2 hx) (val := .slice (some ⟨g, 0, none⟩) t.length c) (d := .held (.slice (some ⟨g, 0, none⟩) t.length c)) (ps := []) rfl
  have hblt := h.own.lt
  have hti : IsMap D := hW.own.isMap
  refine ⟨W2, hrun, ⟨_, hown2, ?_, ?_, ?_⟩, hg2⟩
  · intro y
    by_cases hy : y = x
    · subst hy
      rw [has_put_same hti (hkl y), upE_same]
      rfl
    · rw [has_put_other (fun e => hy (by simpa using e)), upE_other _ _ _ _ hy]
      exact h.has y
  · intro y t' hy'
    by_cases hy : y = x
    · subst hy
      rw [upE_same] at hy'
      simp only [Option.some.injEq] at hy'
      subst hy'
      refine ⟨fun z => ?_, ?_, ?_⟩
      · rw [atKey_put_same hti (hkl y)]
        simp
      · simp only [if_true]
        omega
      · simp only [if_true]
        exact Row.kept hr hg2 (by omega)
    · rw [upE_other _ _ _ _ hy] at hy'
      obtain ⟨h1, h2, h3⟩ := hW.at' y t' hy'
      rw [if_neg hy]
      refine ⟨fun z => ?_, h2, ?_⟩
      · rw [atKey_put_other (fun e => hy (by simpa using e))]
        exact h1 z
      · refine Row.kept h3 hg2 ?_
        intro e9
        obtain ⟨es, clock, hb9, _⟩ := hW.own
        obtain ⟨cur, rest, hc, _⟩ := h3
        rw [e9, hb9] at hc
        cases hc
  · intro y z hy hz hne
    by_cases h1 : y = x
    · subst h1
      rw [if_pos rfl, if_neg (fun e => hne e.symm)]
      rw [upE_other _ _ _ _ (fun e => hne e.symm)] at hz
      obtain ⟨tz, htz⟩ := Option.isSome_iff_exists.1 hz
      have := (h.at' z tz htz).2.2.lt
      show g ≠ (F z).1
      omega
    · rw [upE_other _ _ _ _ h1] at hy
      obtain ⟨ty, hty⟩ := Option.isSome_iff_exists.1 hy
      have := (h.at' y ty hty).2.2.lt
      rw [if_neg h1]
      by_cases h2 : z = x
      · rw [if_pos h2]
        show (F y).1 ≠ g
        omega
      · rw [if_neg h2]
        rw [upE_other _ _ _ _ h2] at hz
        exact h.apart y z hy hz hne

/-- A map of rows, beside a row in block gw. -/
def RwsG (W : World) (B b n : Nat) (E : Int → Option (List Nd)) (gw : Nat) : Prop := ∃ D F, RwsAt W B b n E D F ∧ ∀ x t, E x = some t → (F x).1 ≠ gw

theorem RwsG.rws {W : World} {B b n gw : Nat} {E : Int → Option (List Nd)} (h : RwsG W B b n E gw) : Rws W B b n E := by
  obtain ⟨D, F, h, _⟩ := h
  exact ⟨D, F, h⟩

theorem RwsG.lt {W : World} {B b n gw : Nat} {E : Int → Option (List Nd)} (h : RwsG W B b n E gw) : b < W.heap.size := h.rws.lt

/-- Blocks are written that are no rows of nodes, or the row beside. -/
theorem RwsG.but {S : Nat → Prop} {W W' : World} {B b n gw : Nat} {E : Int → Option (List Nd)} (h : RwsG W B b n E gw) (hb : But (fun i => S i ∨ i = gw) W W') (hS : ∀ k, S k → k ≠ b ∧ ∀ cur, W.heap[k]? ≠ some (.cells cur 53 (0, 0))) (hgb : gw ≠ b) {gw' : Nat} (hg' : gw' = gw ∨ W.heap.size ≤ gw') : RwsG W' B b n E gw' := by
  obtain ⟨D, F, h, hne⟩ := h
  refine ⟨D, F, ⟨owns_same h.own (hb.block b h.own.lt ?_), h.has, fun x t hx => ?_, h.apart⟩, fun x t hx => ?_⟩
  · rintro (h9 | h9)
    · exact (hS b h9).1 rfl
    · exact hgb h9.symm
  · obtain ⟨h1, h2, h3⟩ := h.at' x t hx
    refine ⟨h1, h2, hb.row h3 ?_⟩
    obtain ⟨cur, rest, hc, _⟩ := h3
    rintro (h9 | h9)
    · exact (hS _ h9).2 _ hc
    · exact hne x t hx h9
  · have h1 := (h.at' x t hx).2.2.lt
    rcases hg' with rfl | h9
    · exact hne x t hx
    · omega

theorem RwsG.store {W0 W : World} {B b n g c gw : Nat} {E : Int → Option (List Nd)} {t : List Nd} (h : RwsG W0 B b n E gw) (hb : Below W0.heap.size W0 W) (hn : n < maxLen) {x : Int} (hx : (Lit.int .i64 x).wf = true) (hr : Row W g t) (hg : W0.heap.size ≤ g) (hB : B ≤ W0.heap.size) (hgw : gw < W0.heap.size) :
    ∃ W2, (Instr.mapUpdate 63 (.map (some b)) (.int .i64 x) (.slice (some ⟨g, 0, none⟩) t.length c)).run Try.prog W = .ok () W2 ∧ RwsG W2 B b (n + 1) (upE E x t) gw ∧ W.grownBy W2 (some b) := by
  obtain ⟨D, F, h, hne⟩ := h
  obtain ⟨W2, h1, ⟨D2, h2⟩, h3⟩ := h.store (c := c) hb hn hx hr hg hB
  refine ⟨W2, h1, ⟨D2, _, h2, fun y t' hy => ?_⟩, h3⟩
  by_cases e : y = x
  · simp only [e, if_true]
    omega
  · simp only [e, if_false]
    rw [upE_other _ _ _ _ e] at hy
    exact hne y t' hy

end Go.Proofs.Ytljdcaoibnikjaa
