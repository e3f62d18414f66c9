import Derived.Test.YtljdcaoibnikjaaSS
import Derived.Test.YtljdcaoibnikjaaWAC
import Derived.Test.YtljdcaoibnikjaaWAD
namespace Go.Proofs.Ytljdcaoibnikjaa

open Go.RowKit

/-- The slices that lead to rows of nodes, each with its block and its capacity. -/
def leadsC (ps : List (Nat × Nat)) (kss : List (List Nd)) : List Value := List.zipWith (fun p ks => .slice (some ⟨p.1, 0, none⟩) ks.length p.2) ps kss

theorem leadsC_snoc (ps : List (Nat × Nat)) (kss : List (List Nd)) (p : Nat × Nat) (ks : List Nd) (h : ps.length = kss.length) : leadsC (ps ++ [p]) (kss ++ [ks]) = leadsC ps kss ++ [.slice (some ⟨p.1, 0, none⟩) ks.length p.2] := by
  unfold leadsC
  rw [List.zipWith_append h]
  rfl

/-- A row of slices of the call's own, perhaps with room behind. -/
def OwnR (w : World) (g : Nat) (cs : List Value) : Prop := ∃ cur rest, w.heap[g]? = some (.cells cur 27 (0, 0)) ∧ cur.toList = cs ++ rest

theorem OwnR.lt {w : World} {g : Nat} {cs : List Value} (h : OwnR w g cs) : g < w.heap.size := by
  obtain ⟨cur, _, hg, _⟩ := h
  exact (Array.getElem?_eq_some_iff.1 hg).1

theorem OwnR.at {w : World} {g : Nat} {cs : List Value} (h : OwnR w g cs) (j : Nat) (hj : j < cs.length) : w.cell? ⟨g, j, none⟩ = cs[j]? := by
  obtain ⟨cur, rest, hg, hc⟩ := h
  rw [cell_of_row w g _ cur 27 (0, 0) hg, ← Array.getElem?_toList, hc, List.getElem?_append_left hj]

theorem OwnR.but {S : Nat → Prop} {w w' : World} {g : Nat} {cs : List Value} (h : OwnR w g cs) (hb : But S w w') (hs : ¬ S g) : OwnR w' g cs := by
  have hlt := h.lt
  obtain ⟨cur, rest, hg, hc⟩ := h
  exact ⟨cur, rest, (hb.block g hlt hs).trans hg, hc⟩

theorem OwnR.ne {w : World} {g h : Nat} {cs ds : List Value} (a : OwnR w g cs) (b : Own w h ds) : h ≠ g := by
  rintro rfl
  obtain ⟨cur, _, hg, _⟩ := a
  obtain ⟨cur', _, hg', _⟩ := b
  rw [hg] at hg'
  simp at hg'

/-- A slice of slices: the row g of slices, the rows ps of nodes, no two of them one, all from B on. -/
structure Rag (w : World) (B g : Nat) (ps : List (Nat × Nat)) (kss : List (List Nd)) : Prop where
  lead : OwnR w g (leadsC ps kss)
  base : B ≤ g
  len : ps.length = kss.length
  rows : ∀ i (h : i < ps.length) (h' : i < kss.length), Row w ps[i].1 kss[i]
  from_ : ∀ p ∈ ps, B ≤ p.1
  nodup : (ps.map (·.1)).Nodup

theorem Rag.but {S : Nat → Prop} {w w' : World} {B g : Nat} {ps : List (Nat × Nat)} {kss : List (List Nd)} (h : Rag w B g ps kss) (hb : But S w w') (hs : ∀ k, S k → k < B) : Rag w' B g ps kss :=
  ⟨h.lead.but hb (fun hk => by have := hs _ hk; have := h.base; omega), h.base, h.len,
    fun i hi hi' => hb.row (h.rows i hi hi') (fun hk => by have := hs _ hk; have := h.from_ _ (List.getElem_mem hi); omega), h.from_, h.nodup⟩

theorem Rag.below {w w' : World} {B g : Nat} {ps : List (Nat × Nat)} {kss : List (List Nd)} (h : Rag w B g ps kss) (hb : Below w.heap.size w w') : Rag w' B g ps kss :=
  h.but (S := fun _ => False) (But.ofBelow hb) (fun _ h => h.elim)

/-- The same as it grows. -/
structure RagO (w : World) (B g c k : Nat) (ps : List (Nat × Nat)) (kss : List (List Nd)) : Prop where
  num : kss.length = k
  own : w.ownsRow B 27 1 (.slice (some ⟨g, 0, none⟩) k c) k (leadsC ps kss)
  len : ps.length = kss.length
  rows : ∀ i (h : i < ps.length) (h' : i < kss.length), Row w ps[i].1 kss[i]
  from_ : ∀ p ∈ ps, B ≤ p.1
  nodup : (ps.map (·.1)).Nodup

theorem owns_ownR {w : World} {B g c k : Nat} {xs : List Value} (h : w.ownsRow B 27 1 (.slice (some ⟨g, 0, none⟩) k c) k xs) : B ≤ g ∧ OwnR w g xs := by
  rcases h.2 with ⟨h', _⟩ | ⟨g2, cap2, cur, he, hb, hh, _, _, _, htake⟩
  · cases h'
  · simp only [Value.slice.injEq, Option.some.injEq, Addr.mk.injEq, and_true, true_and] at he
    obtain ⟨rfl, rfl⟩ := he
    exact ⟨hb, cur, cur.toList.drop (k * 1), hh, by rw [← htake, List.take_append_drop]⟩

theorem RagO.rag {w : World} {B g c k : Nat} {ps : List (Nat × Nat)} {kss : List (List Nd)} (h : RagO w B g c k ps kss) : Rag w B g ps kss :=
  ⟨(owns_ownR h.own).2, (owns_ownR h.own).1, h.len, h.rows, h.from_, h.nodup⟩

theorem RagO.lt {w : World} {B g c k : Nat} {ps : List (Nat × Nat)} {kss : List (List Nd)} (h : RagO w B g c k ps kss) : B ≤ g ∧ g < w.heap.size := owns_block h.own

theorem RagO.but {S : Nat → Prop} {w w' : World} {B g c k : Nat} {ps : List (Nat × Nat)} {kss : List (List Nd)} (h : RagO w B g c k ps kss) (hb : But S w w') (hs : ∀ k, S k → k < B) : RagO w' B g c k ps kss :=
  ⟨h.num, owns_but h.own hb (fun hk => by have := hs _ hk; have := h.lt; omega), h.len,
    fun i hi hi' => hb.row (h.rows i hi hi') (fun hk => by have := hs _ hk; have := h.from_ _ (List.getElem_mem hi); omega), h.from_, h.nodup⟩

theorem RagO.below {w w' : World} {B g c k : Nat} {ps : List (Nat × Nat)} {kss : List (List Nd)} (h : RagO w B g c k ps kss) (hb : Below w.heap.size w w') : RagO w' B g c k ps kss :=
  h.but (S := fun _ => False) (But.ofBelow hb) (fun _ h => h.elim)

theorem RagO.empty {w : World} {B : Nat} (hB : B ≤ w.heap.size) : RagO (w.alloc (.cells #[] 27)) B w.heap.size 0 0 [] [] :=
  ⟨rfl, ⟨rfl, Or.inr ⟨_, 0, #[], rfl, hB, heap_alloc_new _ _, Nat.le_refl _, by simp [maxLen], rfl, rfl⟩⟩, rfl, fun i hi => by simp at hi, fun p hp => by simp at hp, by simp⟩

/-- After an append of a slice that leads to a new row. -/
theorem RagO.push {w0 w w' : World} {B g c k g' c' h ch : Nat} {ps : List (Nat × Nat)} {kss : List (List Nd)} {ks : List Nd} (hO : RagO w0 B g c k ps kss) (hw : But (fun _ => False) w0 w)
    (hr : Row w h ks) (hh : w0.heap.size ≤ h) (hB : B ≤ h)
    (hown : w'.ownsRow B 27 1 (.slice (some ⟨g', 0, none⟩) (k + 1) c') (k + 1) (leadsC ps kss ++ [.slice (some ⟨h, 0, none⟩) ks.length ch])) (hg : w.grownBy w' (some g)) : RagO w' B g' c' (k + 1) (ps ++ [(h, ch)]) (kss ++ [ks]) := by
  have hR : Rag w B g ps kss := hO.rag.but hw (fun _ h => h.elim)
  have hg2 : ∀ q ys, Row w q ys → q ≠ g → Row w' q ys := by
    intro q ys hq hne
    have hlt := hq.lt
    obtain ⟨cur, rest, hc, he⟩ := hq
    exact ⟨cur, rest, (hg.block q hlt (by simpa using hne)).trans hc, he⟩
  refine ⟨by simp [hO.num], by rw [leadsC_snoc _ _ _ _ hO.len]; exact hown, by simp [hO.len], ?_, ?_, ?_⟩
  · intro i hi hi'
    by_cases hik : i < ps.length
    · have h1 := hR.rows i hik (by rw [← hO.len]; exact hik)
      rw [List.getElem_append_left hik, List.getElem_append_left (by rw [← hO.len]; exact hik)]
      exact hg2 _ _ h1 (hR.lead.ne h1)
    · have e : i = ps.length := by simp at hi; omega
      subst e
      have e2 : (kss ++ [ks])[ps.length]'hi' = ks := by
        rw [List.getElem_append_right (by rw [hO.len]; exact Nat.le_refl _)]
        simp
      rw [e2, List.getElem_append_right (Nat.le_refl _)]
      simp only [Nat.sub_self, List.getElem_cons_zero]
      exact hg2 _ _ hr (hR.lead.ne hr)
  · intro p hp
    rcases List.mem_append.1 hp with h1 | h1
    · exact hO.from_ p h1
    · simp at h1; subst h1; exact hB
  · rw [List.map_append]
    refine List.nodup_append.2 ⟨hO.nodup, by simp, ?_⟩
    intro a ha b hb
    simp at hb
    subst hb
    obtain ⟨p, hp, rfl⟩ := List.mem_map.1 ha
    obtain ⟨i, hi, rfl⟩ := List.getElem_of_mem hp
    have h1 := (hO.rows i hi (by rw [← hO.len]; exact hi)).lt
    omega

end Go.Proofs.Ytljdcaoibnikjaa
