import Derived.Test.YtljdcaoibnikjaaWAA
namespace Go.Proofs.Ytljdcaoibnikjaa

open Go.RowKit

/-- A slice of slices of nodes. -/
def Lists (w : World) (ao : Option Addr) (kss : List (List Nd)) : Prop :=
  ∀ i (h : i < kss.length), ∃ b o ai ci, ao = some ⟨b, o, none⟩ ∧ w.cell? ⟨b, o + i, none⟩ = some (.slice ai kss[i].length ci) ∧ Nodes w ai kss[i]

theorem Lists.below {w w' : World} {ao : Option Addr} {kss : List (List Nd)} (h : Lists w ao kss) (hb : Below w.heap.size w w') : Lists w' ao kss := by
  intro i hi
  obtain ⟨b, o, ai, ci, e, hc, hn⟩ := h i hi
  exact ⟨b, o, ai, ci, e, (hb.cell (p := ⟨b, o + i, none⟩) (lt_of_cell hc)).trans hc, hn.below hb⟩

/-- How many nodes there are. -/
def total (kss : List (List Nd)) : Nat := (kss.map List.length).sum

theorem total_take_succ (kss : List (List Nd)) (k : Nat) (h : k < kss.length) : total (kss.take (k + 1)) = total (kss.take k) + kss[k].length := by
  rw [List.take_succ_eq_append_getElem h]
  simp only [total, List.map_append, List.sum_append, List.map_cons, List.map_nil, List.sum_cons, List.sum_nil, Nat.add_zero]

theorem total_take_le (kss : List (List Nd)) (k : Nat) : total (kss.take k) ≤ total kss := by
  have e : total kss = total (kss.take k) + total (kss.drop k) := by
    conv => lhs; rw [← List.take_append_drop k kss]
    simp only [total, List.map_append, List.sum_append]
  omega

theorem length_le_total (kss : List (List Nd)) (k : Nat) (h : k < kss.length) : kss[k].length ≤ total kss := by
  have h1 := total_take_succ kss k h
  have h2 := total_take_le kss (k + 1)
  omega

/-- The slices that lead to the rows gs. -/
def leads (gs : List Nat) (kss : List (List Nd)) : List Value := List.zipWith (fun h ks => .slice (some ⟨h, 0, none⟩) ks.length ks.length) gs kss

/-- Block g is a row of slices of the call's own. -/
def OwnS (w : World) (g : Nat) (cs : List Value) : Prop := ∃ cur, w.heap[g]? = some (.cells cur 27 (0, 0)) ∧ cur.toList = cs

theorem OwnS.lt {w : World} {g : Nat} {cs : List Value} (h : OwnS w g cs) : g < w.heap.size := by
  obtain ⟨cur, hg, _⟩ := h
  exact (Array.getElem?_eq_some_iff.1 hg).1

theorem OwnS.set {w : World} {g : Nat} {cs : List Value} (h : OwnS w g cs) (j : Nat) (v : Value) : OwnS (w.setCell ⟨g, j, none⟩ v) g (cs.set j v) := by
  obtain ⟨cur, hg, hc⟩ := h
  exact ⟨_, heap_setCell_same _ g _ _ 27 _ hg, by rw [Array.toList_setIfInBounds, hc]⟩

theorem OwnS.at {w : World} {g : Nat} {cs : List Value} (h : OwnS w g cs) (j : Nat) : w.cell? ⟨g, j, none⟩ = cs[j]? := by
  obtain ⟨cur, hg, hc⟩ := h
  rw [cell_of_row w g _ cur 27 (0, 0) hg, ← Array.getElem?_toList, hc]

theorem OwnS.frozen {w : World} {g : Nat} {cs : List Value} (h : OwnS w g cs) (j : Nat) : w.frozen? ⟨g, j, none⟩ = false := by
  obtain ⟨cur, hg, _⟩ := h
  exact frozen_of_row w g j cur 27 hg

theorem OwnS.below {w w' : World} {g : Nat} {cs : List Value} (h : OwnS w g cs) (hb : Below w.heap.size w w') : OwnS w' g cs := by
  have hlt := h.lt
  obtain ⟨cur, hg, hc⟩ := h
  exact ⟨cur, (hb.block g hlt).trans hg, hc⟩

theorem OwnS.but {S : Nat → Prop} {w w' : World} {g : Nat} {cs : List Value} (h : OwnS w g cs) (hb : But S w w') (hs : ¬ S g) : OwnS w' g cs := by
  have hlt := h.lt
  obtain ⟨cur, hg, hc⟩ := h
  exact ⟨cur, (hb.block g hlt hs).trans hg, hc⟩

/-- A row of slices is no row of nodes. -/
theorem OwnS.ne {w : World} {g h : Nat} {cs ds : List Value} (a : OwnS w g cs) (b : Own w h ds) : h ≠ g := by
  rintro rfl
  obtain ⟨cur, hg, _⟩ := a
  obtain ⟨cur', _, hg', _⟩ := b
  rw [hg] at hg'
  simp at hg'

/-- Each of the rows gs holds its nodes. -/
def RowsAt (w : World) (gs : List Nat) (kss : List (List Nd)) : Prop := gs.length = kss.length ∧ ∀ i (h : i < gs.length) (h' : i < kss.length), Row w gs[i] kss[i]

theorem RowsAt.below {w w' : World} {gs : List Nat} {kss : List (List Nd)} (h : RowsAt w gs kss) (hb : Below w.heap.size w w') : RowsAt w' gs kss :=
  ⟨h.1, fun i hi hi' => (h.2 i hi hi').below hb⟩

/-- All of it: the row g of slices, the rows gs of nodes, no two of them one. -/
structure Two (w : World) (g : Nat) (gs : List Nat) (kss : List (List Nd)) : Prop where
  lead : OwnS w g (leads gs kss)
  rows : RowsAt w gs kss
  nodup : gs.Nodup

theorem Two.below {w w' : World} {g : Nat} {gs : List Nat} {kss : List (List Nd)} (h : Two w g gs kss) (hb : Below w.heap.size w w') : Two w' g gs kss :=
  ⟨h.lead.below hb, h.rows.below hb, h.nodup⟩

theorem Two.get {w : World} {g : Nat} {gs : List Nat} {kss : List (List Nd)} (h : Two w g gs kss) (i : Nat) (hi : i < kss.length) (hi' : i < gs.length) :
    w.cell? ⟨g, i, none⟩ = some (.slice (some ⟨gs[i], 0, none⟩) kss[i].length kss[i].length) ∧ Row w gs[i] kss[i] := by
  refine ⟨?_, h.rows.2 i hi' hi⟩
  rw [h.lead.at i]
  simp [leads, List.getElem?_zipWith, List.getElem?_eq_getElem hi, List.getElem?_eq_getElem hi']

theorem RowsAt.snoc {w : World} {gs : List Nat} {kss : List (List Nd)} {k g' : Nat} (h : RowsAt w gs (kss.take k)) (hk : k < kss.length) (hr : Row w g' kss[k]) : RowsAt w (gs ++ [g']) (kss.take (k + 1)) := by
  have hg : gs.length = k := by have := h.1; simp at this; omega
  refine ⟨by simp; omega, ?_⟩
  intro i hi hi'
  by_cases hik : i < k
  · have h1 := h.2 i (by omega) (by simp; omega)
    simp only [List.getElem_take] at h1 ⊢
    rw [List.getElem_append_left (by omega)]
    exact h1
  · have e : i = k := by simp at hi; omega
    subst e
    simp only [List.getElem_take]
    rw [List.getElem_append_right (by omega)]
    simpa using hr

theorem RowsAt.put {w : World} {gs : List Nat} {kss : List (List Nd)} {g : Nat} {cs : List Value} (h : RowsAt w gs kss) (ho : OwnS w g cs) (j : Nat) (v : Value) : RowsAt (w.setCell ⟨g, j, none⟩ v) gs kss :=
  ⟨h.1, fun i hi hi' => by
    have hr := h.2 i hi hi'
    exact ((But.refl (· = g) w).setCell (p := ⟨g, j, none⟩) rfl v).row hr (ho.ne hr)⟩

end Go.Proofs.Ytljdcaoibnikjaa
