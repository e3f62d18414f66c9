
import Derived.Test.YtkmlfpfgiblcdaaSpans
namespace Go.Proofs.Ytkmlfpfgiblcdaa
open Go.RowKit Go.Shelf

/-- Block g is a row of spans. -/
def OwnQ (w : World) (g : Nat) (cs : List Value) : Prop := ∃ cur, w.heap[g]? = some (.cells cur 61 (0, 0)) ∧ cur.toList = cs

theorem OwnQ.lt {w : World} {g : Nat} {cs : List Value} (h : OwnQ w g cs) : g < w.heap.size := by
  obtain ⟨cur, hg, _⟩ := h
  exact (Array.getElem?_eq_some_iff.1 hg).1

theorem OwnQ.set {w : World} {g : Nat} {cs : List Value} (h : OwnQ w g cs) (j : Nat) (v : Value) : OwnQ (w.setCell ⟨g, j, none⟩ v) g (cs.set j v) := by
  obtain ⟨cur, hg, hc⟩ := h
  exact ⟨_, heap_setCell_same _ g _ _ 61 _ hg, by rw [Array.toList_setIfInBounds, hc]⟩

theorem OwnQ.at {w : World} {g : Nat} {cs : List Value} (h : OwnQ w g cs) (j : Nat) : w.cell? ⟨g, j, none⟩ = cs[j]? := by
  obtain ⟨cur, hg, hc⟩ := h
  rw [cell_of_row w g _ cur 61 (0, 0) hg, ← Array.getElem?_toList, hc]

theorem OwnQ.frozen {w : World} {g : Nat} {cs : List Value} (h : OwnQ w g cs) (j : Nat) : w.frozen? ⟨g, j, none⟩ = false := by
  obtain ⟨cur, hg, _⟩ := h
  exact frozen_of_row w g j cur 61 hg

theorem OwnQ.but {S : Nat → Prop} {w w' : World} {g : Nat} {cs : List Value} (h : OwnQ w g cs) (hb : But S w w') (hs : ¬ S g) : OwnQ w' g cs := by
  have hlt := h.lt
  obtain ⟨cur, hg, hc⟩ := h
  exact ⟨cur, (hb.block g hlt hs).trans hg, hc⟩

theorem OwnQ.alloc {w : World} {g : Nat} {cs : List Value} (h : OwnQ w g cs) (o : Obj) : OwnQ (w.alloc o) g cs :=
  h.but (S := fun _ => False) (But.ofBelow ((Below.refl _ w).alloc (Nat.le_refl _) o)) (fun h => h)

theorem OwnQ.sps {w : World} {g : Nat} {L : List Sp} (h : OwnQ w g (flat3 L)) : Sps w (some ⟨g, 0, none⟩) L := by
  intro i hi
  have c : ∀ t, t < 3 → w.cell? ⟨g, i * 3 + t, none⟩ = (L[i].row)[t]? := fun t ht => (h.at (i * 3 + t)).trans (flat3_get L i t hi ht)
  refine ⟨g, 0, rfl, ?_⟩
  rw [Nat.zero_add]
  exact ⟨c 0 (by omega), c 1 (by omega), c 2 (by omega)⟩

theorem flat3_set (ys : List Sp) (i : Nat) (hi : i < ys.length) (s : Sp) :
    (((flat3 ys).set (i * 3) (.int .i64 (s.fr : Int))).set (i * 3 + 1) (.int .i64 (s.rt : Int))).set (i * 3 + 2) (.int .i64 (s.dp : Int)) = flat3 (ys.set i s) := by
  apply List.ext_getElem?
  intro j
  by_cases hj : j < ys.length * 3
  · have e : j = (j / 3) * 3 + j % 3 := by omega
    have hq : j / 3 < ys.length := by omega
    have hr : j % 3 < 3 := by omega
    generalize j / 3 = q at *
    generalize j % 3 = r at *
    subst e
    rw [flat3_get _ q r (by simpa using hq) hr]
    simp only [List.getElem?_set, List.length_set, flat3_length]
    by_cases hqi : q = i
    · subst hqi
      match r, hr with
      | 0, _ => simp [Sp.row]; omega
      | 1, _ => simp [Sp.row]; omega
      | 2, _ => simp [Sp.row]; omega
    · rw [if_neg (by omega), if_neg (by omega), if_neg (by omega), flat3_get ys q r hq hr]
      simp [Ne.symm hqi]
  · rw [List.getElem?_eq_none (by simp [flat3_length]; omega), List.getElem?_eq_none (by simp [flat3_length]; omega)]

theorem OwnQ.put {w : World} {g : Nat} {ys : List Sp} (h : OwnQ w g (flat3 ys)) (i : Nat) (hi : i < ys.length) (s : Sp) :
    OwnQ (((w.setCell ⟨g, i * 3, none⟩ (.int .i64 (s.fr : Int))).setCell ⟨g, i * 3 + 1, none⟩ (.int .i64 (s.rt : Int))).setCell ⟨g, i * 3 + 2, none⟩ (.int .i64 (s.dp : Int))) g (flat3 (ys.set i s)) := by
  rw [← flat3_set ys i hi s]
  exact ((h.set _ _).set _ _).set _ _

def Sp.zero : Sp := ⟨0, 0, 0⟩

theorem made_flat3 (n : Nat) : (madeCells #[.int .i64 0, .int .i64 0, .int .i64 0] (n * 3)).toList = flat3 (List.replicate n Sp.zero) := by
  apply List.ext_getElem?
  intro j
  by_cases hj : j < n * 3
  · have e : j = (j / 3) * 3 + j % 3 := by omega
    have hq : j / 3 < n := by omega
    have hr : j % 3 < 3 := by omega
    generalize j / 3 = q at *
    generalize j % 3 = r at *
    subst e
    rw [flat3_get _ q r (by simpa using hq) hr]
    have em : (q * 3 + r) % 3 = r := by omega
    simp only [madeCells, Array.toList_map, List.getElem?_map, Array.toList_range]
    rw [List.getElem?_range hj]
    match r, hr with
    | 0, _ => simp [Sp.row, Sp.zero]
    | 1, _ => simp [Sp.row, Sp.zero, em]
    | 2, _ => simp [Sp.row, Sp.zero, em]
  · rw [List.getElem?_eq_none (by simp [madeCells]; omega), List.getElem?_eq_none (by simp [flat3_length]; omega)]

theorem OwnQ.made (w : World) (n : Nat) : OwnQ (w.alloc (.cells (madeCells #[.int .i64 0, .int .i64 0, .int .i64 0] (n * 3)) 61)) w.heap.size (flat3 (List.replicate n Sp.zero)) :=
  ⟨_, heap_alloc_new _ _, made_flat3 n⟩

end Go.Proofs.Ytkmlfpfgiblcdaa
