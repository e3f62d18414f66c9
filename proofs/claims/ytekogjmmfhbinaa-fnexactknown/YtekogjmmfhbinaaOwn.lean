import Derived.Test.YtekogjmmfhbinaaWAA
namespace Go.Proofs.Ytekogjmmfhbinaa

open Go.RowKit

/-- A node's five cells. -/
def Nd.row (n : Nd) : List Value := [.int .i64 n.kind, .int .i64 n.num, .string n.text, .int .i64 n.kids, .int .i64 n.place]

/-- The cells of a row of nodes. -/
def flat (ys : List Nd) : List Value := ys.flatMap Nd.row

theorem flat_length (ys : List Nd) : (flat ys).length = ys.length * 5 := by
  induction ys with
  | nil => rfl
  | cons y ys ih => simp [flat, Nd.row] at *; omega

theorem flat_cons (y : Nd) (ys : List Nd) : flat (y :: ys) = y.row ++ flat ys := rfl

theorem flat_append (xs ys : List Nd) : flat (xs ++ ys) = flat xs ++ flat ys := by simp [flat]

theorem flat_get (ys : List Nd) (i t : Nat) (hi : i < ys.length) (ht : t < 5) : (flat ys)[i * 5 + t]? = (ys[i].row)[t]? := by
  induction ys generalizing i with
  | nil => simp at hi
  | cons y ys ih =>
    rw [flat_cons]
    cases i with
    | zero => rw [List.getElem?_append_left (by simp [Nd.row]; omega)]; simp
    | succ i =>
      rw [List.getElem?_append_right (by simp [Nd.row]; omega)]
      have e : (i + 1) * 5 + t - y.row.length = i * 5 + t := by simp [Nd.row]; omega
      rw [e, ih i (by simpa using hi)]
      simp

/-- Block g is a row of the call's own that begins with these cells. -/
def Own (w : World) (g : Nat) (cs : List Value) : Prop := ∃ cur rest, w.heap[g]? = some (.cells cur 39 (0, 0)) ∧ cur.toList = cs ++ rest

theorem Own.lt {w : World} {g : Nat} {cs : List Value} (h : Own w g cs) : g < w.heap.size := by
  obtain ⟨cur, rest, hg, _⟩ := h
  exact (Array.getElem?_eq_some_iff.1 hg).1

theorem Own.set {w : World} {g : Nat} {cs : List Value} (h : Own w g cs) (j : Nat) (v : Value) (hj : j < cs.length) : Own (w.setCell ⟨g, j, none⟩ v) g (cs.set j v) := by
  obtain ⟨cur, rest, hg, hc⟩ := h
  exact ⟨_, rest, heap_setCell_same _ g _ _ 39 _ hg, by rw [Array.toList_setIfInBounds, hc, List.set_append_left _ _ hj]⟩

theorem Own.at {w : World} {g : Nat} {cs : List Value} (h : Own w g cs) (j : Nat) (hj : j < cs.length) : w.cell? ⟨g, j, none⟩ = cs[j]? := by
  obtain ⟨cur, rest, hg, hc⟩ := h
  rw [cell_of_row w g _ cur 39 (0, 0) hg, ← Array.getElem?_toList, hc, List.getElem?_append_left hj]

theorem Own.has {w : World} {g : Nat} {cs : List Value} (h : Own w g cs) (j : Nat) (hj : j < cs.length) : ∃ v, w.cell? ⟨g, j, none⟩ = some v :=
  ⟨cs[j], by rw [h.at j hj, List.getElem?_eq_getElem hj]⟩

theorem Own.frozen {w : World} {g : Nat} {cs : List Value} (h : Own w g cs) (j : Nat) : w.frozen? ⟨g, j, none⟩ = false := by
  obtain ⟨cur, _, hg, _⟩ := h
  exact frozen_of_row w g j cur 39 hg

theorem Own.below {w w' : World} {g : Nat} {cs : List Value} (h : Own w g cs) (hb : Below w.heap.size w w') : Own w' g cs := by
  have hlt := h.lt
  obtain ⟨cur, rest, hg, hc⟩ := h
  exact ⟨cur, rest, (hb.block g hlt).trans hg, hc⟩

/-- Block g is a row of nodes, all of them the call's own. -/
def Row (w : World) (g : Nat) (ys : List Nd) : Prop := Own w g (flat ys)

theorem Own.row {w : World} {g : Nat} {cs : List Value} {ys : List Nd} (h : Own w g cs) (e : cs = flat ys) : Row w g ys := by
  subst e
  exact h

theorem Row.lt {w : World} {g : Nat} {ys : List Nd} (h : Row w g ys) : g < w.heap.size := Own.lt h

theorem Row.cell {w : World} {g : Nat} {ys : List Nd} (h : Row w g ys) (i t : Nat) (hi : i < ys.length) (ht : t < 5) : w.cell? ⟨g, i * 5 + t, none⟩ = (ys[i].row)[t]? := by
  rw [Own.at h _ (by rw [flat_length]; omega), flat_get ys i t hi ht]

theorem Row.node {w : World} {g : Nat} {ys : List Nd} (h : Row w g ys) (i : Nat) (hi : i < ys.length) : NodeAt w g (i * 5) ys[i] :=
  ⟨h.cell i 0 hi (by omega), h.cell i 1 hi (by omega), h.cell i 2 hi (by omega), h.cell i 3 hi (by omega), h.cell i 4 hi (by omega)⟩

theorem Row.nodes {w : World} {g : Nat} {ys : List Nd} (h : Row w g ys) : Nodes w (some ⟨g, 0, none⟩) ys := by
  intro i hi
  exact ⟨g, 0, rfl, by simpa using h.node i hi⟩

theorem Row.frozen {w : World} {g : Nat} {ys : List Nd} (h : Row w g ys) (j : Nat) : w.frozen? ⟨g, j, none⟩ = false := Own.frozen h j

theorem Row.below {w w' : World} {g : Nat} {ys : List Nd} (h : Row w g ys) (hb : Below w.heap.size w w') : Row w' g ys := Own.below h hb

theorem Row.has {w : World} {g : Nat} {ys : List Nd} (h : Row w g ys) (j : Nat) (hj : j < ys.length * 5) : ∃ v, w.cell? ⟨g, j, none⟩ = some v :=
  Own.has h j (by rw [flat_length]; exact hj)

theorem flat_set (ys : List Nd) (i : Nat) (hi : i < ys.length) (n : Nd) :
    (((((flat ys).set (i * 5) (.int .i64 n.kind)).set (i * 5 + 1) (.int .i64 n.num)).set (i * 5 + 2) (.string n.text)).set (i * 5 + 3) (.int .i64 n.kids)).set (i * 5 + 4) (.int .i64 n.place) = flat (ys.set i n) := by
  apply List.ext_getElem?
  intro j
  by_cases hj : j < ys.length * 5
  · have e : j = (j / 5) * 5 + j % 5 := by omega
    have hq : j / 5 < ys.length := by omega
    have hr : j % 5 < 5 := by omega
    generalize j / 5 = q at *
    generalize j % 5 = r at *
    subst e
    rw [flat_get _ q r (by simpa using hq) hr]
    simp only [List.getElem?_set, List.length_set, flat_length]
    by_cases hqi : q = i
    · subst hqi
      match r, hr with
      | 0, _ => simp [Nd.row]; omega
      | 1, _ => simp [Nd.row]; omega
      | 2, _ => simp [Nd.row]; omega
      | 3, _ => simp [Nd.row]; omega
      | 4, _ => simp [Nd.row]; omega
    · rw [if_neg (by omega), if_neg (by omega), if_neg (by omega), if_neg (by omega), if_neg (by omega), flat_get ys q r hq hr]
      simp [Ne.symm hqi]
  · rw [List.getElem?_eq_none (by simp [flat_length]; omega), List.getElem?_eq_none (by simp [flat_length]; omega)]

/-- Five stores: one node is put. -/
theorem Row.put {w : World} {g : Nat} {ys : List Nd} (h : Row w g ys) (i : Nat) (hi : i < ys.length) (n : Nd) :
    Row (((((w.setCell ⟨g, i * 5, none⟩ (.int .i64 n.kind)).setCell ⟨g, i * 5 + 1, none⟩ (.int .i64 n.num)).setCell ⟨g, i * 5 + 2, none⟩ (.string n.text)).setCell ⟨g, i * 5 + 3, none⟩ (.int .i64 n.kids)).setCell ⟨g, i * 5 + 4, none⟩ (.int .i64 n.place)) g (ys.set i n) := by
  have hl := flat_length ys
  exact (((((Own.set h (i * 5) _ (by omega)).set (i * 5 + 1) _ (by simp only [List.length_set]; omega)).set (i * 5 + 2) _ (by simp only [List.length_set]; omega)).set (i * 5 + 3) _ (by simp only [List.length_set]; omega)).set (i * 5 + 4) _ (by simp only [List.length_set]; omega)).row (flat_set ys i hi n)

theorem below_put {B : Nat} {w w' : World} (h : Below B w w') {g : Nat} (hg : B ≤ g) (j : Nat) (n : Nd) :
    Below B w (((((w'.setCell ⟨g, j, none⟩ (.int .i64 n.kind)).setCell ⟨g, j + 1, none⟩ (.int .i64 n.num)).setCell ⟨g, j + 2, none⟩ (.string n.text)).setCell ⟨g, j + 3, none⟩ (.int .i64 n.kids)).setCell ⟨g, j + 4, none⟩ (.int .i64 n.place)) :=
  ((((h.setCell hg _).setCell hg _).setCell hg _).setCell hg _).setCell hg _

theorem fill_step {z : Nd} (xs : List Nd) (k : Nat) (h : k < xs.length) : (xs.take k ++ List.replicate (xs.length - k) z).set k xs[k] = xs.take (k + 1) ++ List.replicate (xs.length - (k + 1)) z := by
  rw [List.set_append_right _ _ (by simp; omega)]
  have e : k - (xs.take k).length = 0 := by simp; omega
  have e2 : xs.length - k = (xs.length - (k + 1)) + 1 := by omega
  rw [e, e2, List.replicate_succ, List.set_cons_zero, List.take_succ_eq_append_getElem h, List.append_assoc]
  rfl

theorem undrew {w w1 : World} (h : Below w.drew.heap.size w.drew w1) : Below w.heap.size w w1 := ⟨h.os, h.tape, h.output, h.size, h.block⟩

def Nd.zero : Nd := ⟨0, 0, ByteArray.empty, 0, 0⟩

theorem made_flat (n : Nat) : (madeCells #[.int .i64 0, .int .i64 0, .string ByteArray.empty, .int .i64 0, .int .i64 0] (n * 5)).toList = flat (List.replicate n Nd.zero) := by
  apply List.ext_getElem?
  intro j
  by_cases hj : j < n * 5
  · have e : j = (j / 5) * 5 + j % 5 := by omega
    have hq : j / 5 < n := by omega
    have hr : j % 5 < 5 := by omega
    generalize j / 5 = q at *
    generalize j % 5 = r at *
    subst e
    rw [flat_get _ q r (by simpa using hq) hr]
    have em : (q * 5 + r) % 5 = r := by omega
    simp only [madeCells, Array.toList_map, List.getElem?_map, Array.toList_range]
    rw [List.getElem?_range hj]
    match r, hr with
    | 0, _ => simp [Nd.row, Nd.zero]
    | 1, _ => simp [Nd.row, Nd.zero, em]
    | 2, _ => simp [Nd.row, Nd.zero, em]
    | 3, _ => simp [Nd.row, Nd.zero, em]
    | 4, _ => simp [Nd.row, Nd.zero, em]
  · rw [List.getElem?_eq_none (by simp [madeCells]; omega), List.getElem?_eq_none (by simp [flat_length]; omega)]

theorem Row.made (w : World) (n : Nat) : Row (w.alloc (.cells (madeCells #[.int .i64 0, .int .i64 0, .string ByteArray.empty, .int .i64 0, .int .i64 0] (n * 5)) 39)) w.heap.size (List.replicate n Nd.zero) :=
  ⟨_, [], heap_alloc_new _ _, by rw [made_flat n, List.append_nil]⟩

end Go.Proofs.Ytekogjmmfhbinaa
