import Derived.WalkKit
import Derived.WalkSpells
import Derived.WalkLawsBesides
import Derived.Deep.RegionLaw
import Derived.Test.YthioecjcnajmgaaGreatDoorProg
import Derived.Deep.Light
import Derived.Deep.RegionWith
import Derived.Laws.BytesArg
namespace Go.Proofs.YthioecjcnajmgaaGreatDoor

open Go.RowKit

/-- A node, as data. -/
structure Nd where
  kind : Int
  num : Int
  text : ByteArray
  kids : Int
  place : Int

/-- All five fields alike. -/
def Nd.eqb (a b : Nd) : Bool := a.kind == b.kind && a.num == b.num && (a.text.toList == b.text.toList) && a.kids == b.kids && a.place == b.place

theorem Nd.eqb_refl (a : Nd) : a.eqb a = true := by simp [Nd.eqb]

/-- Five cells of a node at an address. -/
def NodeAt (w : World) (b o : Nat) (n : Nd) : Prop :=
  w.cell? ⟨b, o, none⟩ = some (.int .i64 n.kind) ∧ w.cell? ⟨b, o + 1, none⟩ = some (.int .i64 n.num) ∧ w.cell? ⟨b, o + 2, none⟩ = some (.string n.text) ∧
    w.cell? ⟨b, o + 3, none⟩ = some (.int .i64 n.kids) ∧ w.cell? ⟨b, o + 4, none⟩ = some (.int .i64 n.place)

theorem lt_of_cell {w : World} {a : Addr} {v : Value} (h : w.cell? a = some v) : a.block < w.heap.size := by
  by_cases hb : a.block < w.heap.size
  · exact hb
  · exfalso
    simp [World.cell?, Array.getElem?_eq_none (Nat.le_of_not_lt hb)] at h

theorem NodeAt.below {w w' : World} {b o : Nat} {n : Nd} (h : NodeAt w b o n) (hb : Below w.heap.size w w') : NodeAt w' b o n := by
  have hlt : b < w.heap.size := lt_of_cell h.1
  exact ⟨(hb.cell (p := ⟨b, o, none⟩) hlt).trans h.1, (hb.cell (p := ⟨b, o + 1, none⟩) hlt).trans h.2.1, (hb.cell (p := ⟨b, o + 2, none⟩) hlt).trans h.2.2.1,
    (hb.cell (p := ⟨b, o + 3, none⟩) hlt).trans h.2.2.2.1, (hb.cell (p := ⟨b, o + 4, none⟩) hlt).trans h.2.2.2.2⟩

/-- A slice of nodes. -/
def Nodes (w : World) (ao : Option Addr) (xs : List Nd) : Prop :=
  ∀ i (h : i < xs.length), ∃ b o, ao = some ⟨b, o, none⟩ ∧ NodeAt w b (o + i * 5) xs[i]

theorem Nodes.below {w w' : World} {ao : Option Addr} {xs : List Nd} (h : Nodes w ao xs) (hb : Below w.heap.size w w') : Nodes w' ao xs := by
  intro i hi
  obtain ⟨b, o, e, hn⟩ := h i hi
  exact ⟨b, o, e, hn.below hb⟩

theorem Below.step {w a b : World} (h : Below w.heap.size w a) (k : Below a.heap.size a b) : Below w.heap.size w b :=
  h.trans (k.mono h.size)

end Go.Proofs.YthioecjcnajmgaaGreatDoor

namespace Go.Proofs.YthioecjcnajmgaaGreatDoor

/-- The least predicate that F makes. -/
def Lfp {α : Type} (F : (α → Prop) → α → Prop) (x : α) : Prop := ∀ R : α → Prop, (∀ y, F R y → R y) → R x

/-- F keeps what it is told when it is told more. -/
def Grows {α : Type} (F : (α → Prop) → α → Prop) : Prop := ∀ (R R' : α → Prop) (x : α), (∀ y, R y → R' y) → F R x → F R' x

theorem Lfp.fold {α : Type} {F : (α → Prop) → α → Prop} (hm : Grows F) {x : α} (h : F (Lfp F) x) : Lfp F x :=
  fun R hR => hR x (hm _ R x (fun _ hy => hy R hR) h)

theorem Lfp.ind {α : Type} {F : (α → Prop) → α → Prop} (hm : Grows F) {p : α → Prop} (hp : ∀ y, F (fun z => Lfp F z ∧ p z) y → p y) {x : α} (h : Lfp F x) : p x :=
  (h (fun y => Lfp F y ∧ p y) (fun y hy => ⟨Lfp.fold hm (hm _ _ y (fun _ hz => hz.1) hy), hp y hy⟩)).2

end Go.Proofs.YthioecjcnajmgaaGreatDoor

namespace Go.Proofs.YthioecjcnajmgaaGreatDoor

open Go.RowKit

/-- A node's five cells. -/
def Nd.row (n : Nd) : List Value := [.int .i64 n.kind, .int .i64 n.num, .string n.text, .int .i64 n.kids, .int .i64 n.place]

/-- The cells of a row of nodes. -/
def flat (ys : List Nd) : List Value := ys.flatMap Nd.row

theorem flat_length (ys : List Nd) : (flat ys).length = ys.length * 5 := by
  induction ys with
  | nil => rfl
  | cons y ys ih => simp [flat, Nd.row] at *; omega

theorem flat_cons (y : Nd) (ys : List Nd) : flat (y :: ys) = y.row ++ flat ys := rfl

theorem flat_append (xs ys : List Nd) : flat (xs ++ ys) = flat xs ++ flat ys := by simp [flat]

theorem flat_get (ys : List Nd) (i t : Nat) (hi : i < ys.length) (ht : t < 5) : (flat ys)[i * 5 + t]? = (ys[i].row)[t]? := by
  induction ys generalizing i with
  | nil => simp at hi
  | cons y ys ih =>
    rw [flat_cons]
    cases i with
    | zero => rw [List.getElem?_append_left (by simp [Nd.row]; omega)]; simp
    | succ i =>
      rw [List.getElem?_append_right (by simp [Nd.row]; omega)]
      have e : (i + 1) * 5 + t - y.row.length = i * 5 + t := by simp [Nd.row]; omega
      rw [e, ih i (by simpa using hi)]
      simp

/-- Block g is a row of the call's own that begins with these cells. -/
def Own (w : World) (g : Nat) (cs : List Value) : Prop := ∃ cur rest, w.heap[g]? = some (.cells cur 40 (0, 0)) ∧ cur.toList = cs ++ rest

theorem Own.lt {w : World} {g : Nat} {cs : List Value} (h : Own w g cs) : g < w.heap.size := by
  obtain ⟨cur, rest, hg, _⟩ := h
  exact (Array.getElem?_eq_some_iff.1 hg).1

theorem Own.set {w : World} {g : Nat} {cs : List Value} (h : Own w g cs) (j : Nat) (v : Value) (hj : j < cs.length) : Own (w.setCell ⟨g, j, none⟩ v) g (cs.set j v) := by
  obtain ⟨cur, rest, hg, hc⟩ := h
  exact ⟨_, rest, heap_setCell_same _ g _ _ 40 _ hg, by rw [Array.toList_setIfInBounds, hc, List.set_append_left _ _ hj]⟩

theorem Own.at {w : World} {g : Nat} {cs : List Value} (h : Own w g cs) (j : Nat) (hj : j < cs.length) : w.cell? ⟨g, j, none⟩ = cs[j]? := by
  obtain ⟨cur, rest, hg, hc⟩ := h
  rw [cell_of_row w g _ cur 40 (0, 0) hg, ← Array.getElem?_toList, hc, List.getElem?_append_left hj]

theorem Own.has {w : World} {g : Nat} {cs : List Value} (h : Own w g cs) (j : Nat) (hj : j < cs.length) : ∃ v, w.cell? ⟨g, j, none⟩ = some v :=
  ⟨cs[j], by rw [h.at j hj, List.getElem?_eq_getElem hj]⟩

theorem Own.frozen {w : World} {g : Nat} {cs : List Value} (h : Own w g cs) (j : Nat) : w.frozen? ⟨g, j, none⟩ = false := by
  obtain ⟨cur, _, hg, _⟩ := h
  exact frozen_of_row w g j cur 40 hg

theorem Own.below {w w' : World} {g : Nat} {cs : List Value} (h : Own w g cs) (hb : Below w.heap.size w w') : Own w' g cs := by
  have hlt := h.lt
  obtain ⟨cur, rest, hg, hc⟩ := h
  exact ⟨cur, rest, (hb.block g hlt).trans hg, hc⟩

/-- Block g is a row of nodes, all of them the call's own. -/
def Row (w : World) (g : Nat) (ys : List Nd) : Prop := Own w g (flat ys)

theorem Own.row {w : World} {g : Nat} {cs : List Value} {ys : List Nd} (h : Own w g cs) (e : cs = flat ys) : Row w g ys := by
  subst e
  exact h

theorem Row.lt {w : World} {g : Nat} {ys : List Nd} (h : Row w g ys) : g < w.heap.size := Own.lt h

theorem Row.cell {w : World} {g : Nat} {ys : List Nd} (h : Row w g ys) (i t : Nat) (hi : i < ys.length) (ht : t < 5) : w.cell? ⟨g, i * 5 + t, none⟩ = (ys[i].row)[t]? := by
  rw [Own.at h _ (by rw [flat_length]; omega), flat_get ys i t hi ht]

theorem Row.node {w : World} {g : Nat} {ys : List Nd} (h : Row w g ys) (i : Nat) (hi : i < ys.length) : NodeAt w g (i * 5) ys[i] :=
  ⟨h.cell i 0 hi (by omega), h.cell i 1 hi (by omega), h.cell i 2 hi (by omega), h.cell i 3 hi (by omega), h.cell i 4 hi (by omega)⟩

theorem Row.nodes {w : World} {g : Nat} {ys : List Nd} (h : Row w g ys) : Nodes w (some ⟨g, 0, none⟩) ys := by
  intro i hi
  exact ⟨g, 0, rfl, by simpa using h.node i hi⟩

theorem Row.frozen {w : World} {g : Nat} {ys : List Nd} (h : Row w g ys) (j : Nat) : w.frozen? ⟨g, j, none⟩ = false := Own.frozen h j

theorem Row.below {w w' : World} {g : Nat} {ys : List Nd} (h : Row w g ys) (hb : Below w.heap.size w w') : Row w' g ys := Own.below h hb

theorem Row.has {w : World} {g : Nat} {ys : List Nd} (h : Row w g ys) (j : Nat) (hj : j < ys.length * 5) : ∃ v, w.cell? ⟨g, j, none⟩ = some v :=
  Own.has h j (by rw [flat_length]; exact hj)

theorem flat_set (ys : List Nd) (i : Nat) (hi : i < ys.length) (n : Nd) :
    (((((flat ys).set (i * 5) (.int .i64 n.kind)).set (i * 5 + 1) (.int .i64 n.num)).set (i * 5 + 2) (.string n.text)).set (i * 5 + 3) (.int .i64 n.kids)).set (i * 5 + 4) (.int .i64 n.place) = flat (ys.set i n) := by
  apply List.ext_getElem?
  intro j
  by_cases hj : j < ys.length * 5
  · have e : j = (j / 5) * 5 + j % 5 := by omega
    have hq : j / 5 < ys.length := by omega
    have hr : j % 5 < 5 := by omega
    generalize j / 5 = q at *
    generalize j % 5 = r at *
    subst e
    rw [flat_get _ q r (by simpa using hq) hr]
    simp only [List.getElem?_set, List.length_set, flat_length]
    by_cases hqi : q = i
    · subst hqi
      match r, hr with
      | 0, _ => simp [Nd.row]; omega
      | 1, _ => simp [Nd.row]; omega
      | 2, _ => simp [Nd.row]; omega
      | 3, _ => simp [Nd.row]; omega
      | 4, _ => simp [Nd.row]; omega
    · rw [if_neg (by omega), if_neg (by omega), if_neg (by omega), if_neg (by omega), if_neg (by omega), flat_get ys q r hq hr]
      simp [Ne.symm hqi]
  · rw [List.getElem?_eq_none (by simp [flat_length]; omega), List.getElem?_eq_none (by simp [flat_length]; omega)]

/-- Five stores: one node is put. -/
theorem Row.put {w : World} {g : Nat} {ys : List Nd} (h : Row w g ys) (i : Nat) (hi : i < ys.length) (n : Nd) :
    Row (((((w.setCell ⟨g, i * 5, none⟩ (.int .i64 n.kind)).setCell ⟨g, i * 5 + 1, none⟩ (.int .i64 n.num)).setCell ⟨g, i * 5 + 2, none⟩ (.string n.text)).setCell ⟨g, i * 5 + 3, none⟩ (.int .i64 n.kids)).setCell ⟨g, i * 5 + 4, none⟩ (.int .i64 n.place)) g (ys.set i n) := by
  have hl := flat_length ys
  exact (((((Own.set h (i * 5) _ (by omega)).set (i * 5 + 1) _ (by simp only [List.length_set]; omega)).set (i * 5 + 2) _ (by simp only [List.length_set]; omega)).set (i * 5 + 3) _ (by simp only [List.length_set]; omega)).set (i * 5 + 4) _ (by simp only [List.length_set]; omega)).row (flat_set ys i hi n)

theorem undrew {w w1 : World} (h : Below w.drew.heap.size w.drew w1) : Below w.heap.size w w1 := ⟨h.os, h.tape, h.output, h.size, h.block⟩

theorem bcell {W w1 : World} (hb : Below W.heap.size W w1) : (∀ b o, b < W.heap.size → w1.cell? ⟨b, o, none⟩ = W.cell? ⟨b, o, none⟩) :=
  fun b o h => hb.cell (p := ⟨b, o, none⟩) h

def Nd.zero : Nd := ⟨0, 0, ByteArray.empty, 0, 0⟩

theorem made_flat (n : Nat) : (madeCells #[.int .i64 0, .int .i64 0, .string ByteArray.empty, .int .i64 0, .int .i64 0] (n * 5)).toList = flat (List.replicate n Nd.zero) := by
  apply List.ext_getElem?
  intro j
  by_cases hj : j < n * 5
  · have e : j = (j / 5) * 5 + j % 5 := by omega
    have hq : j / 5 < n := by omega
    have hr : j % 5 < 5 := by omega
    generalize j / 5 = q at *
    generalize j % 5 = r at *
    subst e
    rw [flat_get _ q r (by simpa using hq) hr]
    have em : (q * 5 + r) % 5 = r := by omega
    simp only [madeCells, Array.toList_map, List.getElem?_map, Array.toList_range]
    rw [List.getElem?_range hj]
    match r, hr with
    | 0, _ => simp [Nd.row, Nd.zero]
    | 1, _ => simp [Nd.row, Nd.zero, em]
    | 2, _ => simp [Nd.row, Nd.zero, em]
    | 3, _ => simp [Nd.row, Nd.zero, em]
    | 4, _ => simp [Nd.row, Nd.zero, em]
  · rw [List.getElem?_eq_none (by simp [madeCells]; omega), List.getElem?_eq_none (by simp [flat_length]; omega)]

theorem Row.made (w : World) (n : Nat) : Row (w.alloc (.cells (madeCells #[.int .i64 0, .int .i64 0, .string ByteArray.empty, .int .i64 0, .int .i64 0] (n * 5)) 40)) w.heap.size (List.replicate n Nd.zero) :=
  ⟨_, [], heap_alloc_new _ _, by rw [made_flat n, List.append_nil]⟩

/-- w' is w but for new blocks and for the blocks of S. -/
structure But (S : Nat → Prop) (w w' : World) : Prop where
  os : w'.os = w.os
  tape : w'.tape = w.tape
  output : w'.output = w.output
  size : w.heap.size ≤ w'.heap.size
  block : ∀ k, k < w.heap.size → ¬ S k → w'.heap[k]? = w.heap[k]?

theorem But.refl (S : Nat → Prop) (w : World) : But S w w := ⟨rfl, rfl, rfl, Nat.le_refl _, fun _ _ _ => rfl⟩

theorem But.trans {S : Nat → Prop} {a b c : World} (h : But S a b) (k : But S b c) : But S a c :=
  ⟨k.os.trans h.os, k.tape.trans h.tape, k.output.trans h.output, Nat.le_trans h.size k.size, fun i hi hs => (k.block i (Nat.lt_of_lt_of_le hi h.size) hs).trans (h.block i hi hs)⟩

theorem But.mono {S T : Nat → Prop} {a b : World} (h : But S a b) (hs : ∀ k, S k → T k) : But T a b :=
  ⟨h.os, h.tape, h.output, h.size, fun i hi ht => h.block i hi fun hk => ht (hs i hk)⟩

theorem But.ofBelow {S : Nat → Prop} {a b : World} (h : Below a.heap.size a b) : But S a b := ⟨h.os, h.tape, h.output, h.size, fun i hi _ => h.block i hi⟩

theorem But.below {S : Nat → Prop} {B : Nat} {a b : World} (h : But S a b) (hB : B ≤ a.heap.size) (hs : ∀ k, S k → B ≤ k) : Below B a b :=
  ⟨h.os, h.tape, h.output, h.size, fun i hi => h.block i (by omega) fun hk => by have := hs i hk; omega⟩

theorem But.setCell {S : Nat → Prop} {a w : World} (h : But S a w) {p : Addr} (hp : S p.block) (u : Value) : But S a (w.setCell p u) :=
  ⟨h.os, h.tape, h.output, by simp [World.setCell]; exact h.size, fun i hi hs => (Below.heap_setCell w p u i (fun e => hs (by rw [e]; exact hp))).trans (h.block i hi hs)⟩

theorem But.row {S : Nat → Prop} {w w' : World} (h : But S w w') {g : Nat} {ys : List Nd} (hr : Row w g ys) (hg : ¬ S g) : Row w' g ys := by
  have hlt := hr.lt
  obtain ⟨cur, rest, hc, he⟩ := hr
  exact ⟨cur, rest, (h.block g hlt hg).trans hc, he⟩

theorem size_setCell (w : World) (a : Addr) (v : Value) : (w.setCell a v).heap.size = w.heap.size := by simp [World.setCell]

/-- A slice of slices of nodes. -/
def Lists (w : World) (ao : Option Addr) (kss : List (List Nd)) : Prop :=
  ∀ i (h : i < kss.length), ∃ b o ai ci, ao = some ⟨b, o, none⟩ ∧ w.cell? ⟨b, o + i, none⟩ = some (.slice ai kss[i].length ci) ∧ Nodes w ai kss[i]

theorem Lists.below {w w' : World} {ao : Option Addr} {kss : List (List Nd)} (h : Lists w ao kss) (hb : Below w.heap.size w w') : Lists w' ao kss := by
  intro i hi
  obtain ⟨b, o, ai, ci, e, hc, hn⟩ := h i hi
  exact ⟨b, o, ai, ci, e, (hb.cell (p := ⟨b, o + i, none⟩) (lt_of_cell hc)).trans hc, hn.below hb⟩

/-- How many nodes there are. -/
def total (kss : List (List Nd)) : Nat := (kss.map List.length).sum

theorem total_take_succ (kss : List (List Nd)) (k : Nat) (h : k < kss.length) : total (kss.take (k + 1)) = total (kss.take k) + kss[k].length := by
  rw [List.take_succ_eq_append_getElem h]
  simp only [total, List.map_append, List.sum_append, List.map_cons, List.map_nil, List.sum_cons, List.sum_nil, Nat.add_zero]

theorem total_take_le (kss : List (List Nd)) (k : Nat) : total (kss.take k) ≤ total kss := by
  have e : total kss = total (kss.take k) + total (kss.drop k) := by
    conv => lhs; rw [← List.take_append_drop k kss]
    simp only [total, List.map_append, List.sum_append]
  omega

theorem length_le_total (kss : List (List Nd)) (k : Nat) (h : k < kss.length) : kss[k].length ≤ total kss := by
  have h1 := total_take_succ kss k h
  have h2 := total_take_le kss (k + 1)
  omega

/-- The slices that lead to the rows gs. -/
def leads (gs : List Nat) (kss : List (List Nd)) : List Value := List.zipWith (fun h ks => .slice (some ⟨h, 0, none⟩) ks.length ks.length) gs kss

/-- Block g is a row of slices of the call's own. -/
def OwnS (w : World) (g : Nat) (cs : List Value) : Prop := ∃ cur, w.heap[g]? = some (.cells cur 27 (0, 0)) ∧ cur.toList = cs

theorem OwnS.lt {w : World} {g : Nat} {cs : List Value} (h : OwnS w g cs) : g < w.heap.size := by
  obtain ⟨cur, hg, _⟩ := h
  exact (Array.getElem?_eq_some_iff.1 hg).1

theorem OwnS.set {w : World} {g : Nat} {cs : List Value} (h : OwnS w g cs) (j : Nat) (v : Value) : OwnS (w.setCell ⟨g, j, none⟩ v) g (cs.set j v) := by
  obtain ⟨cur, hg, hc⟩ := h
  exact ⟨_, heap_setCell_same _ g _ _ 27 _ hg, by rw [Array.toList_setIfInBounds, hc]⟩

theorem OwnS.at {w : World} {g : Nat} {cs : List Value} (h : OwnS w g cs) (j : Nat) : w.cell? ⟨g, j, none⟩ = cs[j]? := by
  obtain ⟨cur, hg, hc⟩ := h
  rw [cell_of_row w g _ cur 27 (0, 0) hg, ← Array.getElem?_toList, hc]

theorem OwnS.frozen {w : World} {g : Nat} {cs : List Value} (h : OwnS w g cs) (j : Nat) : w.frozen? ⟨g, j, none⟩ = false := by
  obtain ⟨cur, hg, _⟩ := h
  exact frozen_of_row w g j cur 27 hg

theorem OwnS.below {w w' : World} {g : Nat} {cs : List Value} (h : OwnS w g cs) (hb : Below w.heap.size w w') : OwnS w' g cs := by
  have hlt := h.lt
  obtain ⟨cur, hg, hc⟩ := h
  exact ⟨cur, (hb.block g hlt).trans hg, hc⟩

theorem OwnS.but {S : Nat → Prop} {w w' : World} {g : Nat} {cs : List Value} (h : OwnS w g cs) (hb : But S w w') (hs : ¬ S g) : OwnS w' g cs := by
  have hlt := h.lt
  obtain ⟨cur, hg, hc⟩ := h
  exact ⟨cur, (hb.block g hlt hs).trans hg, hc⟩

/-- A row of slices is no row of nodes. -/
theorem OwnS.ne {w : World} {g h : Nat} {cs ds : List Value} (a : OwnS w g cs) (b : Own w h ds) : h ≠ g := by
  rintro rfl
  obtain ⟨cur, hg, _⟩ := a
  obtain ⟨cur', _, hg', _⟩ := b
  rw [hg] at hg'
  simp at hg'

/-- Each of the rows gs holds its nodes. -/
def RowsAt (w : World) (gs : List Nat) (kss : List (List Nd)) : Prop := gs.length = kss.length ∧ ∀ i (h : i < gs.length) (h' : i < kss.length), Row w gs[i] kss[i]

theorem RowsAt.below {w w' : World} {gs : List Nat} {kss : List (List Nd)} (h : RowsAt w gs kss) (hb : Below w.heap.size w w') : RowsAt w' gs kss :=
  ⟨h.1, fun i hi hi' => (h.2 i hi hi').below hb⟩

/-- All of it: the row g of slices, the rows gs of nodes, no two of them one. -/
structure Two (w : World) (g : Nat) (gs : List Nat) (kss : List (List Nd)) : Prop where
  lead : OwnS w g (leads gs kss)
  rows : RowsAt w gs kss
  nodup : gs.Nodup

theorem Two.below {w w' : World} {g : Nat} {gs : List Nat} {kss : List (List Nd)} (h : Two w g gs kss) (hb : Below w.heap.size w w') : Two w' g gs kss :=
  ⟨h.lead.below hb, h.rows.below hb, h.nodup⟩

theorem Two.get {w : World} {g : Nat} {gs : List Nat} {kss : List (List Nd)} (h : Two w g gs kss) (i : Nat) (hi : i < kss.length) (hi' : i < gs.length) :
    w.cell? ⟨g, i, none⟩ = some (.slice (some ⟨gs[i], 0, none⟩) kss[i].length kss[i].length) ∧ Row w gs[i] kss[i] := by
  refine ⟨?_, h.rows.2 i hi' hi⟩
  rw [h.lead.at i]
  simp [leads, List.getElem?_zipWith, List.getElem?_eq_getElem hi, List.getElem?_eq_getElem hi']

theorem Two.lists {w : World} {g : Nat} {gs : List Nat} {kss : List (List Nd)} (h : Two w g gs kss) : Lists w (some ⟨g, 0, none⟩) kss := by
  intro i hi
  have hi' : i < gs.length := by rw [h.rows.1]; exact hi
  obtain ⟨hc, hr⟩ := h.get i hi hi'
  exact ⟨g, 0, _, _, rfl, by simpa using hc, hr.nodes⟩

theorem RowsAt.snoc {w : World} {gs : List Nat} {kss : List (List Nd)} {k g' : Nat} (h : RowsAt w gs (kss.take k)) (hk : k < kss.length) (hr : Row w g' kss[k]) : RowsAt w (gs ++ [g']) (kss.take (k + 1)) := by
  have hg : gs.length = k := by have := h.1; simp at this; omega
  refine ⟨by simp; omega, ?_⟩
  intro i hi hi'
  by_cases hik : i < k
  · have h1 := h.2 i (by omega) (by simp; omega)
    simp only [List.getElem_take] at h1 ⊢
    rw [List.getElem_append_left (by omega)]
    exact h1
  · have e : i = k := by simp at hi; omega
    subst e
    simp only [List.getElem_take]
    rw [List.getElem_append_right (by omega)]
    simpa using hr

theorem RowsAt.put {w : World} {gs : List Nat} {kss : List (List Nd)} {g : Nat} {cs : List Value} (h : RowsAt w gs kss) (ho : OwnS w g cs) (j : Nat) (v : Value) : RowsAt (w.setCell ⟨g, j, none⟩ v) gs kss :=
  ⟨h.1, fun i hi hi' => by
    have hr := h.2 i hi hi'
    exact ((But.refl (· = g) w).setCell (p := ⟨g, j, none⟩) rfl v).row hr (ho.ne hr)⟩

end Go.Proofs.YthioecjcnajmgaaGreatDoor

namespace Go.Proofs.YthioecjcnajmgaaGreatDoor
open Go.RowKit

section
variable {P : Program} (w : World)

/-- Where the new slice lies: where the old one lay, or in a new block. -/
theorem append_where (t ty e : TypeId) (i : TypeInfo) (z : Value) (ht : P.underlying t = some (.slice e)) (hi : P.info? e = some i) (hz : i.zero = some z)
    (base g n cap : Nat) (xs : List Value) (hown : w.ownsRow base e i.size (.slice (some ⟨g, 0, none⟩) n cap) n xs)
    (a : Addr) (m c : Nat) (news : List Value) (hl : news.length = m * i.size) (hnews : ∀ j u, news[j]? = some u → w.cell? (a.add j) = some u) (h1 : ∀ u ∈ news, u.oneCell' = true)
    (h63 : n + m ≤ maxLen) (hbytes : (n + m) * i.bytes ≤ 140737488355328) {v' : Value} {w' : World}
    (hr : (Builtin.append_ #[t, t] ty #[.slice (some ⟨g, 0, none⟩) n cap, .slice (some a) m c]).run P w = .ok v' w') :
    ∃ g' cap', v' = .slice (some ⟨g', 0, none⟩) (n + m) cap' ∧ (g' = g ∨ g' = w.heap.size) := by
  rcases hown.2 with ⟨h, _⟩ | ⟨g2, cap2, cur, he, _, hg, hnc, hcm, hcs, htake⟩
  · cases h
  · simp only [Value.slice.injEq, Option.some.injEq, Addr.mk.injEq, and_true, true_and] at he
    obtain ⟨rfl, rfl⟩ := he
    have hsmall : n + m ≤ 9223372036854775807 := by simp only [maxLen] at h63; omega
    by_cases hroom : n + m ≤ cap
    · have hfit : n * i.size + news.length ≤ cur.size := by rw [hl, hcs, ← Nat.add_mul]; exact Nat.mul_le_mul_right _ hroom
      have h2 := run_append_room (P := P) w t ty e i ht hi g n cap cur hg a m c news hl hnews h1 hroom hfit
      rw [h2] at hr
      simp only [Result.ok.injEq] at hr
      exact ⟨g, cap, hr.1.symm, Or.inl rfl⟩
    · have holds : ∀ j u, xs[j]? = some u → w.cell? ((⟨g, 0, none⟩ : Addr).add j) = some u := hown.cells (g := g) rfl
      have h2 := run_append_grow (P := P) w t ty e i z ht hi hz ⟨g, 0, none⟩ n cap xs hown.1 holds a m c news hl hnews (by omega) (by omega) (growslice_fits (by omega) hbytes)
      rw [h2] at hr
      simp only [Result.ok.injEq] at hr
      exact ⟨w.heap.size, _, hr.1.symm, Or.inr rfl⟩

/-- append to a slice of the call's own that is not nil, as one operation. -/
theorem wp_append2 {o : Oper} {a : Act} {K : Act → World → Prop} {Q : Exit → Act → World → Prop} (s x : Operand) (t : TypeId)
    (ho : o.op = .call { callee := .builtin .append, args := #[s, x], argTypes := #[t, t] })
    (base : Nat) (e : TypeId) (i : TypeInfo) (z : Value) (size bytes : Nat) (ht : P.underlying t = some (.slice e)) (hi : P.info? e = some i) (hz : i.zero = some z)
    (hsize : i.size = size) (hby : i.bytes = bytes) (hzs : z.cells.size = size) (hsz : 0 < size)
    (g n cap : Nat) (xs : List Value) (hs : a.eval s = .slice (some ⟨g, 0, none⟩) n cap) (hown : w.ownsRow base e size (.slice (some ⟨g, 0, none⟩) n cap) n xs)
    (ad : Addr) (m c : Nat) (news : List Value) (hx : a.eval x = .slice (some ad) m c) (hl : news.length = m * size) (hnews : ∀ j u, news[j]? = some u → w.cell? (ad.add j) = some u) (h1 : ∀ u ∈ news, u.oneCell' = true)
    (h63 : n + m ≤ maxLen) (hbytes : (n + m) * bytes ≤ 140737488355328) (hbase : base ≤ w.heap.size)
    (h : ∀ g' cap' w', w'.ownsRow base e size (.slice (some ⟨g', 0, none⟩) (n + m) cap') (n + m) (xs ++ news) → w.grownBy w' (some g) → (g' = g ∨ g' = w.heap.size) → K (a.put o.dst (.slice (some ⟨g', 0, none⟩) (n + m) cap')) w') : o.wp P a w K Q := by
  subst hsize hby
  obtain ⟨v', w', hr, h2, h3, h4⟩ := run_append_own (P := P) w base t o.type e i z i.size i.bytes ht hi hz rfl rfl hzs hsz _ n xs hown ad m c news hl hnews h1 h63 hbytes hbase
  obtain ⟨g', cap', rfl, hw⟩ := append_where w t o.type e i z ht hi hz base g n cap xs hown ad m c news hl hnews h1 h63 hbytes hr
  unfold Oper.wp execOp
  simp only [ho, resolve, invoke, builtin, Sem.run_bind, Sem.run_pure, Result.andThen_ok, List.map_toArray, List.map_cons, List.map_nil, hs, hx, hr]
  exact h g' cap' w' h2 h3 hw

/-- .. in a row of operations. -/
theorem wpList_append2 {ops : Array Oper} {rest : List Oper} {o : Oper} {a : Act} {Q : Exit → Act → World → Prop} (hgd : o.guard = none) (s x : Operand) (t : TypeId)
    (ho : o.op = .call { callee := .builtin .append, args := #[s, x], argTypes := #[t, t] })
    (base : Nat) (e : TypeId) (i : TypeInfo) (z : Value) (size bytes : Nat) (ht : P.underlying t = some (.slice e)) (hi : P.info? e = some i) (hz : i.zero = some z)
    (hsize : i.size = size) (hby : i.bytes = bytes) (hzs : z.cells.size = size) (hsz : 0 < size)
    (g n cap : Nat) (xs : List Value) (hs : a.eval s = .slice (some ⟨g, 0, none⟩) n cap) (hown : w.ownsRow base e size (.slice (some ⟨g, 0, none⟩) n cap) n xs)
    (ad : Addr) (m c : Nat) (news : List Value) (hx : a.eval x = .slice (some ad) m c) (hl : news.length = m * size) (hnews : ∀ j u, news[j]? = some u → w.cell? (ad.add j) = some u) (h1 : ∀ u ∈ news, u.oneCell' = true)
    (h63 : n + m ≤ maxLen) (hbytes : (n + m) * bytes ≤ 140737488355328) (hbase : base ≤ w.heap.size)
    (h : ∀ g' cap' w', w'.ownsRow base e size (.slice (some ⟨g', 0, none⟩) (n + m) cap') (n + m) (xs ++ news) → w.grownBy w' (some g) → (g' = g ∨ g' = w.heap.size) → wpList P ops Q rest (a.put o.dst (.slice (some ⟨g', 0, none⟩) (n + m) cap')) w') : wpList P ops Q (o :: rest) a w :=
  wpList_plain hgd fun _ hK => wp_append2 w s x t ho base e i z size bytes ht hi hz hsize hby hzs hsz g n cap xs hs hown ad m c news hx hl hnews h1 h63 hbytes hbase fun g' cap' w' h2 h3 h4 => hK _ _ (h g' cap' w' h2 h3 h4)

/-- .. in a region that draws its order. -/
theorem step_append2 {ops : Array Oper} {o : Oper} {a : Act} {K : Act → World → Prop} {Q : Exit → Act → World → Prop} {E : Prop} (hgd : o.guard = none) (s x : Operand) (t : TypeId)
    (ho : o.op = .call { callee := .builtin .append, args := #[s, x], argTypes := #[t, t] })
    (base : Nat) (e : TypeId) (i : TypeInfo) (z : Value) (size bytes : Nat) (ht : P.underlying t = some (.slice e)) (hi : P.info? e = some i) (hz : i.zero = some z)
    (hsize : i.size = size) (hby : i.bytes = bytes) (hzs : z.cells.size = size) (hsz : 0 < size)
    (g n cap : Nat) (xs : List Value) (hs : a.eval s = .slice (some ⟨g, 0, none⟩) n cap) (hown : w.ownsRow base e size (.slice (some ⟨g, 0, none⟩) n cap) n xs)
    (ad : Addr) (m c : Nat) (news : List Value) (hx : a.eval x = .slice (some ad) m c) (hl : news.length = m * size) (hnews : ∀ j u, news[j]? = some u → w.cell? (ad.add j) = some u) (h1 : ∀ u ∈ news, u.oneCell' = true)
    (h63 : n + m ≤ maxLen) (hbytes : (n + m) * bytes ≤ 140737488355328) (hbase : base ≤ w.heap.size)
    (h : ∀ g' cap' w', w'.ownsRow base e size (.slice (some ⟨g', 0, none⟩) (n + m) cap') (n + m) (xs ++ news) → w.grownBy w' (some g) → (g' = g ∨ g' = w.heap.size) → K (a.put o.dst (.slice (some ⟨g', 0, none⟩) (n + m) cap')) w') :
    if Region.wanted o (yielded ops a.tmps) = true then Oper.wp P o a w K Q else E := by
  have hw : Region.wanted o (yielded ops a.tmps) = true := by simp [Region.wanted, hgd]
  rw [if_pos hw]
  exact wp_append2 w s x t ho base e i z size bytes ht hi hz hsize hby hzs hsz g n cap xs hs hown ad m c news hx hl hnews h1 h63 hbytes hbase h
end

/-- A shorter part of an owned slice. -/
theorem owns_take {w : World} {base : Nat} {e : TypeId} {size g n cap : Nat} {xs : List Value} (h : w.ownsRow base e size (.slice (some ⟨g, 0, none⟩) n cap) n xs) (m : Nat) (hm : m ≤ n) :
    w.ownsRow base e size (.slice (some ⟨g, 0, none⟩) m cap) m (xs.take (m * size)) := by
  have hle : m * size ≤ n * size := Nat.mul_le_mul_right _ hm
  refine ⟨by rw [List.length_take, h.1]; omega, ?_⟩
  rcases h.2 with ⟨h', _⟩ | ⟨g2, cap2, cur, he, hb, hg, hnc, hcm, hcs, htake⟩
  · cases h'
  · simp only [Value.slice.injEq, Option.some.injEq, Addr.mk.injEq, and_true, true_and] at he
    obtain ⟨rfl, rfl⟩ := he
    exact Or.inr ⟨g, cap, cur, rfl, hb, hg, by omega, hcm, hcs, by rw [← htake, List.take_take, Nat.min_eq_left hle]⟩

/-- What an owned slice holds. -/
theorem owns_at {w : World} {base : Nat} {e : TypeId} {size g n cap : Nat} {xs : List Value} (h : w.ownsRow base e size (.slice (some ⟨g, 0, none⟩) n cap) n xs) (j : Nat) (hj : j < n * size) : w.cell? ⟨g, j, none⟩ = xs[j]? := h.cellAt j hj

theorem owns_kept {w w' : World} {base : Nat} {e : TypeId} {size g n cap : Nat} {xs : List Value} (h : w.ownsRow base e size (.slice (some ⟨g, 0, none⟩) n cap) n xs) {k : Nat} (hg : w.grownBy w' (some k)) (hne : g ≠ k) : w'.ownsRow base e size (.slice (some ⟨g, 0, none⟩) n cap) n xs := by
  refine ⟨h.1, ?_⟩
  rcases h.2 with h' | ⟨g2, cap2, cur, he, hb, hh, r⟩
  · exact Or.inl h'
  · have he' := he
    simp only [Value.slice.injEq, Option.some.injEq, Addr.mk.injEq, and_true, true_and] at he
    obtain ⟨rfl, rfl⟩ := he
    exact Or.inr ⟨g, cap, cur, rfl, hb, (hg.block g (Array.getElem?_eq_some_iff.1 hh).1 (by simpa using hne)).trans hh, r⟩

theorem owns_block {w : World} {base : Nat} {e : TypeId} {size g n cap : Nat} {xs : List Value} (h : w.ownsRow base e size (.slice (some ⟨g, 0, none⟩) n cap) n xs) : base ≤ g ∧ g < w.heap.size := by
  rcases h.2 with ⟨h', _⟩ | ⟨g2, cap2, cur, he, hb, hh, r⟩
  · cases h'
  · simp only [Value.slice.injEq, Option.some.injEq, Addr.mk.injEq, and_true, true_and] at he
    obtain ⟨rfl, rfl⟩ := he
    exact ⟨hb, (Array.getElem?_eq_some_iff.1 hh).1⟩

theorem owns_but {S : Nat → Prop} {w w' : World} {base : Nat} {e : TypeId} {size g n cap : Nat} {xs : List Value} (h : w.ownsRow base e size (.slice (some ⟨g, 0, none⟩) n cap) n xs) (hb : But S w w') (hne : ¬ S g) : w'.ownsRow base e size (.slice (some ⟨g, 0, none⟩) n cap) n xs := by
  refine ⟨h.1, ?_⟩
  rcases h.2 with h' | ⟨g2, cap2, cur, he, hbs, hh, r⟩
  · exact Or.inl h'
  · simp only [Value.slice.injEq, Option.some.injEq, Addr.mk.injEq, and_true, true_and] at he
    obtain ⟨rfl, rfl⟩ := he
    exact Or.inr ⟨g, cap, cur, rfl, hbs, (hb.block g (Array.getElem?_eq_some_iff.1 hh).1 hne).trans hh, r⟩

end Go.Proofs.YthioecjcnajmgaaGreatDoor

namespace Go.Proofs.YthioecjcnajmgaaGreatDoor

open Go.RowKit





/-- The decimal digits, as the loop lays them. -/
def digs : Nat → Nat → ByteArray → ByteArray
  | 0, _, out => out
  | f + 1, q, out => if q = 0 then out else digs f (q / 10) (strOfNums [48 + (q : Int) % 10] ++ out)

def mtext (k : Nat) : ByteArray := ⟨#[109]⟩ ++ digs 20 k ⟨#[]⟩

end Go.Proofs.YthioecjcnajmgaaGreatDoor
