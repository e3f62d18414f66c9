import Derived.WalkKit
import Derived.WalkSpells
import Derived.WalkLawsBesides
import Derived.Test.YtoiiibplkhedcaaGreatDoorProg
set_option maxRecDepth 20000
set_option maxHeartbeats 2000000
namespace Go.Proofs.YtoiiibplkhedcaaGreatDoor
open Go.RowKit
structure Nd where
  kind : Int
  num : Int
  text : ByteArray
  kids : Int
  place : Int
def Nd.eqb (a b : Nd) : Bool := a.kind == b.kind && a.num == b.num && (a.text.toList == b.text.toList) && a.kids == b.kids && a.place == b.place
def Nd.sameb (a b : Nd) : Bool := a.kind == b.kind && a.num == b.num && (a.text.toList == b.text.toList) && a.kids == b.kids
theorem Nd.eqb_refl (a : Nd) : a.eqb a = true := by simp [Nd.eqb]
def NodeAt (w : World) (b o : Nat) (n : Nd) : Prop :=
  w.cell? ⟨b, o, none⟩ = some (.int .i64 n.kind) ∧ w.cell? ⟨b, o + 1, none⟩ = some (.int .i64 n.num) ∧ w.cell? ⟨b, o + 2, none⟩ = some (.string n.text) ∧
    w.cell? ⟨b, o + 3, none⟩ = some (.int .i64 n.kids) ∧ w.cell? ⟨b, o + 4, none⟩ = some (.int .i64 n.place)
theorem Qaa {w : World} {a : Addr} {v : Value} (h : w.cell? a = some v) : a.block < w.heap.size := by
  by_cases hb : a.block < w.heap.size
  · exact hb
  · exfalso
    simp [World.cell?, Array.getElem?_eq_none (Nat.le_of_not_lt hb)] at h
theorem NodeAt.below {w w' : World} {b o : Nat} {n : Nd} (h : NodeAt w b o n) (hb : Below w.heap.size w w') : NodeAt w' b o n := by
  have hlt : b < w.heap.size := Qaa h.1
  exact ⟨(hb.cell (p := ⟨b, o, none⟩) hlt).trans h.1, (hb.cell (p := ⟨b, o + 1, none⟩) hlt).trans h.2.1, (hb.cell (p := ⟨b, o + 2, none⟩) hlt).trans h.2.2.1,
    (hb.cell (p := ⟨b, o + 3, none⟩) hlt).trans h.2.2.2.1, (hb.cell (p := ⟨b, o + 4, none⟩) hlt).trans h.2.2.2.2⟩
def Nodes (w : World) (ao : Option Addr) (xs : List Nd) : Prop :=
  ∀ i (h : i < xs.length), ∃ b o, ao = some ⟨b, o, none⟩ ∧ NodeAt w b (o + i * 5) xs[i]
theorem Nodes.below {w w' : World} {ao : Option Addr} {xs : List Nd} (h : Nodes w ao xs) (hb : Below w.heap.size w w') : Nodes w' ao xs := by
  intro i hi
  obtain ⟨b, o, e, hn⟩ := h i hi
  exact ⟨b, o, e, hn.below hb⟩
theorem Below.step {w a b : World} (h : Below w.heap.size w a) (k : Below a.heap.size a b) : Below w.heap.size w b :=
  h.trans (k.mono h.size)
def Nd.row (n : Nd) : List Value := [.int .i64 n.kind, .int .i64 n.num, .string n.text, .int .i64 n.kids, .int .i64 n.place]
def flat (ys : List Nd) : List Value := ys.flatMap Nd.row
theorem Qca (ys : List Nd) : (flat ys).length = ys.length * 5 := by
  induction ys with
  | nil => rfl
  | cons y ys ih => simp [flat, Nd.row] at *; omega
theorem Qxk (y : Nd) (ys : List Nd) : flat (y :: ys) = y.row ++ flat ys := rfl
theorem Qgv (xs ys : List Nd) : flat (xs ++ ys) = flat xs ++ flat ys := by simp [flat]
theorem Qea (ys : List Nd) (i t : Nat) (hi : i < ys.length) (ht : t < 5) : (flat ys)[i * 5 + t]? = (ys[i].row)[t]? := by
  induction ys generalizing i with
  | nil => simp at hi
  | cons y ys ih =>
    rw [Qxk]
    cases i with
    | zero => rw [List.getElem?_append_left (by simp [Nd.row]; omega)]; simp
    | succ i =>
      rw [List.getElem?_append_right (by simp [Nd.row]; omega)]
      have e : (i + 1) * 5 + t - y.row.length = i * 5 + t := by simp [Nd.row]; omega
      rw [e, ih i (by simpa using hi)]
      simp
def Own (w : World) (g : Nat) (cs : List Value) : Prop := ∃ cur rest, w.heap[g]? = some (.cells cur 43 (0, 0)) ∧ cur.toList = cs ++ rest
theorem Own.lt {w : World} {g : Nat} {cs : List Value} (h : Own w g cs) : g < w.heap.size := by
  obtain ⟨cur, rest, hg, _⟩ := h
  exact (Array.getElem?_eq_some_iff.1 hg).1
theorem Own.set {w : World} {g : Nat} {cs : List Value} (h : Own w g cs) (j : Nat) (v : Value) (hj : j < cs.length) : Own (w.setCell ⟨g, j, none⟩ v) g (cs.set j v) := by
  obtain ⟨cur, rest, hg, hc⟩ := h
  exact ⟨_, rest, heap_setCell_same _ g _ _ 43 _ hg, by rw [Array.toList_setIfInBounds, hc, List.set_append_left _ _ hj]⟩
theorem Own.at {w : World} {g : Nat} {cs : List Value} (h : Own w g cs) (j : Nat) (hj : j < cs.length) : w.cell? ⟨g, j, none⟩ = cs[j]? := by
  obtain ⟨cur, rest, hg, hc⟩ := h
  rw [cell_of_row w g _ cur 43 (0, 0) hg, ← Array.getElem?_toList, hc, List.getElem?_append_left hj]
theorem Own.frozen {w : World} {g : Nat} {cs : List Value} (h : Own w g cs) (j : Nat) : w.frozen? ⟨g, j, none⟩ = false := by
  obtain ⟨cur, _, hg, _⟩ := h
  exact frozen_of_row w g j cur 43 hg
theorem Own.below {w w' : World} {g : Nat} {cs : List Value} (h : Own w g cs) (hb : Below w.heap.size w w') : Own w' g cs := by
  have hlt := h.lt
  obtain ⟨cur, rest, hg, hc⟩ := h
  exact ⟨cur, rest, (hb.block g hlt).trans hg, hc⟩
def Row (w : World) (g : Nat) (ys : List Nd) : Prop := Own w g (flat ys)
theorem Own.row {w : World} {g : Nat} {cs : List Value} {ys : List Nd} (h : Own w g cs) (e : cs = flat ys) : Row w g ys := by
  subst e
  exact h
theorem Row.lt {w : World} {g : Nat} {ys : List Nd} (h : Row w g ys) : g < w.heap.size := Own.lt h
theorem Row.cell {w : World} {g : Nat} {ys : List Nd} (h : Row w g ys) (i t : Nat) (hi : i < ys.length) (ht : t < 5) : w.cell? ⟨g, i * 5 + t, none⟩ = (ys[i].row)[t]? := by
  rw [Own.at h _ (by rw [Qca]; omega), Qea ys i t hi ht]
theorem Row.node {w : World} {g : Nat} {ys : List Nd} (h : Row w g ys) (i : Nat) (hi : i < ys.length) : NodeAt w g (i * 5) ys[i] :=
  ⟨h.cell i 0 hi (by omega), h.cell i 1 hi (by omega), h.cell i 2 hi (by omega), h.cell i 3 hi (by omega), h.cell i 4 hi (by omega)⟩
theorem Row.nodes {w : World} {g : Nat} {ys : List Nd} (h : Row w g ys) : Nodes w (some ⟨g, 0, none⟩) ys := by
  intro i hi
  exact ⟨g, 0, rfl, by simpa using h.node i hi⟩
theorem Row.frozen {w : World} {g : Nat} {ys : List Nd} (h : Row w g ys) (j : Nat) : w.frozen? ⟨g, j, none⟩ = false := Own.frozen h j
theorem Row.below {w w' : World} {g : Nat} {ys : List Nd} (h : Row w g ys) (hb : Below w.heap.size w w') : Row w' g ys := Own.below h hb
theorem Jap (ys : List Nd) (i : Nat) (hi : i < ys.length) (n : Nd) :
    (((((flat ys).set (i * 5) (.int .i64 n.kind)).set (i * 5 + 1) (.int .i64 n.num)).set (i * 5 + 2) (.string n.text)).set (i * 5 + 3) (.int .i64 n.kids)).set (i * 5 + 4) (.int .i64 n.place) = flat (ys.set i n) := by
  apply List.ext_getElem?
  intro j
  by_cases hj : j < ys.length * 5
  · have e : j = (j / 5) * 5 + j % 5 := by omega
    have hq : j / 5 < ys.length := by omega
    have hr : j % 5 < 5 := by omega
    generalize j / 5 = q at *
    generalize j % 5 = r at *
    subst e
    rw [Qea _ q r (by simpa using hq) hr]
    simp only [List.getElem?_set, List.length_set, Qca]
    by_cases hqi : q = i
    · subst hqi
      match r, hr with
      | 0, _ => simp [Nd.row]; omega
      | 1, _ => simp [Nd.row]; omega
      | 2, _ => simp [Nd.row]; omega
      | 3, _ => simp [Nd.row]; omega
      | 4, _ => simp [Nd.row]; omega
    · rw [if_neg (by omega), if_neg (by omega), if_neg (by omega), if_neg (by omega), if_neg (by omega), Qea ys q r hq hr]
      simp [Ne.symm hqi]
  · rw [List.getElem?_eq_none (by simp [Qca]; omega), List.getElem?_eq_none (by simp [Qca]; omega)]
theorem undrew {w w1 : World} (h : Below w.drew.heap.size w.drew w1) : Below w.heap.size w w1 := ⟨h.os, h.tape, h.output, h.size, h.block⟩
theorem Qgh {W w1 : World} (hb : Below W.drew.heap.size W.drew w1) : (∀ b o, b < W.heap.size → w1.cell? ⟨b, o, none⟩ = W.cell? ⟨b, o, none⟩) :=
  fun b o h => (undrew hb).cell (p := ⟨b, o, none⟩) h
theorem Qfd {W w1 : World} (hb : Below W.heap.size W w1) : (∀ b o, b < W.heap.size → w1.cell? ⟨b, o, none⟩ = W.cell? ⟨b, o, none⟩) :=
  fun b o h => hb.cell (p := ⟨b, o, none⟩) h
def Nd.zero : Nd := ⟨0, 0, ByteArray.empty, 0, 0⟩
structure But (S : Nat → Prop) (w w' : World) : Prop where
  os : w'.os = w.os
  tape : w'.tape = w.tape
  output : w'.output = w.output
  size : w.heap.size ≤ w'.heap.size
  block : ∀ k, k < w.heap.size → ¬ S k → w'.heap[k]? = w.heap[k]?
theorem But.refl (S : Nat → Prop) (w : World) : But S w w := ⟨rfl, rfl, rfl, Nat.le_refl _, fun _ _ _ => rfl⟩
theorem But.trans {S : Nat → Prop} {a b c : World} (h : But S a b) (k : But S b c) : But S a c :=
  ⟨k.os.trans h.os, k.tape.trans h.tape, k.output.trans h.output, Nat.le_trans h.size k.size, fun i hi hs => (k.block i (Nat.lt_of_lt_of_le hi h.size) hs).trans (h.block i hi hs)⟩
theorem But.mono {S T : Nat → Prop} {a b : World} (h : But S a b) (hs : ∀ k, S k → T k) : But T a b :=
  ⟨h.os, h.tape, h.output, h.size, fun i hi ht => h.block i hi fun hk => ht (hs i hk)⟩
theorem But.ofBelow {S : Nat → Prop} {a b : World} (h : Below a.heap.size a b) : But S a b := ⟨h.os, h.tape, h.output, h.size, fun i hi _ => h.block i hi⟩
theorem But.below {S : Nat → Prop} {B : Nat} {a b : World} (h : But S a b) (hB : B ≤ a.heap.size) (hs : ∀ k, S k → B ≤ k) : Below B a b :=
  ⟨h.os, h.tape, h.output, h.size, fun i hi => h.block i (by omega) fun hk => by have := hs i hk; omega⟩
theorem But.setCell {S : Nat → Prop} {a w : World} (h : But S a w) {p : Addr} (hp : S p.block) (u : Value) : But S a (w.setCell p u) :=
  ⟨h.os, h.tape, h.output, by simp [World.setCell]; exact h.size, fun i hi hs => (Below.heap_setCell w p u i (fun e => hs (by rw [e]; exact hp))).trans (h.block i hi hs)⟩
theorem But.row {S : Nat → Prop} {w w' : World} (h : But S w w') {g : Nat} {ys : List Nd} (hr : Row w g ys) (hg : ¬ S g) : Row w' g ys := by
  have hlt := hr.lt
  obtain ⟨cur, rest, hc, he⟩ := hr
  exact ⟨cur, rest, (h.block g hlt hg).trans hc, he⟩
theorem Qak (w : World) (a : Addr) (v : Value) : (w.setCell a v).heap.size = w.heap.size := by simp [World.setCell]
end Go.Proofs.YtoiiibplkhedcaaGreatDoor
namespace Go.Proofs.YtoiiibplkhedcaaGreatDoor
def Lfp {α : Type} (F : (α → Prop) → α → Prop) (x : α) : Prop := ∀ R : α → Prop, (∀ y, F R y → R y) → R x
def Qkq {α : Type} (F : (α → Prop) → α → Prop) : Prop := ∀ (R R' : α → Prop) (x : α), (∀ y, R y → R' y) → F R x → F R' x
theorem Lfp.fold {α : Type} {F : (α → Prop) → α → Prop} (hm : Qkq F) {x : α} (h : F (Lfp F) x) : Lfp F x :=
  fun R hR => hR x (hm _ R x (fun _ hy => hy R hR) h)
theorem Lfp.ind {α : Type} {F : (α → Prop) → α → Prop} (hm : Qkq F) {p : α → Prop} (hp : ∀ y, F (fun z => Lfp F z ∧ p z) y → p y) {x : α} (h : Lfp F x) : p x :=
  (h (fun y => Lfp F y ∧ p y) (fun y hy => ⟨Lfp.fold hm (hm _ _ y (fun _ hz => hz.1) hy), hp y hy⟩)).2
end Go.Proofs.YtoiiibplkhedcaaGreatDoor
namespace Go.Proofs.YtoiiibplkhedcaaGreatDoor
open Go.RowKit
structure CC where
  id : Int
  nd : Nd
  ks : Option Addr × Nat × Nat
  told : Int
  lv : Int
  rk : Int
  td : Option Nat
  si : Int
  sn : Int
def ptr (o : Option Nat) : Value := .pointer (o.map fun b => ⟨b, 0, none⟩)
def CellAt (w : World) (b : Nat) (c : CC) (l : Option Nat) : Prop :=
  w.heap[b]? = some (.cells #[.int .i64 c.id, .int .i64 c.nd.kind, .int .i64 c.nd.num, .string c.nd.text, .int .i64 c.nd.kids, .int .i64 c.nd.place, .slice c.ks.1 c.ks.2.1 c.ks.2.2, .int .i64 c.told, .int .i64 c.lv, ptr l, .int .i64 c.rk, ptr c.td, .int .i64 c.si, .int .i64 c.sn] 120 (0, 0))
structure Cells (w : World) (X : Nat → Prop) (f : Nat → CC) (lk : Nat → Option Nat) : Prop where
  at' : ∀ b, X b → CellAt w b (f b) (lk b)
  link : ∀ b j, lk b = some j → X b ∧ X j
def HdF (lk : Nat → Option Nat) (R : Nat × Nat → Prop) (x : Nat × Nat) : Prop :=
  (∃ (i : Nat), x = (i, i) ∧ (lk i = none)) ∨
  (∃ (i j r : Nat), x = (i, r) ∧ (lk i = some j) ∧ (R (j, r)))
structure Hd (lk : Nat → Option Nat) (i : Nat) (r : Nat) : Prop where
  of ::
  lfp : Lfp (HdF lk) (i, r)
theorem Hd.grows (lk : Nat → Option Nat) : Qkq (HdF lk) := by
  rintro R R' x h0 (⟨i, e0, h⟩ | ⟨i, j, r, e0, h, k⟩)
  · exact .inl ⟨i, e0, h⟩
  · exact .inr (⟨i, j, r, e0, h, h0 _ k⟩)
theorem Hd.root {lk : Nat → Option Nat} {i : Nat} (h : lk i = none) : Hd lk i i :=
  ⟨Lfp.fold (Hd.grows lk) (.inl ⟨i, rfl, h⟩)⟩
theorem Hd.step {lk : Nat → Option Nat} {i j r : Nat} (h : lk i = some j) (k : Hd lk j r) : Hd lk i r :=
  ⟨Lfp.fold (Hd.grows lk) (.inr (⟨i, j, r, rfl, h, k.lfp⟩))⟩
theorem Hd.elim {lk : Nat → Option Nat} {motive : ∀ i r, Hd lk i r → Prop}
    (root : ∀ {i : Nat} (h : lk i = none), motive i i (Hd.root (i := i) h))
    (step : ∀ {i j r : Nat} (h : lk i = some j) (k : Hd lk j r), motive j r (k) → motive i r (Hd.step (i := i) (j := j) (r := r) h k))
    {i : Nat} {r : Nat} (h : Hd lk i r) : motive i r h := by
  have key : ∀ h, motive (i, r).1 (i, r).2 h := Lfp.ind (Hd.grows lk) (p := fun x => ∀ h, motive x.1 x.2 h) (by
    rintro x (⟨i, e0, h⟩ | ⟨i, j, r, e0, h, k⟩) h9
    · subst e0; exact root (i := i) h
    · subst e0; exact step (i := i) (j := j) (r := r) h ⟨k.1⟩ (k.2 _)) h.lfp
  exact key h
theorem Hd.inv {lk : Nat → Option Nat} {motive : ∀ i r, Hd lk i r → Prop}
    (root : ∀ {i : Nat} (h : lk i = none), motive i i (Hd.root (i := i) h))
    (step : ∀ {i j r : Nat} (h : lk i = some j) (k : Hd lk j r), motive i r (Hd.step (i := i) (j := j) (r := r) h k))
    {i : Nat} {r : Nat} (h : Hd lk i r) : motive i r h := by
  induction h using Hd.elim with
  | root h => exact root h
  | step h k _ => exact step h k
theorem Hd.is_root {lk : Nat → Option Nat} {i r : Nat} (h : Hd lk i r) : lk r = none := by
  induction h using Hd.elim with
  | root h => exact h
  | step _ _ ih => exact ih
theorem Hd.fun {lk : Nat → Option Nat} {i r r' : Nat} (h : Hd lk i r) (h' : Hd lk i r') : r = r' := by
  induction h using Hd.elim with
  | root h =>
    cases h' using Hd.inv with
    | root _ => rfl
    | step h1 _ => rw [h] at h1; cases h1
  | step h1 _ ih =>
    cases h' using Hd.inv with
    | root h2 => rw [h1] at h2; cases h2
    | step h2 h3 => rw [h1] at h2; cases h2; exact ih h3
def Acyc (lk : Nat → Option Nat) (d : Nat → Nat) : Prop := ∀ i j, lk i = some j → d j < d i
theorem CellAt.cell {w : World} {b : Nat} {c : CC} {l : Option Nat} (h : CellAt w b c l) :
    w.cell? ⟨b, 0, none⟩ = some (.int .i64 c.id) ∧ w.cell? ⟨b, 1, none⟩ = some (.int .i64 c.nd.kind) ∧ w.cell? ⟨b, 2, none⟩ = some (.int .i64 c.nd.num) ∧ w.cell? ⟨b, 3, none⟩ = some (.string c.nd.text) ∧ w.cell? ⟨b, 4, none⟩ = some (.int .i64 c.nd.kids) ∧ w.cell? ⟨b, 5, none⟩ = some (.int .i64 c.nd.place) ∧ w.cell? ⟨b, 6, none⟩ = some (.slice c.ks.1 c.ks.2.1 c.ks.2.2) ∧ w.cell? ⟨b, 7, none⟩ = some (.int .i64 c.told) ∧ w.cell? ⟨b, 8, none⟩ = some (.int .i64 c.lv) ∧ w.cell? ⟨b, 9, none⟩ = some (ptr l) ∧ w.cell? ⟨b, 10, none⟩ = some (.int .i64 c.rk) ∧ w.cell? ⟨b, 11, none⟩ = some (ptr c.td) ∧ w.cell? ⟨b, 12, none⟩ = some (.int .i64 c.si) ∧ w.cell? ⟨b, 13, none⟩ = some (.int .i64 c.sn) := by
  refine ⟨?_, ?_, ?_, ?_, ?_, ?_, ?_, ?_, ?_, ?_, ?_, ?_, ?_, ?_⟩
  all_goals
    rw [cell_of_row _ b _ _ 120 (0, 0) h]
    rfl
theorem CellAt.frozen {w : World} {b : Nat} {c : CC} {l : Option Nat} (h : CellAt w b c l) (o : Nat) : w.frozen? ⟨b, o, none⟩ = false := frozen_of_row w b o _ 120 h
theorem CellAt.lt {w : World} {b : Nat} {c : CC} {l : Option Nat} (h : CellAt w b c l) : b < w.heap.size := (Array.getElem?_eq_some_iff.1 h).1
theorem CellAt.relink {w : World} {b : Nat} {c : CC} {l : Option Nat} (h : CellAt w b c l) (l' : Option Nat) : CellAt (w.setCell ⟨b, 9, none⟩ (ptr l')) b c l' := by
  have h9 := heap_setCell_same w b 9 _ 120 (ptr l') h
  simpa [CellAt] using h9
theorem CellAt.but {S : Nat → Prop} {w w' : World} {b : Nat} {c : CC} {l : Option Nat} (h : CellAt w b c l) (hb : But S w w') (hn : ¬ S b) : CellAt w' b c l := (hb.block b h.lt hn).trans h
theorem Cells.but {S : Nat → Prop} {w w' : World} {X : Nat → Prop} {f : Nat → CC} {lk : Nat → Option Nat} (h : Cells w X f lk) (hb : But S w w') (hn : ∀ b, X b → ¬ S b) : Cells w' X f lk :=
  ⟨fun b hx => (h.at' b hx).but hb (hn b hx), h.link⟩
theorem Cells.relink {w : World} {X : Nat → Prop} {f : Nat → CC} {lk : Nat → Option Nat} (h : Cells w X f lk) {b j : Nat} (hb : X b) (hj : X j) : Cells (w.setCell ⟨b, 9, none⟩ (ptr (some j))) X f (fun i => if i = b then some j else lk i) := by
  refine ⟨fun x hx => ?_, fun x y e => ?_⟩
  · by_cases hxb : x = b
    · subst hxb
      rw [if_pos rfl]
      exact (h.at' x hx).relink (some j)
    · rw [if_neg hxb]
      have hs : But (· = b) w (w.setCell ⟨b, 9, none⟩ (ptr (some j))) := (But.refl (· = b) w).setCell (p := ⟨b, 9, none⟩) rfl _
      exact (h.at' x hx).but hs hxb
  · by_cases hxb : x = b
    · subst hxb
      rw [if_pos rfl] at e
      simp only [Option.some.injEq] at e
      subst e
      exact ⟨hb, hj⟩
    · rw [if_neg hxb] at e
      exact h.link x y e
def SameHd (lk lk' : Nat → Option Nat) : Prop := ∀ i r, Hd lk i r ↔ Hd lk' i r
theorem SameHd.refl (lk : Nat → Option Nat) : SameHd lk lk := fun _ _ => Iff.rfl
theorem SameHd.trans {a b c : Nat → Option Nat} (h : SameHd a b) (h' : SameHd b c) : SameHd a c := fun i r => (h i r).trans (h' i r)
theorem Hd.low {lk : Nat → Option Nat} {d : Nat → Nat} (ha : Acyc lk d) {i r : Nat} (h : Hd lk i r) : d r ≤ d i ∧ (i ≠ r → d r < d i) := by
  induction h using Hd.elim with
  | root _ => exact ⟨Nat.le_refl _, fun h => absurd rfl h⟩
  | step h1 _ ih =>
    have := ha _ _ h1
    exact ⟨by omega, fun _ => by omega⟩
theorem Qtd {lk : Nat → Option Nat} {d : Nat → Nat} (ha : Acyc lk d) {b r : Nat} (hb : Hd lk b r) (hne : b ≠ r) : SameHd lk (fun i => if i = b then some r else lk i) ∧ Acyc (fun i => if i = b then some r else lk i) d := by
  have hr0 := hb.is_root
  have hr1 : (fun i => if i = b then some r else lk i) r = none := by
    show (if r = b then some r else lk r) = none
    rw [if_neg (fun e => hne e.symm)]
    exact hr0
  refine ⟨fun i q => ⟨fun h => ?_, fun h => ?_⟩, fun i j e => ?_⟩
  · induction h using Hd.elim with
    | @root i h1 =>
      refine Hd.root ?_
      show (if i = b then some r else lk i) = none
      by_cases hi : i = b
      · subst hi
        exact absurd ((Hd.root h1).fun hb) hne
      · rw [if_neg hi]; exact h1
    | @step i j q h1 h2 ih =>
      by_cases hi : i = b
      · subst hi
        have e : q = r := (Hd.step h1 h2).fun hb
        subst e
        exact Hd.step (j := q) (by show (if i = i then some q else lk i) = some q; rw [if_pos rfl]) (Hd.root hr1)
      · exact Hd.step (j := j) (by show (if i = b then some r else lk i) = some j; rw [if_neg hi]; exact h1) ih
  · induction h using Hd.elim with
    | @root i h1 =>
      have h1 : (if i = b then some r else lk i) = none := h1
      by_cases hi : i = b
      · rw [if_pos hi] at h1; cases h1
      · rw [if_neg hi] at h1
        exact Hd.root h1
    | @step i j q h1 h2 ih =>
      have h1 : (if i = b then some r else lk i) = some j := h1
      by_cases hi : i = b
      · rw [if_pos hi] at h1
        simp only [Option.some.injEq] at h1
        subst h1
        subst hi
        have e : q = r := ih.fun (Hd.root hr0)
        subst e
        exact hb
      · rw [if_neg hi] at h1
        exact Hd.step h1 ih
  · have e : (if i = b then some r else lk i) = some j := e
    by_cases hi : i = b
    · rw [if_pos hi] at e
      simp only [Option.some.injEq] at e
      subst e
      subst hi
      exact (hb.low ha).2 hne
    · rw [if_neg hi] at e
      exact ha i j e
def blk : Value → Nat
  | .pointer (some a) => a.block
  | _ => 0
theorem Qhw {P : Program} {w : World} {tp te : TypeId} {j : TypeInfo} {a b : Addr} {ca cb : Array Value} {ta tb : TypeId} (hp : P.underlying tp = some (.pointer te)) (hte : P.info? te = some j) (hsz : j.size ≠ 0)
    (hne : a ≠ b) (ha : w.heap[a.block]? = some (.cells ca ta (0, 0))) (hb : w.heap[b.block]? = some (.cells cb tb (0, 0))) :
    (binOp .neq tp (.pointer (some a)) (.pointer (some b))).run P w = .ok (.bool true) w := by
  have h : ∀ d : Nat, (Op.equalIn (d + 1) tp (.pointer (some a)) (.pointer (some b))).run P w = .ok false w := fun d => by
    simp [Op.equalIn, run_underlying hp, sizeOf, typeInfo, hte, hsz, run_sameAddr_other w hne ha hb]
  simp only [binOp]
  simp [Op.equal, Op.maxDepth, h 9999]
theorem Qhx {P : Program} {w : World} {tp te : TypeId} {j : TypeInfo} {a b : Addr} {ca cb : Array Value} {ta tb : TypeId} (hp : P.underlying tp = some (.pointer te)) (hte : P.info? te = some j) (hsz : j.size ≠ 0)
    (hne : a ≠ b) (ha : w.heap[a.block]? = some (.cells ca ta (0, 0))) (hb : w.heap[b.block]? = some (.cells cb tb (0, 0))) :
    (binOp .eql tp (.pointer (some a)) (.pointer (some b))).run P w = .ok (.bool false) w := by
  have h : ∀ d : Nat, (Op.equalIn (d + 1) tp (.pointer (some a)) (.pointer (some b))).run P w = .ok false w := fun d => by
    simp [Op.equalIn, run_underlying hp, sizeOf, typeInfo, hte, hsz, run_sameAddr_other w hne ha hb]
  simp only [binOp]
  simp [Op.equal, Op.maxDepth, h 9999]
theorem Qiw {P : Program} {w : World} {tp te : TypeId} {j : TypeInfo} (a : Addr) (hp : P.underlying tp = some (.pointer te)) (hte : P.info? te = some j) :
    (binOp .eql tp (.pointer (some a)) (.pointer (some a))).run P w = .ok (.bool true) w := by
  have h : ∀ d : Nat, (Op.equalIn (d + 1) tp (.pointer (some a)) (.pointer (some a))).run P w = .ok true w := fun d => by
    simp [Op.equalIn, run_underlying hp, sizeOf, typeInfo, hte, run_sameAddr_same]
  simp only [binOp]
  simp [Op.equal, Op.maxDepth, h 9999]
theorem run_neq_ptr_same' {P : Program} {w : World} {tp te : TypeId} {j : TypeInfo} (a : Addr) (hp : P.underlying tp = some (.pointer te)) (hte : P.info? te = some j) :
    (binOp .neq tp (.pointer (some a)) (.pointer (some a))).run P w = .ok (.bool false) w := by
  have h : ∀ d : Nat, (Op.equalIn (d + 1) tp (.pointer (some a)) (.pointer (some a))).run P w = .ok true w := fun d => by
    simp [Op.equalIn, run_underlying hp, sizeOf, typeInfo, hte, run_sameAddr_same]
  simp only [binOp]
  simp [Op.equal, Op.maxDepth, h 9999]
theorem u_cp : Tryz.prog.underlying 64 = some (.pointer 120) := Tryz.underlying64
theorem Jam : (Tryz.prog.info? 120).map (fun i => i.size) = some 14 := by kernel_rfl
theorem Qut : ∃ j, Tryz.prog.info? 120 = some j ∧ j.size ≠ 0 := by
  obtain ⟨j, hj, hz⟩ := Option.map_eq_some_iff.1 Jam
  exact ⟨j, hj, by rw [hz]; decide⟩
theorem Qhh (X : Nat → Prop) (f : Nat → CC) (lk : Nat → Option Nat) (d : Nat → Nat) (HA : Hid (Acyc lk d)) (w : World) (hC : Cells w X f lk) (b r : Nat) (hX : X b) (hr : Hd lk b r) :
    Calls Tryz.prog 60 #[.pointer (some ⟨b, 0, none⟩)] w fun e w' => e = .returned (.pointer (some ⟨r, 0, none⟩)) ∧ ∃ lk', Cells w' X f lk' ∧ SameHd lk lk' ∧ Acyc lk' d ∧ But X w w' ∧ w'.heap.size = w.heap.size := by
  go_enter Tryz.func60, Tryz.ntmps60
  go_wp2
  go_loopw [3] (fun v wr => ∃ k : Nat, X k ∧ v = .pointer (some ⟨k, 0, none⟩) ∧ Hd lk k r ∧ wr = w) (fun v _ => d (blk v))
  case atStart => exact ⟨b, hX, rfl, hr, rfl⟩
  case round =>
    obtain ⟨k, hk, rfl, hrt, rfl⟩ := hrel
    obtain ⟨_, _, _, _, _, _, _, _, _, c7, _, _, _, _⟩ := (hC.at' k hk).cell
    cases hl : lk k with
    | none =>
      have e : k = r := by
        cases hrt using Hd.inv with
        | root _ => rfl
        | step h1 _ => rw [hl] at h1; cases h1
      subst e
      rw [hl] at c7
      simp only [ptr, Option.map_none] at c7
      have hr9 := hr
      clear hrt hr
      go_wp2
      go_loopw [0] (fun v wq => ∃ (i : Nat) (lk' : Nat → Option Nat), X i ∧ v = .pointer (some ⟨i, 0, none⟩) ∧ Hd lk' i k ∧ Cells wq X f lk' ∧ SameHd lk lk' ∧ Acyc lk' d ∧ But X wr wq ∧ wq.heap.size = wr.heap.size) (fun v _ => d (blk v))
      case atStart => exact ⟨b, lk, hX, rfl, hr9, hC, SameHd.refl _, HA.out, But.refl _ _, rfl⟩
      case round =>
        obtain ⟨i, lk', hi, rfl, hrt, hC', hS, hA', hB, hsz⟩ := hrel
        by_cases hik : i = k
        · subst hik
          obtain ⟨j9, hj9, _⟩ := Qut
          have hq := run_neq_ptr_same' (w := wr) ⟨i, 0, none⟩ u_cp hj9
          clear hC c7 hl hr9
          go_wp2
          go_ret
          exact ⟨rfl, lk', hC', hS, hA', hB, hsz⟩
        · obtain ⟨_, _, _, _, _, _, _, _, _, d7, _, _, _, _⟩ := (hC'.at' i hi).cell
          have hfz := (hC'.at' i hi).frozen 9
          obtain ⟨j, hj⟩ : ∃ j, lk' i = some j := by
            cases h9 : lk' i with
            | none =>
              cases hrt using Hd.inv with
              | root _ => exact absurd rfl hik
              | step h1 _ => rw [h9] at h1; cases h1
            | some j => exact ⟨j, rfl⟩
          have hjX := (hC'.link i j hj).2
          have hkX := hk
          have hdj := hA' i j hj
          have hjk : Hd lk' j k := by
            cases hrt using Hd.inv with
            | root h1 => rw [hj] at h1; cases h1
            | step h1 h2 => rw [hj] at h1; cases h1; exact h2
          rw [hj] at d7
          simp only [ptr, Option.map_some] at d7
          obtain ⟨hS2, hA2⟩ := Qtd hA' hrt hik
          have hC2 := hC'.relink (j := k) hi hkX
          have hB2 := hB.setCell (p := ⟨i, 9, none⟩) hi (ptr (some k))
          have hS3 := hS.trans hS2
          have hj3 : Hd (fun x => if x = i then some k else lk' x) j k := (hS2 j k).1 hjk
          simp only [ptr, Option.map_some] at hC2 hB2
          obtain ⟨j9, hj9, hz9⟩ := Qut
          have hq := Qhw (w := wr) u_cp hj9 hz9 (a := ⟨i, 0, none⟩) (b := ⟨k, 0, none⟩) (by simp) (hC'.at' i hi) (hC'.at' k hkX)
          clear hC c7 hl hr9 hrt hjk hj hC' hS hS2 hA' hB
          go_wp2
          go_roundw
          case rel => exact ⟨j, _, hjX, rfl, hj3, hC2, hS3, hA2, hB2, by simp [hsz]⟩
          case measure => simpa [blk] using hdj
    | some j =>
      have hj := (hC.link k j hl).2
      have hrj : Hd lk j r := by
        cases hrt using Hd.inv with
        | root h1 => rw [hl] at h1; cases h1
        | step h1 h2 => rw [hl] at h1; cases h1; exact h2
      have hdj := HA.out k j hl
      rw [hl] at c7
      simp only [ptr, Option.map_some] at c7
      clear hrt hl
      go_wp2
      go_roundw
      case rel => exact ⟨j, hj, rfl, hrj, trivial⟩
      case measure => simpa [blk] using hdj
end Go.Proofs.YtoiiibplkhedcaaGreatDoor
