import Derived.WalkKit
import Derived.WalkSpells
import Derived.WalkLawsBesides
import Derived.Test.YtoghngfkmhfimaaGreatDoorProg
import Derived.Deep.Light
import Derived.Deep.RegionWith
namespace Go.Proofs.YtoghngfkmhfimaaGreatDoor

open Go.RowKit

/-- A node, as data. -/
structure Nd where
  kind : Int
  num : Int
  text : ByteArray
  kids : Int
  place : Int

/-- All five fields alike. -/
def Nd.eqb (a b : Nd) : Bool := a.kind == b.kind && a.num == b.num && (a.text.toList == b.text.toList) && a.kids == b.kids && a.place == b.place

theorem Nd.eqb_refl (a : Nd) : a.eqb a = true := by simp [Nd.eqb]

/-- Five cells of a node at an address. -/
def NodeAt (w : World) (b o : Nat) (n : Nd) : Prop :=
  w.cell? ⟨b, o, none⟩ = some (.int .i64 n.kind) ∧ w.cell? ⟨b, o + 1, none⟩ = some (.int .i64 n.num) ∧ w.cell? ⟨b, o + 2, none⟩ = some (.string n.text) ∧
    w.cell? ⟨b, o + 3, none⟩ = some (.int .i64 n.kids) ∧ w.cell? ⟨b, o + 4, none⟩ = some (.int .i64 n.place)

theorem lt_of_cell {w : World} {a : Addr} {v : Value} (h : w.cell? a = some v) : a.block < w.heap.size := by
  by_cases hb : a.block < w.heap.size
  · exact hb
  · exfalso
    simp [World.cell?, Array.getElem?_eq_none (Nat.le_of_not_lt hb)] at h

theorem NodeAt.below {w w' : World} {b o : Nat} {n : Nd} (h : NodeAt w b o n) (hb : Below w.heap.size w w') : NodeAt w' b o n := by
  have hlt : b < w.heap.size := lt_of_cell h.1
  exact ⟨(hb.cell (p := ⟨b, o, none⟩) hlt).trans h.1, (hb.cell (p := ⟨b, o + 1, none⟩) hlt).trans h.2.1, (hb.cell (p := ⟨b, o + 2, none⟩) hlt).trans h.2.2.1,
    (hb.cell (p := ⟨b, o + 3, none⟩) hlt).trans h.2.2.2.1, (hb.cell (p := ⟨b, o + 4, none⟩) hlt).trans h.2.2.2.2⟩

/-- A slice of nodes. -/
def Nodes (w : World) (ao : Option Addr) (xs : List Nd) : Prop :=
  ∀ i (h : i < xs.length), ∃ b o, ao = some ⟨b, o, none⟩ ∧ NodeAt w b (o + i * 5) xs[i]

theorem Nodes.below {w w' : World} {ao : Option Addr} {xs : List Nd} (h : Nodes w ao xs) (hb : Below w.heap.size w w') : Nodes w' ao xs := by
  intro i hi
  obtain ⟨b, o, e, hn⟩ := h i hi
  exact ⟨b, o, e, hn.below hb⟩

theorem Below.step {w a b : World} (h : Below w.heap.size w a) (k : Below a.heap.size a b) : Below w.heap.size w b :=
  h.trans (k.mono h.size)

theorem ret_bool {a b : Bool} (h : a = b) : Ending.returned (.bool a) = .returned (.bool b) := by rw [h]

/-- A node's five cells. -/
def Nd.row (n : Nd) : List Value := [.int .i64 n.kind, .int .i64 n.num, .string n.text, .int .i64 n.kids, .int .i64 n.place]

/-- The cells of a row of nodes. -/
def flat (ys : List Nd) : List Value := ys.flatMap Nd.row

theorem flat_length (ys : List Nd) : (flat ys).length = ys.length * 5 := by
  induction ys with
  | nil => rfl
  | cons y ys ih => simp [flat, Nd.row] at *; omega

theorem flat_cons (y : Nd) (ys : List Nd) : flat (y :: ys) = y.row ++ flat ys := rfl

theorem flat_append (xs ys : List Nd) : flat (xs ++ ys) = flat xs ++ flat ys := by simp [flat]

theorem flat_get (ys : List Nd) (i t : Nat) (hi : i < ys.length) (ht : t < 5) : (flat ys)[i * 5 + t]? = (ys[i].row)[t]? := by
  induction ys generalizing i with
  | nil => simp at hi
  | cons y ys ih =>
    rw [flat_cons]
    cases i with
    | zero => rw [List.getElem?_append_left (by simp [Nd.row]; omega)]; simp
    | succ i =>
      rw [List.getElem?_append_right (by simp [Nd.row]; omega)]
      have e : (i + 1) * 5 + t - y.row.length = i * 5 + t := by simp [Nd.row]; omega
      rw [e, ih i (by simpa using hi)]
      simp

/-- Block g is a row of the call's own that begins with these cells. -/
def Own (w : World) (g : Nat) (cs : List Value) : Prop := ∃ cur rest, w.heap[g]? = some (.cells cur 77 (0, 0)) ∧ cur.toList = cs ++ rest

theorem Own.lt {w : World} {g : Nat} {cs : List Value} (h : Own w g cs) : g < w.heap.size := by
  obtain ⟨cur, rest, hg, _⟩ := h
  exact (Array.getElem?_eq_some_iff.1 hg).1

theorem Own.set {w : World} {g : Nat} {cs : List Value} (h : Own w g cs) (j : Nat) (v : Value) (hj : j < cs.length) : Own (w.setCell ⟨g, j, none⟩ v) g (cs.set j v) := by
  obtain ⟨cur, rest, hg, hc⟩ := h
  exact ⟨_, rest, heap_setCell_same _ g _ _ 77 _ hg, by rw [Array.toList_setIfInBounds, hc, List.set_append_left _ _ hj]⟩

theorem Own.at {w : World} {g : Nat} {cs : List Value} (h : Own w g cs) (j : Nat) (hj : j < cs.length) : w.cell? ⟨g, j, none⟩ = cs[j]? := by
  obtain ⟨cur, rest, hg, hc⟩ := h
  rw [cell_of_row w g _ cur 77 (0, 0) hg, ← Array.getElem?_toList, hc, List.getElem?_append_left hj]

theorem Own.has {w : World} {g : Nat} {cs : List Value} (h : Own w g cs) (j : Nat) (hj : j < cs.length) : ∃ v, w.cell? ⟨g, j, none⟩ = some v :=
  ⟨cs[j], by rw [h.at j hj, List.getElem?_eq_getElem hj]⟩

theorem Own.frozen {w : World} {g : Nat} {cs : List Value} (h : Own w g cs) (j : Nat) : w.frozen? ⟨g, j, none⟩ = false := by
  obtain ⟨cur, _, hg, _⟩ := h
  exact frozen_of_row w g j cur 77 hg

theorem Own.below {w w' : World} {g : Nat} {cs : List Value} (h : Own w g cs) (hb : Below w.heap.size w w') : Own w' g cs := by
  have hlt := h.lt
  obtain ⟨cur, rest, hg, hc⟩ := h
  exact ⟨cur, rest, (hb.block g hlt).trans hg, hc⟩

/-- Block g is a row of nodes, all of them the call's own. -/
def Row (w : World) (g : Nat) (ys : List Nd) : Prop := Own w g (flat ys)

theorem Own.row {w : World} {g : Nat} {cs : List Value} {ys : List Nd} (h : Own w g cs) (e : cs = flat ys) : Row w g ys := by
  subst e
  exact h

theorem Row.lt {w : World} {g : Nat} {ys : List Nd} (h : Row w g ys) : g < w.heap.size := Own.lt h

theorem Row.cell {w : World} {g : Nat} {ys : List Nd} (h : Row w g ys) (i t : Nat) (hi : i < ys.length) (ht : t < 5) : w.cell? ⟨g, i * 5 + t, none⟩ = (ys[i].row)[t]? := by
  rw [Own.at h _ (by rw [flat_length]; omega), flat_get ys i t hi ht]

theorem Row.node {w : World} {g : Nat} {ys : List Nd} (h : Row w g ys) (i : Nat) (hi : i < ys.length) : NodeAt w g (i * 5) ys[i] :=
  ⟨h.cell i 0 hi (by omega), h.cell i 1 hi (by omega), h.cell i 2 hi (by omega), h.cell i 3 hi (by omega), h.cell i 4 hi (by omega)⟩

theorem Row.nodes {w : World} {g : Nat} {ys : List Nd} (h : Row w g ys) : Nodes w (some ⟨g, 0, none⟩) ys := by
  intro i hi
  exact ⟨g, 0, rfl, by simpa using h.node i hi⟩

theorem Row.frozen {w : World} {g : Nat} {ys : List Nd} (h : Row w g ys) (j : Nat) : w.frozen? ⟨g, j, none⟩ = false := Own.frozen h j

theorem Row.below {w w' : World} {g : Nat} {ys : List Nd} (h : Row w g ys) (hb : Below w.heap.size w w') : Row w' g ys := Own.below h hb

theorem Row.has {w : World} {g : Nat} {ys : List Nd} (h : Row w g ys) (j : Nat) (hj : j < ys.length * 5) : ∃ v, w.cell? ⟨g, j, none⟩ = some v :=
  Own.has h j (by rw [flat_length]; exact hj)

theorem flat_set (ys : List Nd) (i : Nat) (hi : i < ys.length) (n : Nd) :
    (((((flat ys).set (i * 5) (.int .i64 n.kind)).set (i * 5 + 1) (.int .i64 n.num)).set (i * 5 + 2) (.string n.text)).set (i * 5 + 3) (.int .i64 n.kids)).set (i * 5 + 4) (.int .i64 n.place) = flat (ys.set i n) := by
  apply List.ext_getElem?
  intro j
  by_cases hj : j < ys.length * 5
  · have e : j = (j / 5) * 5 + j % 5 := by omega
    have hq : j / 5 < ys.length := by omega
    have hr : j % 5 < 5 := by omega
    generalize j / 5 = q at *
    generalize j % 5 = r at *
    subst e
    rw [flat_get _ q r (by simpa using hq) hr]
    simp only [List.getElem?_set, List.length_set, flat_length]
    by_cases hqi : q = i
    · subst hqi
      match r, hr with
      | 0, _ => simp [Nd.row]; omega
      | 1, _ => simp [Nd.row]; omega
      | 2, _ => simp [Nd.row]; omega
      | 3, _ => simp [Nd.row]; omega
      | 4, _ => simp [Nd.row]; omega
    · rw [if_neg (by omega), if_neg (by omega), if_neg (by omega), if_neg (by omega), if_neg (by omega), flat_get ys q r hq hr]
      simp [Ne.symm hqi]
  · rw [List.getElem?_eq_none (by simp [flat_length]; omega), List.getElem?_eq_none (by simp [flat_length]; omega)]

/-- Five stores: one node is put. -/
theorem Row.put {w : World} {g : Nat} {ys : List Nd} (h : Row w g ys) (i : Nat) (hi : i < ys.length) (n : Nd) :
    Row (((((w.setCell ⟨g, i * 5, none⟩ (.int .i64 n.kind)).setCell ⟨g, i * 5 + 1, none⟩ (.int .i64 n.num)).setCell ⟨g, i * 5 + 2, none⟩ (.string n.text)).setCell ⟨g, i * 5 + 3, none⟩ (.int .i64 n.kids)).setCell ⟨g, i * 5 + 4, none⟩ (.int .i64 n.place)) g (ys.set i n) := by
  have hl := flat_length ys
  exact (((((Own.set h (i * 5) _ (by omega)).set (i * 5 + 1) _ (by simp only [List.length_set]; omega)).set (i * 5 + 2) _ (by simp only [List.length_set]; omega)).set (i * 5 + 3) _ (by simp only [List.length_set]; omega)).set (i * 5 + 4) _ (by simp only [List.length_set]; omega)).row (flat_set ys i hi n)

theorem below_put {B : Nat} {w w' : World} (h : Below B w w') {g : Nat} (hg : B ≤ g) (j : Nat) (n : Nd) :
    Below B w (((((w'.setCell ⟨g, j, none⟩ (.int .i64 n.kind)).setCell ⟨g, j + 1, none⟩ (.int .i64 n.num)).setCell ⟨g, j + 2, none⟩ (.string n.text)).setCell ⟨g, j + 3, none⟩ (.int .i64 n.kids)).setCell ⟨g, j + 4, none⟩ (.int .i64 n.place)) :=
  ((((h.setCell hg _).setCell hg _).setCell hg _).setCell hg _).setCell hg _

theorem fill_step {z : Nd} (xs : List Nd) (k : Nat) (h : k < xs.length) : (xs.take k ++ List.replicate (xs.length - k) z).set k xs[k] = xs.take (k + 1) ++ List.replicate (xs.length - (k + 1)) z := by
  rw [List.set_append_right _ _ (by simp; omega)]
  have e : k - (xs.take k).length = 0 := by simp; omega
  have e2 : xs.length - k = (xs.length - (k + 1)) + 1 := by omega
  rw [e, e2, List.replicate_succ, List.set_cons_zero, List.take_succ_eq_append_getElem h, List.append_assoc]
  rfl

theorem undrew {w w1 : World} (h : Below w.drew.heap.size w.drew w1) : Below w.heap.size w w1 := ⟨h.os, h.tape, h.output, h.size, h.block⟩

theorem bcell_drew {W w1 : World} (hb : Below W.drew.heap.size W.drew w1) : (∀ b o, b < W.heap.size → w1.cell? ⟨b, o, none⟩ = W.cell? ⟨b, o, none⟩) :=
  fun b o h => (undrew hb).cell (p := ⟨b, o, none⟩) h

theorem bcell {W w1 : World} (hb : Below W.heap.size W w1) : (∀ b o, b < W.heap.size → w1.cell? ⟨b, o, none⟩ = W.cell? ⟨b, o, none⟩) :=
  fun b o h => hb.cell (p := ⟨b, o, none⟩) h

def Nd.zero : Nd := ⟨0, 0, ByteArray.empty, 0, 0⟩

theorem made_flat (n : Nat) : (madeCells #[.int .i64 0, .int .i64 0, .string ByteArray.empty, .int .i64 0, .int .i64 0] (n * 5)).toList = flat (List.replicate n Nd.zero) := by
  apply List.ext_getElem?
  intro j
  by_cases hj : j < n * 5
  · have e : j = (j / 5) * 5 + j % 5 := by omega
    have hq : j / 5 < n := by omega
    have hr : j % 5 < 5 := by omega
    generalize j / 5 = q at *
    generalize j % 5 = r at *
    subst e
    rw [flat_get _ q r (by simpa using hq) hr]
    have em : (q * 5 + r) % 5 = r := by omega
    simp only [madeCells, Array.toList_map, List.getElem?_map, Array.toList_range]
    rw [List.getElem?_range hj]
    match r, hr with
    | 0, _ => simp [Nd.row, Nd.zero]
    | 1, _ => simp [Nd.row, Nd.zero, em]
    | 2, _ => simp [Nd.row, Nd.zero, em]
    | 3, _ => simp [Nd.row, Nd.zero, em]
    | 4, _ => simp [Nd.row, Nd.zero, em]
  · rw [List.getElem?_eq_none (by simp [madeCells]; omega), List.getElem?_eq_none (by simp [flat_length]; omega)]

theorem Row.made (w : World) (n : Nat) : Row (w.alloc (.cells (madeCells #[.int .i64 0, .int .i64 0, .string ByteArray.empty, .int .i64 0, .int .i64 0] (n * 5)) 77)) w.heap.size (List.replicate n Nd.zero) :=
  ⟨_, [], heap_alloc_new _ _, by rw [made_flat n, List.append_nil]⟩

/-- w' is w but for new blocks and for the blocks of S. -/
structure But (S : Nat → Prop) (w w' : World) : Prop where
  os : w'.os = w.os
  tape : w'.tape = w.tape
  output : w'.output = w.output
  size : w.heap.size ≤ w'.heap.size
  block : ∀ k, k < w.heap.size → ¬ S k → w'.heap[k]? = w.heap[k]?

theorem But.refl (S : Nat → Prop) (w : World) : But S w w := ⟨rfl, rfl, rfl, Nat.le_refl _, fun _ _ _ => rfl⟩

theorem But.trans {S : Nat → Prop} {a b c : World} (h : But S a b) (k : But S b c) : But S a c :=
  ⟨k.os.trans h.os, k.tape.trans h.tape, k.output.trans h.output, Nat.le_trans h.size k.size, fun i hi hs => (k.block i (Nat.lt_of_lt_of_le hi h.size) hs).trans (h.block i hi hs)⟩

theorem But.mono {S T : Nat → Prop} {a b : World} (h : But S a b) (hs : ∀ k, S k → T k) : But T a b :=
  ⟨h.os, h.tape, h.output, h.size, fun i hi ht => h.block i hi fun hk => ht (hs i hk)⟩

theorem But.ofBelow {S : Nat → Prop} {a b : World} (h : Below a.heap.size a b) : But S a b := ⟨h.os, h.tape, h.output, h.size, fun i hi _ => h.block i hi⟩

theorem But.below {S : Nat → Prop} {B : Nat} {a b : World} (h : But S a b) (hB : B ≤ a.heap.size) (hs : ∀ k, S k → B ≤ k) : Below B a b :=
  ⟨h.os, h.tape, h.output, h.size, fun i hi => h.block i (by omega) fun hk => by have := hs i hk; omega⟩

theorem But.setCell {S : Nat → Prop} {a w : World} (h : But S a w) {p : Addr} (hp : S p.block) (u : Value) : But S a (w.setCell p u) :=
  ⟨h.os, h.tape, h.output, by simp [World.setCell]; exact h.size, fun i hi hs => (Below.heap_setCell w p u i (fun e => hs (by rw [e]; exact hp))).trans (h.block i hi hs)⟩

theorem But.row {S : Nat → Prop} {w w' : World} (h : But S w w') {g : Nat} {ys : List Nd} (hr : Row w g ys) (hg : ¬ S g) : Row w' g ys := by
  have hlt := hr.lt
  obtain ⟨cur, rest, hc, he⟩ := hr
  exact ⟨cur, rest, (h.block g hlt hg).trans hc, he⟩

theorem size_setCell (w : World) (a : Addr) (v : Value) : (w.setCell a v).heap.size = w.heap.size := by simp [World.setCell]

/-- How many nodes there are. -/
def total (kss : List (List Nd)) : Nat := (kss.map List.length).sum

theorem total_take_succ (kss : List (List Nd)) (k : Nat) (h : k < kss.length) : total (kss.take (k + 1)) = total (kss.take k) + kss[k].length := by
  rw [List.take_succ_eq_append_getElem h]
  simp only [total, List.map_append, List.sum_append, List.map_cons, List.map_nil, List.sum_cons, List.sum_nil, Nat.add_zero]

theorem total_take_le (kss : List (List Nd)) (k : Nat) : total (kss.take k) ≤ total kss := by
  have e : total kss = total (kss.take k) + total (kss.drop k) := by
    conv => lhs; rw [← List.take_append_drop k kss]
    simp only [total, List.map_append, List.sum_append]
  omega

set_option maxHeartbeats 400000 in
theorem szNode_any (x : Nd) (left : Int) (w : World) (hs : x.text.size ≤ maxLen) (h0 : 0 ≤ left) (h1 : left ≤ 1048576) :
    Calls Tryz.prog 61 #[.agg #[.int .i64 x.kind, .int .i64 x.num, .string x.text, .int .i64 x.kids, .int .i64 x.place], .int .i64 left] w fun e w' =>
      e = .returned (.int .i64 (if left < x.text.size then -1 else left - x.text.size)) ∧ Below w.heap.size w w' := by
  unfold maxLen at hs
  by_cases hl : left < x.text.size
  · go_enter Tryz.func61, Tryz.ntmps61
    go_wp2
    go_ret
    exact ⟨rfl, (Below.refl _ _).alloc (Nat.le_refl _) _⟩
  · go_enter Tryz.func61, Tryz.ntmps61
    go_wp2
    go_ret
    exact ⟨rfl, (Below.refl _ _).alloc (Nat.le_refl _) _⟩

set_option maxHeartbeats 400000 in
theorem toNode_any (x : Nd) (w : World) :
    Calls Tryz.prog 63 #[.agg #[.int .i64 x.kind, .int .i64 x.num, .string x.text, .int .i64 x.kids, .int .i64 x.place]] w fun e w' =>
      e = .returned (.agg #[.int .i64 x.kind, .int .i64 x.num, .string x.text, .int .i64 x.kids, .int .i64 x.place]) ∧ Below w.heap.size w w' := by
  go_enter Tryz.func63, Tryz.ntmps63
  go_wp2
  refine bodyPost_ret (v := .agg #[.int .i64 x.kind, .int .i64 x.num, .string x.text, .int .i64 x.kids, .int .i64 x.place]) (by simp [results, Tryz.results63, go_sem]) rfl ⟨rfl, ?_⟩
  exact (((Below.refl _ _).alloc (Nat.le_refl _) _).alloc (by simp) _).alloc (by simp; omega) _

set_option maxHeartbeats 400000 in
theorem eqNode_any (x y : Nd) (w : World) :
    Calls Tryz.prog 84 #[.agg #[.int .i64 x.kind, .int .i64 x.num, .string x.text, .int .i64 x.kids, .int .i64 x.place], .agg #[.int .i64 y.kind, .int .i64 y.num, .string y.text, .int .i64 y.kids, .int .i64 y.place]] w fun e w' =>
      e = .returned (.bool (x.eqb y)) ∧ Below w.heap.size w w' := by
  unfold Nd.eqb
  go_enter Tryz.func84, Tryz.ntmps84
  go_wp2
  all_goals
    go_ret
    refine ⟨ret_bool ?_, ((Below.refl _ _).alloc (Nat.le_refl _) _).alloc (by simp) _⟩
    go_light
    simp_all

/-- Alike, node by node. -/
def Alike (f : Nd → Nd → Bool) (xs ys : List Nd) : Prop := xs.length = ys.length ∧ ∀ i (h : i < xs.length) (h' : i < ys.length), f xs[i] ys[i] = true

set_option maxHeartbeats 1000000 in
theorem eqNodeS_any (xs ys : List Nd) (n m : Nat) (HX : Hid (xs.length = n)) (HY : Hid (ys.length = m)) (ao bo : Option Addr) (cap cbp : Nat) (w : World) (hx : Nodes w ao xs) (hy : Nodes w bo ys) (hlx : n ≤ 140737488355328) (hly : m ≤ 140737488355328) :
    Calls Tryz.prog 58 #[.slice ao n cap, .slice bo m cbp] w fun e w' =>
      (∃ r : Bool, e = .returned (.bool r) ∧ (r = true ↔ Alike Nd.eqb xs ys)) ∧ Below w.heap.size w w' := by
  by_cases hl : n = m
  · subst hl
    go_enter Tryz.func58, Tryz.ntmps58
    go_wp2
    go_loopw [5] (fun i wr => ∃ (k : Nat), k ≤ n ∧ i = .int .i64 k ∧ (∀ i (h : i < xs.length) (h' : i < ys.length), i < k → xs[i].eqb ys[i] = true) ∧ Below w.heap.size w wr) (fun i _ => n - (intOf i).toNat)
    case atStart => exact ⟨0, Nat.zero_le _, rfl, fun i _ _ h => absurd h (by omega), Below.refl _ _⟩
    case round =>
      obtain ⟨k, hk, rfl, hall, hb⟩ := hrel
      by_cases hlt : k < n
      · have hltx : k < xs.length := by have := HX.out; omega
        have hlty : k < ys.length := by have := HY.out; omega
        obtain ⟨b, o, rfl, c0, c1, c2, c3, c4⟩ := hx.below hb k hltx
        obtain ⟨b', o', rfl, e0, e1, e2, e3, e4⟩ := hy.below hb k hlty
        clear hx hy
        cases hq : xs[k].eqb ys[k]
        · have HA : Hid (∀ i (h : i < xs.length) (h' : i < ys.length), i < k → xs[i].eqb ys[i] = true) := hall
          clear hall
          go_wp2_with fail
          go_region_with (go_at_call 84; refine (eqNode_any xs[k] ys[k] _).mono ?_; rintro e w1 ⟨rfl, hb1⟩)
          all_goals
            have hbb := Below.step hb (undrew hb1)
            clear hb hb1 c0 c1 c2 c3 c4 e0 e1 e2 e3 e4
            go_wp2
            go_ret
            exact ⟨⟨false, rfl, by simp only [Bool.false_eq_true, false_iff]; intro ha; have := ha.2 k hltx hlty; rw [hq] at this; cases this⟩, hbb⟩
        · have HA : Hid (∀ i (h : i < xs.length) (h' : i < ys.length), i < k + 1 → xs[i].eqb ys[i] = true) := by
            intro i h h' hi
            by_cases e : i = k
            · subst e; exact hq
            · exact hall i h h' (by omega)
          clear hall
          go_wp2_with fail
          go_region_with (go_at_call 84; refine (eqNode_any xs[k] ys[k] _).mono ?_; rintro e w1 ⟨rfl, hb1⟩)
          all_goals
            have hbb := Below.step hb (undrew hb1)
            clear hb hb1 c0 c1 c2 c3 c4 e0 e1 e2 e3 e4
            go_wp2
            go_roundw
            case rel => exact ⟨k + 1, by omega, by go_num, HA.out, hbb⟩
            case measure => simp [intOf]; omega
      · have HA : Hid (Alike Nd.eqb xs ys) := ⟨HX.out.trans HY.out.symm, fun i h h' => hall i h h' (by have := HX.out; omega)⟩
        clear hall hx hy
        go_wp2
        go_ret
        exact ⟨⟨true, rfl, by simp only [true_iff]; exact HA.out⟩, hb⟩
  · have hne : ((n : Int) != (m : Int)) = true := by simp; omega
    clear hx hy
    go_enter Tryz.func58, Tryz.ntmps58
    go_wp2
    go_ret
    exact ⟨⟨false, rfl, by simp only [Bool.false_eq_true, false_iff]; intro ha; exact hl (HX.out.symm.trans (ha.1.trans HY.out))⟩, Below.refl _ _⟩

theorem Tryz.infoN : (Tryz.prog.info? 77).map (fun i => (i.zero, i.size, i.bytes)) = some (some (.agg #[.int .i64 0, .int .i64 0, .string ByteArray.empty, .int .i64 0, .int .i64 0]), 5, 48) := by kernel_rfl

theorem make_nodes (n : Nat) (h : n ≤ 1048576) (w : World) :
    (Instr.makeSlice 39 (.int .i64 (n : Int)) (.int .i64 (n : Int))).run Tryz.prog w = .ok (.slice (some ⟨w.heap.size, 0, none⟩) n n) (w.alloc (.cells (madeCells #[.int .i64 0, .int .i64 0, .string ByteArray.empty, .int .i64 0, .int .i64 0] (n * 5)) 77)) := by
  obtain ⟨i, hi, hzz⟩ := Option.map_eq_some_iff.1 Tryz.infoN
  simp only [Prod.mk.injEq] at hzz
  obtain ⟨hz, hs, hb⟩ := hzz
  have hr := run_make (P := Tryz.prog) w 39 77 i _ Tryz.underlying39 hi hz .i64 .i64 n n (by omega) (Int.le_refl _) (by rw [hb]; omega) (by omega)
  simp only [Int.toNat_natCast, hs] at hr
  exact hr

set_option maxHeartbeats 400000 in
theorem toNodeS_any (xs : List Nd) (ao : Option Addr) (cap : Nat) (w : World) (hx : Nodes w ao xs) (hlen : xs.length ≤ 1048576) :
    Calls Tryz.prog 41 #[.slice ao xs.length cap] w fun e w' =>
      ∃ g, e = .returned (.slice (some ⟨g, 0, none⟩) xs.length xs.length) ∧ w.heap.size ≤ g ∧ Row w' g xs ∧ Below w.heap.size w w' := by
  have hmk := make_nodes xs.length hlen
  go_enter Tryz.func41, Tryz.ntmps41
  go_wp2
  clear hmk
  go_loopw [4] (fun i wr => ∃ (k : Nat), k ≤ xs.length ∧ i = .int .i64 k ∧ Row wr w.heap.size (xs.take k ++ List.replicate (xs.length - k) Nd.zero) ∧ Below w.heap.size w wr) (fun i _ => xs.length - (intOf i).toNat)
  case atStart => exact ⟨0, Nat.zero_le _, rfl, by simpa using Row.made w xs.length, (Below.refl _ _).alloc (Nat.le_refl _) _⟩
  case round =>
    obtain ⟨k, hk, rfl, hrow, hb⟩ := hrel
    by_cases hlt : k < xs.length
    · obtain ⟨b, o, rfl, hn⟩ := hx.below hb k hlt
      obtain ⟨c0, c1, c2, c3, c4⟩ := hn
      clear hx
      go_wp2_with fail
      refine (toNode_any xs[k] wr).mono ?_
      rintro e w1 ⟨rfl, hb1⟩
      have hrow1 := hrow.below hb1
      have hbb := Below.step hb hb1
      have f0 := hrow1.frozen (k * 5)
      have f1 := hrow1.frozen (k * 5 + 1)
      have f2 := hrow1.frozen (k * 5 + 2)
      have f3 := hrow1.frozen (k * 5 + 3)
      have f4 := hrow1.frozen (k * 5 + 4)
      have hl : (xs.take k ++ List.replicate (xs.length - k) Nd.zero).length = xs.length := by simp; omega
      obtain ⟨v0, d0⟩ := hrow1.has (k * 5) (by rw [hl]; omega)
      obtain ⟨v1, d1⟩ := hrow1.has (k * 5 + 1) (by rw [hl]; omega)
      obtain ⟨v2, d2⟩ := hrow1.has (k * 5 + 2) (by rw [hl]; omega)
      obtain ⟨v3, d3⟩ := hrow1.has (k * 5 + 3) (by rw [hl]; omega)
      obtain ⟨v4, d4⟩ := hrow1.has (k * 5 + 4) (by rw [hl]; omega)
      have R := hrow1.put k (by rw [hl]; exact hlt) xs[k]
      rw [fill_step xs k hlt] at R
      have R2 := below_put hbb (Nat.le_refl _) (k * 5) xs[k]
      clear hl hrow hrow1 hb hb1 hbb c0 c1 c2 c3 c4
      go_wp2
      go_roundw
      case rel => exact ⟨k + 1, by omega, by go_num, R, R2⟩
      case measure => simp [intOf]; omega
    · have hke : k = xs.length := by omega
      subst hke
      clear hx
      go_wp2
      go_ret
      exact ⟨_, rfl, Nat.le_refl _, by simpa using hrow, hb⟩

theorem szNode_ex (x : Nd) (left : Int) (w : World) (hs : x.text.size ≤ maxLen) (h0 : 0 ≤ left) (h1 : left ≤ 1048576) :
    Calls Tryz.prog 61 #[.agg #[.int .i64 x.kind, .int .i64 x.num, .string x.text, .int .i64 x.kids, .int .i64 x.place], .int .i64 left] w fun e w' =>
      (∃ r : Int, e = .returned (.int .i64 r) ∧ (r = -1 ∨ (0 ≤ r ∧ r ≤ left))) ∧ Below w.heap.size w w' := by
  refine (szNode_any x left w hs h0 h1).mono ?_
  rintro e w' ⟨rfl, hb⟩
  refine ⟨⟨_, rfl, ?_⟩, hb⟩
  split
  · exact Or.inl rfl
  · right; omega

set_option maxHeartbeats 400000 in
theorem szNodeS_any (xs : List Nd) (ao : Option Addr) (cap : Nat) (left : Int) (w : World) (hx : Nodes w ao xs) (hs : ∀ x ∈ xs, x.text.size ≤ maxLen) (hlen : xs.length ≤ 9223372036854775807) (h0 : 0 ≤ left) (h1 : left ≤ 1048576) :
    Calls Tryz.prog 30 #[.slice ao xs.length cap, .int .i64 left] w fun e w' =>
      (∃ r : Int, e = .returned (.int .i64 r) ∧ (r = -1 ∨ (0 ≤ r ∧ r ≤ left - xs.length))) ∧ Below w.heap.size w w' := by
  by_cases hl : left < xs.length
  · go_enter Tryz.func30, Tryz.ntmps30
    go_wp2
    go_ret
    exact ⟨⟨-1, rfl, Or.inl rfl⟩, Below.refl _ _⟩
  · go_enter Tryz.func30, Tryz.ntmps30
    go_wp2
    go_loopw [1, 5] (fun l i wr => ∃ (k : Nat) (r : Int), k ≤ xs.length ∧ i = .int .i64 k ∧ l = .int .i64 r ∧ 0 ≤ r ∧ r ≤ left - xs.length ∧ Below w.heap.size w wr) (fun _ i _ => xs.length - (intOf i).toNat)
    case atStart => exact ⟨0, _, Nat.zero_le _, rfl, rfl, by omega, by omega, Below.refl _ _⟩
    case round =>
      obtain ⟨k, r, hk, rfl, rfl, hr0, hr1, hb⟩ := hrel
      by_cases hlt : k < xs.length
      · obtain ⟨b, o, rfl, hn⟩ := hx.below hb k hlt
        have hsk := hs xs[k] (List.getElem_mem hlt)
        obtain ⟨c0, c1, c2, c3, c4⟩ := hn
        clear hx hs
        go_wp2_with fail
        refine (szNode_ex xs[k] r wr hsk hr0 (by omega)).mono ?_
        rintro e w1 ⟨⟨r', rfl, hr'⟩, hb1⟩
        rcases hr' with hr' | ⟨hr2, hr3⟩
        · subst hr'
          go_wp2
          go_ret
          exact ⟨⟨-1, rfl, Or.inl rfl⟩, Below.step hb hb1⟩
        · have hbb := Below.step hb hb1
          clear hb1 hb c0 c1 c2 c3 c4
          go_wp2
          go_roundw
          case rel => exact ⟨k + 1, r', by omega, by go_num, rfl, hr2, by omega, hbb⟩
          case measure => simp [intOf]; omega
      · go_wp2
        go_ret
        exact ⟨⟨r, rfl, Or.inr ⟨hr0, hr1⟩⟩, hb⟩

end Go.Proofs.YtoghngfkmhfimaaGreatDoor
