import Derived.Test.YtahdmflbdmlfhaaGreatDoorProg
import Derived.Test.YtahdmflbdmlfhaaGreatDoorWAC
import Derived.Test.YtahdmflbdmlfhaaGreatDoorWAA
import Derived.BigQuiet
import Derived.Test.YtahdmflbdmlfhaaGreatDoorWAD
import Derived.Deep.RegionLaw
import Derived.Deep.OwnRows
import Derived.Deep.RegionWith
namespace Go.Proofs.YtahdmflbdmlfhaaGreatDoor

open Go.RowKit

/-- Block g is a row of elements of type T, of the call's own, that begins with these cells. -/
def OwnT (T : Nat) (w : World) (g : Nat) (cs : List Value) : Prop := ∃ cur rest, w.heap[g]? = some (.cells cur T (0, 0)) ∧ cur.toList = cs ++ rest

theorem OwnT.lt {T : Nat} {w : World} {g : Nat} {cs : List Value} (h : OwnT T w g cs) : g < w.heap.size := by
  obtain ⟨cur, rest, hg, _⟩ := h
  exact (Array.getElem?_eq_some_iff.1 hg).1

theorem OwnT.set {T : Nat} {w : World} {g : Nat} {cs : List Value} (h : OwnT T w g cs) (j : Nat) (v : Value) (hj : j < cs.length) : OwnT T (w.setCell ⟨g, j, none⟩ v) g (cs.set j v) := by
  obtain ⟨cur, rest, hg, hc⟩ := h
  exact ⟨_, rest, heap_setCell_same _ g _ _ T _ hg, by rw [Array.toList_setIfInBounds, hc, List.set_append_left _ _ hj]⟩

theorem OwnT.at {T : Nat} {w : World} {g : Nat} {cs : List Value} (h : OwnT T w g cs) (j : Nat) (hj : j < cs.length) : w.cell? ⟨g, j, none⟩ = cs[j]? := by
  obtain ⟨cur, rest, hg, hc⟩ := h
  rw [cell_of_row w g _ cur T (0, 0) hg, ← Array.getElem?_toList, hc, List.getElem?_append_left hj]

theorem OwnT.frozen {T : Nat} {w : World} {g : Nat} {cs : List Value} (h : OwnT T w g cs) (j : Nat) : w.frozen? ⟨g, j, none⟩ = false := by
  obtain ⟨cur, _, hg, _⟩ := h
  exact frozen_of_row w g j cur T hg

theorem OwnT.but {S : Nat → Prop} {T : Nat} {w w' : World} {g : Nat} {cs : List Value} (h : OwnT T w g cs) (hb : But S w w') (hn : ¬ S g) : OwnT T w' g cs := by
  have hlt := h.lt
  obtain ⟨cur, rest, hg, hc⟩ := h
  exact ⟨cur, rest, (hb.block g hlt hn).trans hg, hc⟩

theorem OwnT.below {T : Nat} {w w' : World} {g : Nat} {cs : List Value} (h : OwnT T w g cs) (hb : Below w.heap.size w w') : OwnT T w' g cs := by
  have hlt := h.lt
  obtain ⟨cur, rest, hg, hc⟩ := h
  exact ⟨cur, rest, (hb.block g hlt).trans hg, hc⟩

/-- Block g is a row of int64s. -/
def LRow (w : World) (g : Nat) (xs : List Int) : Prop := OwnT 2 w g (ints xs)

theorem LRow.at {w : World} {g : Nat} {xs : List Int} (h : LRow w g xs) (j : Nat) (hj : j < xs.length) : w.cell? ⟨g, j, none⟩ = some (.int .i64 xs[j]) := by
  rw [OwnT.at h j (by simp [ints]; exact hj)]
  simp [ints, List.getElem?_eq_getElem hj]

theorem LRow.put {w : World} {g : Nat} {xs : List Int} (h : LRow w g xs) (j : Nat) (hj : j < xs.length) (v : Int) : LRow (w.setCell ⟨g, j, none⟩ (.int .i64 v)) g (xs.set j v) := by
  have h9 := OwnT.set h j (.int .i64 v) (by simp [ints]; exact hj)
  have e : (ints xs).set j (.int .i64 v) = ints (xs.set j v) := by simp [ints]
  rw [e] at h9
  exact h9

theorem LRow.below {w w' : World} {g : Nat} {xs : List Int} (h : LRow w g xs) (hb : Below w.heap.size w w') : LRow w' g xs := OwnT.below h hb

theorem LRow.but {S : Nat → Prop} {w w' : World} {g : Nat} {xs : List Int} (h : LRow w g xs) (hb : But S w w') (hn : ¬ S g) : LRow w' g xs := OwnT.but h hb hn

theorem LRow.frozen {w : World} {g : Nat} {xs : List Int} (h : LRow w g xs) (j : Nat) : w.frozen? ⟨g, j, none⟩ = false := OwnT.frozen h j

theorem LRow.lt {w : World} {g : Nat} {xs : List Int} (h : LRow w g xs) : g < w.heap.size := OwnT.lt h

/-- A slice of int64s to be read. -/
def LCells (w : World) (ao : Option Addr) (xs : List Int) : Prop := ∀ i (h : i < xs.length), ∃ b o, ao = some ⟨b, o, none⟩ ∧ w.cell? ⟨b, o + i, none⟩ = some (.int .i64 xs[i])

theorem LCells.below {w w' : World} {ao : Option Addr} {xs : List Int} (h : LCells w ao xs) (hb : Below w.heap.size w w') : LCells w' ao xs := by
  intro i hi
  obtain ⟨b, o, e, hc⟩ := h i hi
  exact ⟨b, o, e, (hb.cell (p := ⟨b, o + i, none⟩) (lt_of_cell hc)).trans hc⟩

theorem LRow.cells {w : World} {g : Nat} {xs : List Int} (h : LRow w g xs) : LCells w (some ⟨g, 0, none⟩) xs := fun i hi => ⟨g, 0, rfl, by rw [Nat.zero_add]; exact h.at i hi⟩

/-- An answer: a slice of int64s that is empty, or a row of the call's own, from block B on. -/
def LAns (w : World) (B : Nat) (ao : Option Addr) (zs : List Int) : Prop := zs = [] ∨ ∃ g, ao = some ⟨g, 0, none⟩ ∧ B ≤ g ∧ LRow w g zs

theorem LAns.cells {w : World} {B : Nat} {ao : Option Addr} {zs : List Int} (h : LAns w B ao zs) : LCells w ao zs := by
  rcases h with rfl | ⟨g, rfl, _, hr⟩
  · exact fun i hi => by simp at hi
  · exact hr.cells

theorem LAns.below {w w' : World} {B : Nat} {ao : Option Addr} {zs : List Int} (h : LAns w B ao zs) (hb : Below w.heap.size w w') : LAns w' B ao zs := by
  rcases h with rfl | ⟨g, rfl, hB, hr⟩
  · exact Or.inl rfl
  · exact Or.inr ⟨g, rfl, hB, hr.below hb⟩

theorem LAns.but {S : Nat → Prop} {w w' : World} {B : Nat} {ao : Option Addr} {zs : List Int} (h : LAns w B ao zs) (hb : But S w w') (hS : ∀ g, ao = some ⟨g, 0, none⟩ → B ≤ g → LRow w g zs → ¬ S g) : LAns w' B ao zs := by
  rcases h with rfl | ⟨g, rfl, hB, hr⟩
  · exact Or.inl rfl
  · exact Or.inr ⟨g, rfl, hB, hr.but hb (hS g rfl hB hr)⟩

def flat2 (ms : List (Int × Int)) : List Value := ms.flatMap fun p => [.int .i64 p.1, .int .i64 p.2]

theorem flat2_length (ms : List (Int × Int)) : (flat2 ms).length = ms.length * 2 := by
  induction ms with
  | nil => rfl
  | cons m ms ih => simp only [flat2, List.flatMap_cons, List.length_append, List.length_cons, List.length_nil] at *; omega

theorem flat2_append (a b : List (Int × Int)) : flat2 (a ++ b) = flat2 a ++ flat2 b := by simp [flat2]

theorem flat2_get (ms : List (Int × Int)) (i : Nat) (h : i < ms.length) : (flat2 ms)[i * 2]? = some (.int .i64 ms[i].1) ∧ (flat2 ms)[i * 2 + 1]? = some (.int .i64 ms[i].2) := by
  induction ms generalizing i with
  | nil => simp at h
  | cons m ms ih =>
    cases i with
    | zero => simp [flat2]
    | succ i =>
      have e1 : (i + 1) * 2 = i * 2 + 1 + 1 := by omega
      have h9 := ih i (by simpa using h)
      rw [e1]
      simpa [flat2] using h9

/-- Block g is a row of l8Metas. -/
def MRow (w : World) (g : Nat) (ms : List (Int × Int)) : Prop := OwnT 85 w g (flat2 ms)

theorem MRow.at {w : World} {g : Nat} {ms : List (Int × Int)} (h : MRow w g ms) (i : Nat) (hi : i < ms.length) : w.cell? ⟨g, i * 2, none⟩ = some (.int .i64 ms[i].1) ∧ w.cell? ⟨g, i * 2 + 1, none⟩ = some (.int .i64 ms[i].2) := by
  have hl := flat2_length ms
  obtain ⟨h1, h2⟩ := flat2_get ms i hi
  exact ⟨(OwnT.at h _ (by omega)).trans h1, (OwnT.at h _ (by omega)).trans h2⟩

theorem MRow.below {w w' : World} {g : Nat} {ms : List (Int × Int)} (h : MRow w g ms) (hb : Below w.heap.size w w') : MRow w' g ms := OwnT.below h hb

theorem MRow.lt {w : World} {g : Nat} {ms : List (Int × Int)} (h : MRow w g ms) : g < w.heap.size := OwnT.lt h

theorem MRow.kept {w w' : World} {g k : Nat} {ms : List (Int × Int)} (h : MRow w g ms) (hg : w.grownBy w' (some k)) (hne : g ≠ k) : MRow w' g ms := by
  obtain ⟨cur, rest, hh, hc⟩ := h
  exact ⟨cur, rest, (hg.block g (Array.getElem?_eq_some_iff.1 hh).1 (by simpa using hne)).trans hh, hc⟩

/-- What l8Known answers. -/
def knownIn (ms : List (Int × Int)) (x : Int) : Int := if placeIn (ms.map Prod.fst) x < ms.length then (placeIn (ms.map Prod.fst) x : Int) else -1

set_option maxHeartbeats 1000000 in
theorem known_any (ms : List (Int × Int)) (n : Nat) (HM : Hid (ms.length = n)) (hn : n ≤ 1048576) (x : Int) (g cap : Nat) (w : World) (hr : MRow w g ms) :
    Calls Tryz.prog 33 #[.slice (some ⟨g, 0, none⟩) n cap, .int .i64 x] w fun e w' => e = .returned (.int .i64 (knownIn ms x)) ∧ Below w.heap.size w w' := by
  go_enter Tryz.func33, Tryz.ntmps33
  go_wp2
  go_loopw [5] (fun i wr => ∃ (k : Nat), k ≤ n ∧ i = .int .i64 k ∧ (∀ i (h : i < (ms.map Prod.fst).length), i < k → (ms.map Prod.fst)[i] ≠ x) ∧ Below w.heap.size w wr) (fun i _ => n - (intOf i).toNat)
  case atStart => exact ⟨0, Nat.zero_le _, rfl, fun i _ h => absurd h (by omega), Below.refl _ _⟩
  case round =>
    obtain ⟨k, hk, rfl, hall, hb⟩ := hrel
    by_cases hlt : k < n
    · have hltx : k < ms.length := by have := HM.out; omega
      have hltm : k < (ms.map Prod.fst).length := by simp; exact hltx
      have hrow := hr.below hb
      obtain ⟨c0, _⟩ := hrow.at k hltx
      have hlb := hrow.lt
      by_cases he : ms[k].1 = x
      · have HV : Hid (knownIn ms x = (k : Int)) := by
          have h9 := placeIn_found (x := x) hltm (by simpa using he) hall
          show knownIn ms x = _
          unfold knownIn
          rw [h9, if_pos hltx]
        rw [he] at c0
        have te : ((x : Int) == x) = true := by simp
        clear hall hr hrow he
        go_wp2
        go_ret
        exact ⟨by rw [HV.out]; rfl, hb⟩
      · have te : (ms[k].1 == x) = false := by simpa using he
        have HA : Hid (∀ i (h : i < (ms.map Prod.fst).length), i < k + 1 → (ms.map Prod.fst)[i] ≠ x) := by
          intro i h hi
          by_cases e : i = k
          · subst e; simpa using he
          · exact hall i h (by omega)
        obtain ⟨v, hv⟩ : ∃ v, ms[k].1 = v := ⟨_, rfl⟩
        rw [hv] at c0 te
        clear hall hr hrow he hv
        go_wp2
        go_roundw
        case rel => exact ⟨k + 1, by omega, by go_num, HA.out, hb⟩
        case measure => simp [intOf]; omega
    · have HV : Hid (knownIn ms x = -1) := by
        have h9 := placeIn_none (met := ms.map Prod.fst) (x := x) (fun i h => hall i h (by have := HM.out; simp at h; omega))
        show knownIn ms x = _
        unfold knownIn
        rw [h9, if_neg (by simp)]
      clear hall hr
      go_wp2
      go_ret
      exact ⟨by rw [HV.out]; rfl, hb⟩

/-- A slice of l8Metas of the call's own. -/
def OwnM (w : World) (B g c l : Nat) (ms : List (Int × Int)) : Prop := ms.length = l ∧ w.ownsRow B 85 2 (.slice (some ⟨g, 0, none⟩) l c) l (flat2 ms)

theorem Tryz.infoM : (Tryz.prog.info? 85).map (fun i => (i.zero, i.size, i.bytes)) = some (some (.agg #[.int .i64 0, .int .i64 0]), 2, 16) := by kernel_rfl

theorem OwnM.row {w : World} {B g c l : Nat} {ms : List (Int × Int)} (h : OwnM w B g c l ms) : B ≤ g ∧ MRow w g ms := by
  obtain ⟨hl, ho⟩ := h
  rcases ho.2 with ⟨h', _⟩ | ⟨g2, cap2, cur, he, hb, hh, _, _, _, htake⟩
  · cases h'
  · simp only [Value.slice.injEq, Option.some.injEq, Addr.mk.injEq, and_true, true_and] at he
    obtain ⟨rfl, rfl⟩ := he
    exact ⟨hb, cur, cur.toList.drop (l * 2), hh, by rw [← htake, List.take_append_drop]⟩

theorem OwnM.empty {w : World} {B : Nat} (hB : B ≤ w.heap.size) : OwnM (w.alloc (.cells #[] 85)) B w.heap.size 0 0 [] :=
  ⟨rfl, rfl, Or.inr ⟨_, 0, #[], rfl, hB, heap_alloc_new _ _, Nat.le_refl _, by simp [maxLen], rfl, rfl⟩⟩

theorem OwnM.alloc {w : World} {B g c l : Nat} {ms : List (Int × Int)} (h : OwnM w B g c l ms) (o : Obj) : OwnM (w.alloc o) B g c l ms := ⟨h.1, h.2.alloc o⟩

theorem OwnM.but {S : Nat → Prop} {w w' : World} {B g c l : Nat} {ms : List (Int × Int)} (h : OwnM w B g c l ms) (hb : But S w w') (hn : ¬ S g) : OwnM w' B g c l ms := ⟨h.1, owns_but h.2 hb hn⟩

theorem OwnM.below {w w' : World} {B g c l : Nat} {ms : List (Int × Int)} (h : OwnM w B g c l ms) (hb : Below w.heap.size w w') : OwnM w' B g c l ms := h.but (S := fun _ => False) (But.ofBelow hb) (fun h => h)

theorem OwnM.kept {w w' : World} {B g c l k : Nat} {ms : List (Int × Int)} (h : OwnM w B g c l ms) (hg : w.grownBy w' (some k)) (hne : g ≠ k) : OwnM w' B g c l ms := ⟨h.1, owns_kept h.2 hg hne⟩

theorem OwnM.push {w : World} {B g c l m : Nat} {ms : List (Int × Int)} {x : Int × Int} (h : w.ownsRow B 85 2 (.slice (some ⟨g, 0, none⟩) m c) m (flat2 ms ++ [.int .i64 x.1, .int .i64 x.2])) (hl : ms.length = l) (hm : m = l + 1) : OwnM w B g c (l + 1) (ms ++ [x]) := by
  subst hm
  refine ⟨by simp [hl], ?_⟩
  rw [flat2_append]
  exact h

theorem two_cells (w : World) (a b : Int) : ∀ j u, [Value.int .i64 a, .int .i64 b][j]? = some u → (w.alloc (.cells #[.int .i64 a, .int .i64 b] 85)).cell? (Addr.add ⟨w.heap.size, 0, none⟩ j) = some u := by
  intro j u hj
  have ad : Addr.add ⟨w.heap.size, 0, none⟩ j = ⟨w.heap.size, j, none⟩ := by
    unfold Addr.add
    split
    · simp_all
    · simp
  rw [ad, cell_of_row _ w.heap.size j _ 85 (0, 0) (heap_alloc_new _ _), ← hj]
  simp

theorem two_one (a b : Int) : ∀ u ∈ [Value.int .i64 a, .int .i64 b], u.oneCell' = true := by
  intro u hu
  simp at hu
  rcases hu with rfl | rfl <;> rfl

theorem owns_setOne {w : World} {B e size g c n i : Nat} {xs : List Value} {v : Value} (h : w.ownsRow B e size (.slice (some ⟨g, 0, none⟩) n c) n xs) : (w.setCell ⟨g, i, none⟩ v).ownsRow B e size (.slice (some ⟨g, 0, none⟩) n c) n (xs.set i v) := by
  obtain ⟨hl, ho⟩ := h
  refine ⟨by simp [hl], Or.inr ?_⟩
  rcases ho with ⟨h', _⟩ | ⟨g2, cap2, cur, he, hb, hh, h1, h2, h3, htake⟩
  · cases h'
  · simp only [Value.slice.injEq, Option.some.injEq, Addr.mk.injEq, and_true, true_and] at he
    obtain ⟨rfl, rfl⟩ := he
    exact ⟨_, _, _, rfl, hb, heap_setCell_same _ g i _ e _ hh, h1, h2, by simp [h3], by rw [Array.toList_setIfInBounds, List.take_set, htake]⟩

theorem flat2_set (ms : List (Int × Int)) (j : Nat) (p : Int × Int) : ((flat2 ms).set (j * 2) (.int .i64 p.1)).set (j * 2 + 1) (.int .i64 p.2) = flat2 (ms.set j p) := by
  induction ms generalizing j with
  | nil => simp [flat2]
  | cons m ms ih =>
    cases j with
    | zero => simp [flat2]
    | succ j =>
      have e1 : (j + 1) * 2 = j * 2 + 1 + 1 := by omega
      have h9 := ih j
      rw [e1]
      simp only [flat2, List.flatMap_cons, List.cons_append, List.nil_append, List.set_cons_succ] at h9 ⊢
      rw [h9]

theorem OwnM.put {w : World} {B g c l : Nat} {ms : List (Int × Int)} (h : OwnM w B g c l ms) (j : Nat) (a b : Int) : OwnM ((w.setCell ⟨g, j * 2, none⟩ (.int .i64 a)).setCell ⟨g, j * 2 + 1, none⟩ (.int .i64 b)) B g c l (ms.set j (a, b)) := by
  refine ⟨by simp [h.1], ?_⟩
  have h9 := owns_setOne (v := .int .i64 b) (owns_setOne (v := .int .i64 a) h.2 (i := j * 2)) (i := j * 2 + 1)
  rw [flat2_set ms j (a, b)] at h9
  exact h9

/-- x put into a list whose last comes first: it goes by those that are greater. -/
def insR (x : Int × Int) : List (Int × Int) → List (Int × Int)
  | [] => [x]
  | y :: ys => if x.1 < y.1 then y :: insR x ys else x :: y :: ys

/-- One more in l8Sorted. -/
def insM (out : List (Int × Int)) (x : Int × Int) : List (Int × Int) := (insR x out.reverse).reverse

def sortedM (ms : List (Int × Int)) : List (Int × Int) := ms.foldl insM []

theorem insR_length (x : Int × Int) (l : List (Int × Int)) : (insR x l).length = l.length + 1 := by
  induction l with
  | nil => rfl
  | cons y ys ih => unfold insR; split <;> simp [ih]

theorem insM_length (out : List (Int × Int)) (x : Int × Int) : (insM out x).length = out.length + 1 := by simp [insM, insR_length]

theorem sortedM_take (ms : List (Int × Int)) (k : Nat) (h : k < ms.length) : sortedM (ms.take (k + 1)) = insM (sortedM (ms.take k)) ms[k] := by
  unfold sortedM
  rw [List.take_succ_eq_append_getElem h, List.foldl_append]
  rfl

theorem sortedM_length (ms : List (Int × Int)) : (sortedM ms).length = ms.length := by
  have : ∀ out, (ms.foldl insM out).length = out.length + ms.length := by
    induction ms with
    | nil => simp
    | cons m ms ih => intro out; rw [List.foldl_cons, ih, insM_length]; simp; omega
  have h9 := this []
  unfold sortedM
  simpa using h9

/-- The step by which one goes by another. -/
theorem insM_step (A : List (Int × Int)) (y x : Int × Int) (B : List (Int × Int)) (h : x.1 < y.1) : (insR x (A ++ [y]).reverse).reverse ++ B = (insR x A.reverse).reverse ++ (y :: B) := by
  rw [List.reverse_append]
  simp only [List.reverse_cons, List.reverse_nil, List.nil_append, List.cons_append]
  rw [insR, if_pos h]
  simp

theorem insM_stop (A : List (Int × Int)) (x : Int × Int) (h : ∀ y, A.getLast? = some y → ¬ x.1 < y.1) : (insR x A.reverse).reverse = A ++ [x] := by
  rcases List.eq_nil_or_concat A with rfl | ⟨A', y, rfl⟩
  · rfl
  · rw [List.concat_eq_append, List.reverse_append]
    simp only [List.reverse_cons, List.reverse_nil, List.nil_append, List.cons_append]
    rw [insR, if_neg (h y (by simp))]
    simp

theorem swap_list (A B : List (Int × Int)) (x y : Int × Int) : (((A ++ [y]) ++ x :: B).set (A.length + 1) y).set A.length x = A ++ x :: (y :: B) := by
  induction A with
  | nil => rfl
  | cons a A ih => simp

set_option maxRecDepth 100000 in
set_option maxHeartbeats 1000000 in
theorem sorted_any (ms : List (Int × Int)) (n : Nat) (HM : Hid (ms.length = n)) (hn : n ≤ 1048576) (g0 cap : Nat) (w : World) (hr : MRow w g0 ms) :
    Calls Tryz.prog 37 #[.slice (some ⟨g0, 0, none⟩) n cap] w fun e w' => ∃ g c, e = .returned (.slice (some ⟨g, 0, none⟩) n c) ∧ w.heap.size ≤ g ∧ MRow w' g (sortedM ms) ∧ Below w.heap.size w w' := by
  obtain ⟨i0, hi, hz0, hz1, hz2⟩ := info_parts Tryz.infoM
  go_enter Tryz.func37, Tryz.ntmps37
  go_wp2
  go_loopw [3, 4] (fun v p wr => ∃ (k g c : Nat), k ≤ n ∧ p = .int .i64 k ∧ v = .slice (some ⟨g, 0, none⟩) k c ∧ OwnM wr w.heap.size g c k (sortedM (ms.take k)) ∧ Below w.heap.size w wr) (fun _ p _ => n - (intOf p).toNat)
  case atStart => exact ⟨0, w.heap.size, 0, Nat.zero_le _, rfl, rfl, OwnM.empty (Nat.le_refl _), (Below.refl _ w).alloc (Nat.le_refl _) _⟩
  case round =>
    obtain ⟨k, g, c, hk, rfl, rfl, hown, hb⟩ := hrel
    by_cases hlt : k < n
    · have hltx : k < ms.length := by have := HM.out; omega
      have hrow := hr.below hb
      obtain ⟨c0, c1⟩ := hrow.at k hltx
      obtain ⟨⟨xa, xb⟩, hx⟩ : ∃ x, ms[k] = x := ⟨_, rfl⟩
      rw [hx] at c0 c1
      simp only at c0 c1
      have hlb := hrow.lt
      have hob := owns_block hown.2
      have HS : Hid (sortedM (ms.take (k + 1)) = insM (sortedM (ms.take k)) (xa, xb)) := by
        show sortedM (ms.take (k + 1)) = _
        rw [sortedM_take ms k hltx, hx]
      clear hr hrow hx
      have hl9 := hown.1
      go_wp2_with (at_builtin; refine wpList_append2 _ rfl (.tmp 14) (.tmp 19) 51 rfl w.heap.size 85 i0 _ 2 16 Tryz.underlying51 hi hz0 hz1 hz2 rfl (by decide) g k c _ rfl (hown.alloc _).2 ⟨_, 0, none⟩ 1 1 [.int .i64 xa, .int .i64 xb] rfl rfl (two_cells _ xa xb) (two_one _ _) ?a3 ?a4 ?a5 ?_)
      case a3 => unfold maxLen; omega
      case a4 => omega
      case a5 => have := hb.size; simp; omega
      intro g2 c2 w2 hown2 hgrow2 hwh
      have hO := OwnM.push (x := (xa, xb)) hown2 hown.1 rfl
      have hbb : Below w.heap.size w w2 := (hb.alloc hb.size _).grown hgrow2 (by have := hb.size; simp; omega) (fun q hq => by cases hq; exact hob.1)
      generalize sortedM (ms.take k) = out at *
      clear hown2 hgrow2 hwh hown hb c0 c1 hob hlb
      go_wp2
      go_loopw [5] (fun q wq => ∃ (j : Nat) (A B : List (Int × Int)), q = .int .i64 j ∧ A.length = j ∧ j ≤ k ∧ OwnM wq w.heap.size g2 c2 (k + 1) (A ++ (xa, xb) :: B) ∧ (insR (xa, xb) A.reverse).reverse ++ B = insM out (xa, xb) ∧ Below w.heap.size w wq) (fun q _ => (intOf q).toNat)
      case atStart => exact ⟨k, out, [], by go_num, hl9, Nat.le_refl _, hO, by simp [insM], hbb⟩
      case round =>
        clear hO hbb hl9
        obtain ⟨j, A, B, rfl, hA, hjk, hown, hins, hb⟩ := hrel
        have hrow := hown.row.2
        have hob := owns_block hown.2
        have hln : A.length + (B.length + 1) = k + 1 := by have h9 := hown.1; simpa using h9
        obtain ⟨d0, d1⟩ := hrow.at j (by simp; omega)
        have hxe : (A ++ (xa, xb) :: B)[j]'(by simp; omega) = (xa, xb) := by simp [← hA]
        rw [hxe] at d0 d1
        simp only at d0 d1
        have hfin : OwnM wr w.heap.size g2 c2 (k + 1) (A ++ (xa, xb) :: B) := hown
        by_cases hj0 : 0 < j
        · obtain ⟨A', y, rfl⟩ : ∃ A' y, A = A' ++ [y] := by
            rcases List.eq_nil_or_concat A with rfl | ⟨A', y, rfl⟩
            · simp at hA; omega
            · exact ⟨A', y, by simp⟩
          obtain ⟨ya, yb⟩ := y
          have hA' : A'.length = j - 1 := by simp at hA; omega
          obtain ⟨e0, e1⟩ := hrow.at (j - 1) (by simp; omega)
          have hye : ((A' ++ [(ya, yb)]) ++ (xa, xb) :: B)[j - 1]'(by simp; omega) = (ya, yb) := by
            simp [← hA']
          rw [hye] at e0 e1
          simp only at e0 e1
          by_cases hxy : xa < ya
          · have hst := insM_step A' (ya, yb) (xa, xb) B hxy
            rw [hins] at hst
            have tlt : decide (xa < ya) = true := decide_eq_true hxy
            clear hins hrow hfin hxe hye
            go_wp2_with fail
            go_quiet (fail)
            have hdr := below_drewN wr nq
            have d0' := (hdr.cell (p := ⟨g2, j * 2, none⟩) hob.2).trans d0
            have d1' := (hdr.cell (p := ⟨g2, j * 2 + 1, none⟩) hob.2).trans d1
            have e0' := (hdr.cell (p := ⟨g2, (j - 1) * 2, none⟩) hob.2).trans e0
            have e1' := (hdr.cell (p := ⟨g2, (j - 1) * 2 + 1, none⟩) hob.2).trans e1
            have hown' := hown.below hdr
            have hb' := Below.step hb hdr
            have hob' := owns_block hown'.2
            clear hdr d0 d1 e0 e1 hown hb hob
            generalize wr.drewN nq = W2 at *
            have f0 := OwnT.frozen hown'.row.2 (j * 2)
            have f1 := OwnT.frozen hown'.row.2 (j * 2 + 1)
            have f2 := OwnT.frozen hown'.row.2 ((j - 1) * 2)
            have f3 := OwnT.frozen hown'.row.2 ((j - 1) * 2 + 1)
            have HO : Hid (OwnM (((((W2.setCell ⟨g2, j * 2, none⟩ (.int .i64 ya)).setCell ⟨g2, j * 2 + 1, none⟩ (.int .i64 yb)).setCell ⟨g2, (j - 1) * 2, none⟩ (.int .i64 xa)).setCell ⟨g2, (j - 1) * 2 + 1, none⟩ (.int .i64 xb)).alloc (.cells #[.int .i64 xa, .int .i64 xb] 85)) w.heap.size g2 c2 (k + 1) (A' ++ (xa, xb) :: ((ya, yb) :: B))) := by
              have h9 := ((hown'.put j ya yb).put (j - 1) xa xb).alloc (.cells #[.int .i64 xa, .int .i64 xb] 85)
              have e9 : (((A' ++ [(ya, yb)]) ++ (xa, xb) :: B).set j (ya, yb)).set (j - 1) (xa, xb) = A' ++ (xa, xb) :: ((ya, yb) :: B) := by
                have ej : j = A'.length + 1 := by omega
                rw [ej]
                exact swap_list A' B (xa, xb) (ya, yb)
              rw [e9] at h9
              exact h9
            have HB : Hid (Below w.heap.size w (((((W2.setCell ⟨g2, j * 2, none⟩ (.int .i64 ya)).setCell ⟨g2, j * 2 + 1, none⟩ (.int .i64 yb)).setCell ⟨g2, (j - 1) * 2, none⟩ (.int .i64 xa)).setCell ⟨g2, (j - 1) * 2 + 1, none⟩ (.int .i64 xb)).alloc (.cells #[.int .i64 xa, .int .i64 xb] 85))) := by
              have b4 : But (· = g2) W2 ((((W2.setCell ⟨g2, j * 2, none⟩ (.int .i64 ya)).setCell ⟨g2, j * 2 + 1, none⟩ (.int .i64 yb)).setCell ⟨g2, (j - 1) * 2, none⟩ (.int .i64 xa)).setCell ⟨g2, (j - 1) * 2 + 1, none⟩ (.int .i64 xb)) := ((((But.refl (· = g2) W2).setCell (p := ⟨g2, j * 2, none⟩) rfl _).setCell (p := ⟨g2, j * 2 + 1, none⟩) rfl _).setCell (p := ⟨g2, (j - 1) * 2, none⟩) rfl _).setCell (p := ⟨g2, (j - 1) * 2 + 1, none⟩) rfl _
              have h9 := hb'.trans (b4.below hb'.size (fun q hq => by omega))
              exact h9.alloc h9.size _
            have HI : Hid ((insR (xa, xb) A'.reverse).reverse ++ ((ya, yb) :: B) = insM out (xa, xb)) := hst.symm
            clear hst
            go_wp2
            go_roundw
            case rel => exact ⟨j - 1, A', (ya, yb) :: B, by go_num, hA', by omega, HO.out, HI.out, HB.out⟩
            case measure => simp [intOf]; omega
          · have tlt : decide (xa < ya) = false := decide_eq_false hxy
            have HE : Hid (A' ++ [(ya, yb)] ++ (xa, xb) :: B = insM out (xa, xb)) := by
              show A' ++ [(ya, yb)] ++ (xa, xb) :: B = _
              rw [← hins, insM_stop (A' ++ [(ya, yb)]) (xa, xb) (by intro y hy; simp at hy; subst hy; exact hxy)]
              simp
            clear hins hrow hxe hye hown
            go_wp2_with fail
            go_quiet (fail)
            have hdr := below_drewN wr nq
            have hfin' := hfin.below hdr
            have hb' := Below.step hb hdr
            rw [HE.out, ← HS.out] at hfin'
            clear hdr d0 d1 e0 e1 hfin hb
            generalize wr.drewN nq = W2 at *
            go_wp2
            go_roundw
            case rel => exact ⟨k + 1, g2, c2, by omega, by go_num, rfl, hfin', hb'⟩
            case measure => simp [intOf]; omega
        · have hA0 : A = [] := List.eq_nil_of_length_eq_zero (by omega)
          subst hA0
          have HE : Hid ([] ++ (xa, xb) :: B = insM out (xa, xb)) := by
            show [] ++ (xa, xb) :: B = _
            rw [← hins]
            rfl
          have tj : decide ((j : Int) > 0) = false := decide_eq_false (by omega)
          clear hins hrow hxe hown
          go_wp2_with fail
          go_quiet (fail)
          have hdr := below_drewN wr nq
          have hfin' := hfin.below hdr
          have hb' := Below.step hb hdr
          rw [HE.out, ← HS.out] at hfin'
          clear hdr d0 d1 hfin hb
          generalize wr.drewN nq = W2 at *
          go_wp2
          go_roundw
          case rel => exact ⟨k + 1, g2, c2, by omega, by go_num, rfl, hfin', hb'⟩
          case measure => simp [intOf]; omega
    · have hke : k = n := by omega
      subst hke
      rw [List.take_of_length_le (by have := HM.out; omega)] at hown
      obtain ⟨hg, hrw⟩ := hown.row
      clear hr hown
      go_wp2
      go_ret
      exact ⟨_, _, rfl, hg, hrw, hb⟩

theorem Longs.row {w : World} {B g c l : Nat} {xs : List Int} (h : Longs w B g c l xs) : B ≤ g ∧ LRow w g xs := by
  obtain ⟨hl, ho⟩ := h
  rcases ho.2 with ⟨h', _⟩ | ⟨g2, cap2, cur, he, hb, hh, _, _, _, htake⟩
  · cases h'
  · simp only [Value.slice.injEq, Option.some.injEq, Addr.mk.injEq, and_true, true_and] at he
    obtain ⟨rfl, rfl⟩ := he
    exact ⟨hb, cur, cur.toList.drop (l * 1), hh, by rw [← htake, List.take_append_drop]⟩



/-- Cells two by two. -/
def cells2 (ps : List (Value × Value)) : List Value := ps.flatMap fun p => [p.1, p.2]

theorem cells2_length (ps : List (Value × Value)) : (cells2 ps).length = ps.length * 2 := by
  induction ps with
  | nil => rfl
  | cons m ms ih => simp only [cells2, List.flatMap_cons, List.length_append, List.length_cons, List.length_nil] at *; omega

theorem cells2_append (a b : List (Value × Value)) : cells2 (a ++ b) = cells2 a ++ cells2 b := by simp [cells2]

theorem cells2_get (ps : List (Value × Value)) (i : Nat) (h : i < ps.length) : (cells2 ps)[i * 2]? = some ps[i].1 ∧ (cells2 ps)[i * 2 + 1]? = some ps[i].2 := by
  induction ps generalizing i with
  | nil => simp at h
  | cons m ms ih =>
    cases i with
    | zero => simp [cells2]
    | succ i =>
      have e1 : (i + 1) * 2 = i * 2 + 1 + 1 := by omega
      have h9 := ih i (by simpa using h)
      rw [e1]
      simpa [cells2] using h9

theorem cells2_set (ps : List (Value × Value)) (j : Nat) (p : Value × Value) : ((cells2 ps).set (j * 2) p.1).set (j * 2 + 1) p.2 = cells2 (ps.set j p) := by
  induction ps generalizing j with
  | nil => simp [cells2]
  | cons m ms ih =>
    cases j with
    | zero => simp [cells2]
    | succ j =>
      have e1 : (j + 1) * 2 = j * 2 + 1 + 1 := by omega
      have h9 := ih j
      rw [e1]
      simp only [cells2, List.flatMap_cons, List.cons_append, List.nil_append, List.set_cons_succ] at h9 ⊢
      rw [h9]

/-- A slice of Binds. -/
def Binds (w : World) (ao : Option Addr) (bs : List (Int × List Nd)) : Prop :=
  ∀ i (h : i < bs.length), ∃ b o ai ci, ao = some ⟨b, o, none⟩ ∧ w.cell? ⟨b, o + i * 2, none⟩ = some (.int .i64 bs[i].1) ∧ w.cell? ⟨b, o + i * 2 + 1, none⟩ = some (.slice ai bs[i].2.length ci) ∧ Nodes w ai bs[i].2

theorem Binds.below {w w' : World} {ao : Option Addr} {bs : List (Int × List Nd)} (h : Binds w ao bs) (hb : Below w.heap.size w w') : Binds w' ao bs := by
  intro i hi
  obtain ⟨b, o, ai, ci, e, h0, hc, hn⟩ := h i hi
  exact ⟨b, o, ai, ci, e, (hb.cell (p := ⟨b, o + i * 2, none⟩) (lt_of_cell h0)).trans h0, (hb.cell (p := ⟨b, o + i * 2 + 1, none⟩) (lt_of_cell hc)).trans hc, hn.below hb⟩

/-- The types of Binds. -/
def tys (bs : List (Int × List Nd)) : List (List Nd) := bs.map Prod.snd

theorem tys_get (bs : List (Int × List Nd)) (k : Nat) (h : k < bs.length) : (tys bs)[k]'(by simpa [tys] using h) = bs[k].2 := by simp [tys]

theorem Tryz.infoB : (Tryz.prog.info? 91).map (fun i => (i.zero, i.size, i.bytes)) = some (some (.agg #[.int .i64 0, .slice none 0 0]), 2, 32) := by kernel_rfl

/-- The Binds that lead to the rows gs. -/
def leadP (gs : List Nat) (bs : List (Int × List Nd)) : List (Value × Value) := List.zipWith (fun h b => (.int .i64 b.1, .slice (some ⟨h, 0, none⟩) b.2.length b.2.length)) gs bs

/-- Block g is a row of Binds of the call's own. -/
def OwnB (w : World) (g : Nat) (ps : List (Value × Value)) : Prop := OwnT 91 w g (cells2 ps)

theorem OwnB.ne {w : World} {g h : Nat} {ps : List (Value × Value)} {ds : List Value} (a : OwnB w g ps) (b : Own w h ds) : h ≠ g := by
  rintro rfl
  obtain ⟨cur, _, hg, _⟩ := a
  obtain ⟨cur', _, hg', _⟩ := b
  rw [hg] at hg'
  simp at hg'

theorem OwnB.at {w : World} {g : Nat} {ps : List (Value × Value)} (h : OwnB w g ps) (i : Nat) (hi : i < ps.length) : w.cell? ⟨g, i * 2, none⟩ = some ps[i].1 ∧ w.cell? ⟨g, i * 2 + 1, none⟩ = some ps[i].2 := by
  have hl := cells2_length ps
  obtain ⟨h1, h2⟩ := cells2_get ps i hi
  exact ⟨(OwnT.at h _ (by omega)).trans h1, (OwnT.at h _ (by omega)).trans h2⟩

theorem OwnB.put {w : World} {g : Nat} {ps : List (Value × Value)} (h : OwnB w g ps) (j : Nat) (hj : j < ps.length) (a b : Value) : OwnB ((w.setCell ⟨g, j * 2, none⟩ a).setCell ⟨g, j * 2 + 1, none⟩ b) g (ps.set j (a, b)) := by
  have hl := cells2_length ps
  have h9 := OwnT.set (OwnT.set h (j * 2) a (by omega)) (j * 2 + 1) b (by simp; omega)
  rw [cells2_set ps j (a, b)] at h9
  exact h9

/-- All of it: the row g of Binds, the rows gs of nodes, no two of them one. -/
structure TwoB (w : World) (g : Nat) (gs : List Nat) (bs : List (Int × List Nd)) : Prop where
  lead : OwnB w g (leadP gs bs)
  rows : RowsAt w gs (tys bs)
  nodup : gs.Nodup

theorem TwoB.below {w w' : World} {g : Nat} {gs : List Nat} {bs : List (Int × List Nd)} (h : TwoB w g gs bs) (hb : Below w.heap.size w w') : TwoB w' g gs bs :=
  ⟨OwnT.below h.lead hb, h.rows.below hb, h.nodup⟩

theorem TwoB.get {w : World} {g : Nat} {gs : List Nat} {bs : List (Int × List Nd)} (h : TwoB w g gs bs) (i : Nat) (hi : i < bs.length) (hi' : i < gs.length) :
    w.cell? ⟨g, i * 2, none⟩ = some (.int .i64 bs[i].1) ∧ w.cell? ⟨g, i * 2 + 1, none⟩ = some (.slice (some ⟨gs[i], 0, none⟩) bs[i].2.length bs[i].2.length) ∧ Row w gs[i] bs[i].2 := by
  obtain ⟨h1, h2⟩ := h.lead.at i (by simp [leadP]; omega)
  have hr := h.rows.2 i hi' (by simpa [tys] using hi)
  rw [tys_get bs i hi] at hr
  refine ⟨?_, ?_, hr⟩
  · rw [h1]; simp [leadP]
  · rw [h2]; simp [leadP]

theorem TwoB.binds {w : World} {g : Nat} {gs : List Nat} {bs : List (Int × List Nd)} (h : TwoB w g gs bs) : Binds w (some ⟨g, 0, none⟩) bs := by
  intro i hi
  have hi' : i < gs.length := by have h9 := h.rows.1; simp [tys] at h9; omega
  obtain ⟨h0, hc, hr⟩ := h.get i hi hi'
  exact ⟨g, 0, _, _, rfl, by rw [Nat.zero_add]; exact h0, by rw [Nat.zero_add]; exact hc, hr.nodes⟩

end Go.Proofs.YtahdmflbdmlfhaaGreatDoor
