
import Derived.Test.YtkmlfpfgiblcdabProg
import Derived.Test.YtkmlfpfgiblcdabYAC
import Derived.Test.YtkmlfpfgiblcdabYAB
import Derived.BigQuiet
namespace Go.Proofs.Ytkmlfpfgiblcdab
open Go.RowKit

/-- Block g is a row of elements of type T, of the call's own, that begins with these cells. -/
def OwnT (T : Nat) (w : World) (g : Nat) (cs : List Value) : Prop := ∃ cur rest, w.heap[g]? = some (.cells cur T (0, 0)) ∧ cur.toList = cs ++ rest

theorem OwnT.lt {T : Nat} {w : World} {g : Nat} {cs : List Value} (h : OwnT T w g cs) : g < w.heap.size := by
  obtain ⟨cur, rest, hg, _⟩ := h
  exact (Array.getElem?_eq_some_iff.1 hg).1

theorem OwnT.set {T : Nat} {w : World} {g : Nat} {cs : List Value} (h : OwnT T w g cs) (j : Nat) (v : Value) (hj : j < cs.length) : OwnT T (w.setCell ⟨g, j, none⟩ v) g (cs.set j v) := by
  obtain ⟨cur, rest, hg, hc⟩ := h
  exact ⟨_, rest, heap_setCell_same _ g _ _ T _ hg, by rw [Array.toList_setIfInBounds, hc, List.set_append_left _ _ hj]⟩

theorem OwnT.at {T : Nat} {w : World} {g : Nat} {cs : List Value} (h : OwnT T w g cs) (j : Nat) (hj : j < cs.length) : w.cell? ⟨g, j, none⟩ = cs[j]? := by
  obtain ⟨cur, rest, hg, hc⟩ := h
  rw [cell_of_row w g _ cur T (0, 0) hg, ← Array.getElem?_toList, hc, List.getElem?_append_left hj]

theorem OwnT.frozen {T : Nat} {w : World} {g : Nat} {cs : List Value} (h : OwnT T w g cs) (j : Nat) : w.frozen? ⟨g, j, none⟩ = false := by
  obtain ⟨cur, _, hg, _⟩ := h
  exact frozen_of_row w g j cur T hg

theorem OwnT.but {S : Nat → Prop} {T : Nat} {w w' : World} {g : Nat} {cs : List Value} (h : OwnT T w g cs) (hb : But S w w') (hn : ¬ S g) : OwnT T w' g cs := by
  have hlt := h.lt
  obtain ⟨cur, rest, hg, hc⟩ := h
  exact ⟨cur, rest, (hb.block g hlt hn).trans hg, hc⟩

theorem OwnT.below {T : Nat} {w w' : World} {g : Nat} {cs : List Value} (h : OwnT T w g cs) (hb : Below w.heap.size w w') : OwnT T w' g cs := by
  have hlt := h.lt
  obtain ⟨cur, rest, hg, hc⟩ := h
  exact ⟨cur, rest, (hb.block g hlt).trans hg, hc⟩

/-- Block g is a row of int64s. -/
def LRow (w : World) (g : Nat) (xs : List Int) : Prop := OwnT 2 w g (ints xs)

theorem LRow.at {w : World} {g : Nat} {xs : List Int} (h : LRow w g xs) (j : Nat) (hj : j < xs.length) : w.cell? ⟨g, j, none⟩ = some (.int .i64 xs[j]) := by
  rw [OwnT.at h j (by simp [ints]; exact hj)]
  simp [ints, List.getElem?_eq_getElem hj]

theorem LRow.put {w : World} {g : Nat} {xs : List Int} (h : LRow w g xs) (j : Nat) (hj : j < xs.length) (v : Int) : LRow (w.setCell ⟨g, j, none⟩ (.int .i64 v)) g (xs.set j v) := by
  have h9 := OwnT.set h j (.int .i64 v) (by simp [ints]; exact hj)
  have e : (ints xs).set j (.int .i64 v) = ints (xs.set j v) := by simp [ints]
  rw [e] at h9
  exact h9

theorem LRow.below {w w' : World} {g : Nat} {xs : List Int} (h : LRow w g xs) (hb : Below w.heap.size w w') : LRow w' g xs := OwnT.below h hb

theorem LRow.but {S : Nat → Prop} {w w' : World} {g : Nat} {xs : List Int} (h : LRow w g xs) (hb : But S w w') (hn : ¬ S g) : LRow w' g xs := OwnT.but h hb hn

theorem LRow.frozen {w : World} {g : Nat} {xs : List Int} (h : LRow w g xs) (j : Nat) : w.frozen? ⟨g, j, none⟩ = false := OwnT.frozen h j

theorem LRow.lt {w : World} {g : Nat} {xs : List Int} (h : LRow w g xs) : g < w.heap.size := OwnT.lt h

/-- A slice of int64s to be read. -/
def LCells (w : World) (ao : Option Addr) (xs : List Int) : Prop := ∀ i (h : i < xs.length), ∃ b o, ao = some ⟨b, o, none⟩ ∧ w.cell? ⟨b, o + i, none⟩ = some (.int .i64 xs[i])

theorem LCells.below {w w' : World} {ao : Option Addr} {xs : List Int} (h : LCells w ao xs) (hb : Below w.heap.size w w') : LCells w' ao xs := by
  intro i hi
  obtain ⟨b, o, e, hc⟩ := h i hi
  exact ⟨b, o, e, (hb.cell (p := ⟨b, o + i, none⟩) (lt_of_cell hc)).trans hc⟩

theorem LRow.cells {w : World} {g : Nat} {xs : List Int} (h : LRow w g xs) : LCells w (some ⟨g, 0, none⟩) xs := fun i hi => ⟨g, 0, rfl, by rw [Nat.zero_add]; exact h.at i hi⟩

set_option maxHeartbeats 1000000 in
theorem eqInt64S_same (xs : List Int) (n : Nat) (HX : Hid (xs.length = n)) (ao bo : Option Addr) (cap cbp : Nat) (w : World) (hx : LCells w ao xs) (hy : LCells w bo xs) (hlx : n ≤ 140737488355328) :
    Calls Try.prog 20 #[.slice ao n cap, .slice bo n cbp] w fun e w' => e = .returned (.bool true) ∧ Below w.heap.size w w' := by
  go_enter Try.func20, Try.ntmps20
  go_wp2
  go_loopw [5] (fun i wr => ∃ (k : Nat), k ≤ n ∧ i = .int .i64 k ∧ Below w.heap.size w wr) (fun i _ => n - (intOf i).toNat)
  case atStart => exact ⟨0, Nat.zero_le _, rfl, Below.refl _ _⟩
  case round =>
    obtain ⟨k, hk, rfl, hb⟩ := hrel
    by_cases hlt : k < n
    · have hltx : k < xs.length := by have := HX.out; omega
      obtain ⟨b, o, rfl, c0⟩ := hx.below hb k hltx
      obtain ⟨b', o', rfl, e0⟩ := hy.below hb k hltx
      obtain ⟨v, hv⟩ : ∃ v, xs[k] = v := ⟨_, rfl⟩
      rw [hv] at c0 e0
      have tv : (v != v) = false := by simp
      clear hx hy hv
      go_wp2_with fail
      go_quiet (fail)
      go_wp2
      go_roundw
      case rel => exact ⟨k + 1, by omega, by go_num, Below.step hb ⟨rfl, rfl, rfl, Nat.le_refl _, fun _ _ => rfl⟩⟩
      case measure => simp [intOf]; omega
    · clear hx hy
      go_wp2
      go_ret
      exact ⟨rfl, hb⟩

/-- The marks that are laid, from k on. -/
def lmarks (k n : Nat) : List Int := (List.range n).map fun j => ((k + j : Nat) : Int)

theorem lmarks_length (k n : Nat) : (lmarks k n).length = n := by simp [lmarks]

theorem lmarks_get (k n j : Nat) (h : j < (lmarks k n).length) : (lmarks k n)[j] = ((k + j : Nat) : Int) := by simp [lmarks]

theorem lmarks_step (xs : List Int) (k j : Nat) (h : j < xs.length) : (lmarks k j ++ xs.drop j).set j ((k + j : Nat) : Int) = lmarks k (j + 1) ++ xs.drop (j + 1) := by
  have e : lmarks k (j + 1) = lmarks k j ++ [((k + j : Nat) : Int)] := by simp [lmarks, List.range_succ]
  have e2 : xs.drop j = xs[j] :: xs.drop (j + 1) := List.drop_eq_getElem_cons h
  rw [e, e2, List.set_append_right _ _ (by rw [lmarks_length]; exact Nat.le_refl _), lmarks_length, Nat.sub_self, List.set_cons_zero, List.append_assoc]
  rfl

set_option maxHeartbeats 1000000 in
theorem markInt64S_any (xs : List Int) (n g cap k : Nat) (w : World) (HX : Hid (xs.length = n)) (hr : LRow w g xs) (hn : n ≤ 1048577) (hk : k ≤ 100000000) :
    Calls Try.prog 21 #[.slice (some ⟨g, 0, none⟩) n cap, .int .i64 k] w fun e w' =>
      e = .returned (.int .i64 (k + n : Nat)) ∧ LRow w' g (lmarks k n) ∧ But (· = g) w w' := by
  go_enter Try.func21, Try.ntmps21
  go_wp2
  go_loopw [1, 5] (fun a i wr => ∃ (j : Nat), j ≤ n ∧ i = .int .i64 j ∧ a = .int .i64 (k + j : Nat) ∧ LRow wr g (lmarks k j ++ xs.drop j) ∧ But (· = g) w wr) (fun _ i _ => n - (intOf i).toNat)
  case atStart => exact ⟨0, Nat.zero_le _, rfl, rfl, by simpa [lmarks] using hr, But.refl _ _⟩
  case round =>
    obtain ⟨j, hj, rfl, rfl, hrow, hb⟩ := hrel
    have hlb := hrow.lt
    by_cases hlt : j < n
    · have hltx : j < xs.length := by have := HX.out; omega
      have hlr : j < (lmarks k j ++ xs.drop j).length := by simp [lmarks_length]; omega
      obtain ⟨v, hc⟩ : ∃ v, wr.cell? ⟨g, j, none⟩ = some v := ⟨_, hrow.at j hlr⟩
      have hfz := hrow.frozen j
      have hput := hrow.put j hlr ((k + j : Nat) : Int)
      rw [lmarks_step xs k j hltx] at hput
      have hb2 : But (· = g) w (wr.setCell ⟨g, j, none⟩ (.int .i64 ((k + j : Nat) : Int))) := hb.setCell (p := ⟨g, j, none⟩) rfl _
      obtain ⟨q, hq⟩ : ∃ q : Nat, k + j = q := ⟨_, rfl⟩
      have HQ : Hid (k + j = q) := hq
      have hq1 : q ≤ 200000000 := by omega
      rw [hq] at hput hb2 ⊢
      have HP : Hid (LRow (wr.setCell ⟨g, j, none⟩ (.int .i64 (q : Int))) g (lmarks k (j + 1) ++ xs.drop (j + 1))) := hput
      have HB : Hid (But (· = g) w (wr.setCell ⟨g, j, none⟩ (.int .i64 (q : Int)))) := hb2
      clear hrow hb hr hput hb2 hq hlr
      go_wp2
      go_roundw
      case rel => exact ⟨j + 1, by omega, by go_num, by have := HQ.out; congr 1; omega, HP.out, HB.out⟩
      case measure => simp [intOf]; omega
    · have hje : j = n := by omega
      subst hje
      have hfin : LRow wr g (lmarks k j) := by
        have e : xs.drop j = [] := List.drop_eq_nil_of_le (by have := HX.out; omega)
        rw [e, List.append_nil] at hrow
        exact hrow
      clear hrow hr
      go_wp2
      go_ret
      exact ⟨rfl, hfin, hb⟩

set_option maxHeartbeats 1000000 in
theorem heldInt64S_any (n g cap k : Nat) (w : World) (hr : LRow w g (lmarks k n)) (hn : n ≤ 1048577) (hk : k ≤ 100000000) :
    Calls Try.prog 22 #[.slice (some ⟨g, 0, none⟩) n cap, .int .i64 k] w fun e w' =>
      e = .returned (.int .i64 (k + n : Nat)) ∧ Below w.heap.size w w' := by
  go_enter Try.func22, Try.ntmps22
  go_wp2
  go_loopw [1, 5] (fun a i wr => ∃ (j : Nat), j ≤ n ∧ i = .int .i64 j ∧ a = .int .i64 (k + j : Nat) ∧ Below w.heap.size w wr) (fun _ i _ => n - (intOf i).toNat)
  case atStart => exact ⟨0, Nat.zero_le _, rfl, rfl, Below.refl _ _⟩
  case round =>
    obtain ⟨j, hj, rfl, rfl, hb⟩ := hrel
    by_cases hlt : j < n
    · have hrow := hr.below hb
      have hl : j < (lmarks k n).length := by rw [lmarks_length]; exact hlt
      have hc := hrow.at j hl
      rw [lmarks_get] at hc
      have hlb := hrow.lt
      obtain ⟨q, hq⟩ : ∃ q : Nat, k + j = q := ⟨_, rfl⟩
      have HQ : Hid (k + j = q) := hq
      have hq1 : q ≤ 200000000 := by omega
      rw [hq] at hc ⊢
      have tq : ((q : Int) != (q : Int)) = false := by simp
      clear hl hq hr hrow
      go_wp2
      go_roundw
      case rel => exact ⟨j + 1, by omega, by go_num, by have := HQ.out; congr 1; omega, hb⟩
      case measure => simp [intOf]; omega
    · have hje : j = n := by omega
      subst hje
      clear hr
      go_wp2
      go_ret
      exact ⟨rfl, hb⟩

/-- An answer: a slice of int64s that is empty, or a row of the call's own, from block B on. -/
def LAns (w : World) (B : Nat) (ao : Option Addr) (zs : List Int) : Prop := zs = [] ∨ ∃ g, ao = some ⟨g, 0, none⟩ ∧ B ≤ g ∧ LRow w g zs

theorem LAns.cells {w : World} {B : Nat} {ao : Option Addr} {zs : List Int} (h : LAns w B ao zs) : LCells w ao zs := by
  rcases h with rfl | ⟨g, rfl, _, hr⟩
  · exact fun i hi => by simp at hi
  · exact hr.cells

theorem LAns.below {w w' : World} {B : Nat} {ao : Option Addr} {zs : List Int} (h : LAns w B ao zs) (hb : Below w.heap.size w w') : LAns w' B ao zs := by
  rcases h with rfl | ⟨g, rfl, hB, hr⟩
  · exact Or.inl rfl
  · exact Or.inr ⟨g, rfl, hB, hr.below hb⟩

theorem LAns.but {S : Nat → Prop} {w w' : World} {B : Nat} {ao : Option Addr} {zs : List Int} (h : LAns w B ao zs) (hb : But S w w') (hS : ∀ g, ao = some ⟨g, 0, none⟩ → B ≤ g → LRow w g zs → ¬ S g) : LAns w' B ao zs := by
  rcases h with rfl | ⟨g, rfl, hB, hr⟩
  · exact Or.inl rfl
  · exact Or.inr ⟨g, rfl, hB, hr.but hb (hS g rfl hB hr)⟩

set_option maxHeartbeats 1000000 in
theorem markInt64S_none (ao : Option Addr) (cap k : Nat) (w : World) :
    Calls Try.prog 21 #[.slice ao 0 cap, .int .i64 k] w fun e w' => e = .returned (.int .i64 (k : Nat)) ∧ w' = w := by
  go_enter Try.func21, Try.ntmps21
  go_wp2
  go_loopw [1, 5] (fun a i wr => a = .int .i64 k ∧ i = .int .i64 0 ∧ wr = w) (fun _ _ _ => 0)
  case atStart => exact ⟨rfl, rfl, rfl⟩
  case round =>
    obtain ⟨rfl, rfl, rfl⟩ := hrel
    go_wp2
    go_ret
    exact ⟨rfl, rfl⟩

set_option maxHeartbeats 1000000 in
theorem heldInt64S_none (ao : Option Addr) (cap k : Nat) (w : World) :
    Calls Try.prog 22 #[.slice ao 0 cap, .int .i64 k] w fun e w' => e = .returned (.int .i64 (k : Nat)) ∧ w' = w := by
  go_enter Try.func22, Try.ntmps22
  go_wp2
  go_loopw [1, 5] (fun a i wr => a = .int .i64 k ∧ i = .int .i64 0 ∧ wr = w) (fun _ _ _ => 0)
  case atStart => exact ⟨rfl, rfl, rfl⟩
  case round =>
    obtain ⟨rfl, rfl, rfl⟩ := hrel
    go_wp2
    go_ret
    exact ⟨rfl, rfl⟩

theorem markInt64S_ans (zs : List Int) (n B : Nat) (ao : Option Addr) (cap k : Nat) (w : World) (HN : Hid (zs.length = n)) (ha : LAns w B ao zs) (hn : n ≤ 1048577) (hk : k ≤ 100000000) :
    Calls Try.prog 21 #[.slice ao n cap, .int .i64 k] w fun e w' =>
      e = .returned (.int .i64 (k + n : Nat)) ∧ LAns w' B ao (lmarks k n) ∧ But (fun q => ao = some ⟨q, 0, none⟩ ∧ B ≤ q) w w' := by
  rcases ha with rfl | ⟨g, rfl, hB, hr⟩
  · have h0 : n = 0 := HN.out.symm
    subst h0
    exact (markInt64S_none ao cap k w).mono (by rintro e w' ⟨rfl, rfl⟩; exact ⟨rfl, Or.inl rfl, But.refl _ _⟩)
  · refine (markInt64S_any zs n g cap k w HN hr hn hk).mono ?_
    rintro e w' ⟨rfl, hr', hb⟩
    exact ⟨rfl, Or.inr ⟨g, rfl, hB, hr'⟩, hb.mono (fun q hq => by subst hq; exact ⟨rfl, hB⟩)⟩

theorem heldInt64S_ans (n B : Nat) (ao : Option Addr) (cap k : Nat) (w : World) (ha : LAns w B ao (lmarks k n)) (hn : n ≤ 1048577) (hk : k ≤ 100000000) :
    Calls Try.prog 22 #[.slice ao n cap, .int .i64 k] w fun e w' => e = .returned (.int .i64 (k + n : Nat)) ∧ Below w.heap.size w w' := by
  rcases ha with h | ⟨g, rfl, hB, hr⟩
  · have h0 : n = 0 := by have := lmarks_length k n; rw [h] at this; exact this.symm
    subst h0
    exact (heldInt64S_none ao cap k w).mono (by rintro e w' ⟨rfl, rfl⟩; exact ⟨rfl, Below.refl _ _⟩)
  · exact heldInt64S_any n g cap k w hr hn hk

end Go.Proofs.Ytkmlfpfgiblcdab
