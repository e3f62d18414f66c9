
import Derived.Test.YtngomcicdcgldabSPlain
import Derived.Test.YtngomcicdcgldabCopy
import Derived.BigQuiet
namespace Go.Proofs.Ytngomcicdcgldab
open Go.RowKit

/-- A type of chapter 8. -/
def typeb (t : List Nd) : Bool := decide (t.length ≤ 300) && decide (0 < deepOf t) && t.all Nd.plainb

set_option maxHeartbeats 1000000 in
theorem isType_any (t : List Nd) (m : Nat) (HM : Hid (t.length = m)) (hm : m ≤ 1048576) (ao : Option Addr) (cap : Nat) (w : World) (hx : Nodes w ao t) :
    Calls Try.prog 19 #[.slice ao m cap] w fun e w' => e = .returned (.bool (typeb t)) ∧ Below w.heap.size w w' := by
  by_cases h3 : m ≤ 300
  · have t3 : decide ((m : Int) ≤ 300) = true := decide_eq_true (by omega)
    have HV : Hid (typeb t = (decide (0 < deepOf t) && t.all Nd.plainb)) := by
      have h9 : decide (t.length ≤ 300) = true := decide_eq_true (by have := HM.out; omega)
      simp only [typeb, h9, Bool.true_and, Hid]
    go_enter Try.func19, Try.ntmps19
    go_wp2_with fail
    refine (specGood_any t m HM hm ao cap w hx).mono ?_
    rintro e w1 ⟨rfl, hb1⟩
    cases hg : decide (0 < deepOf t)
    · rw [hg] at HV
      have HW : Hid (typeb t = false) := HV.out
      clear HV hx
      go_wp2
      go_ret
      exact ⟨by rw [HW.out]; rfl, hb1⟩
    · rw [hg] at HV
      have hx1 := hx.below hb1
      go_wp2_with fail
      refine (isPlain_any t m HM hm ao cap w1 hx1).mono ?_
      rintro e w2 ⟨rfl, hb2⟩
      have hb := Below.step hb1 hb2
      have HW : Hid (typeb t = t.all Nd.plainb) := HV.out
      clear HV hx hx1 hb1 hb2
      go_wp2
      go_ret
      exact ⟨by rw [HW.out]; rfl, hb⟩
  · have t3 : decide ((m : Int) ≤ 300) = false := decide_eq_false (by omega)
    have HV : Hid (typeb t = false) := by
      have h9 : decide (t.length ≤ 300) = false := decide_eq_false (by have := HM.out; omega)
      simp only [typeb, h9, Bool.false_and, Hid]
    clear hx
    go_enter Try.func19, Try.ntmps19
    go_wp2
    go_ret
    exact ⟨by rw [HV.out]; rfl, Below.refl _ _⟩

/-- A slice of int64s of the call's own. -/
def Longs (w : World) (B g cap : Nat) (n : Nat) (xs : List Int) : Prop := xs.length = n ∧ w.ownsRow B 2 1 (.slice (some ⟨g, 0, none⟩) n cap) n (ints xs)

theorem Try.infoL : (Try.prog.info? 2).map (fun i => (i.zero, i.size, i.bytes)) = some (some (.int .i64 0), 1, 8) := by kernel_rfl

theorem Longs.at {w : World} {B g cap n : Nat} {xs : List Int} (h : Longs w B g cap n xs) (j : Nat) (hj : j < xs.length) : w.cell? ⟨g, j, none⟩ = some (.int .i64 xs[j]) := by
  rw [owns_at h.2 j (by have := h.1; omega)]
  simp [ints, List.getElem?_eq_getElem hj]

theorem Longs.alloc {w : World} {B g cap n : Nat} {xs : List Int} (h : Longs w B g cap n xs) (o : Obj) : Longs (w.alloc o) B g cap n xs := ⟨h.1, h.2.alloc o⟩

theorem Longs.but {S : Nat → Prop} {w w' : World} {B g cap n : Nat} {xs : List Int} (h : Longs w B g cap n xs) (hb : But S w w') (hn : ¬ S g) : Longs w' B g cap n xs := ⟨h.1, owns_but h.2 hb hn⟩

theorem Longs.below {w w' : World} {B g cap n : Nat} {xs : List Int} (h : Longs w B g cap n xs) (hb : Below w.heap.size w w') : Longs w' B g cap n xs := h.but (S := fun _ => False) (But.ofBelow hb) (fun h => h)

theorem Longs.kept {w w' : World} {B g cap n k : Nat} {xs : List Int} (h : Longs w B g cap n xs) (hg : w.grownBy w' (some k)) (hne : g ≠ k) : Longs w' B g cap n xs := ⟨h.1, owns_kept h.2 hg hne⟩

theorem Longs.block {w : World} {B g cap n : Nat} {xs : List Int} (h : Longs w B g cap n xs) : B ≤ g ∧ g < w.heap.size := owns_block h.2

theorem Longs.empty {w : World} {B : Nat} (hB : B ≤ w.heap.size) : Longs (w.alloc (.cells #[] 2)) B w.heap.size 0 0 [] :=
  ⟨rfl, rfl, Or.inr ⟨_, 0, #[], rfl, hB, heap_alloc_new _ _, Nat.le_refl _, by simp [maxLen], rfl, rfl⟩⟩

theorem Longs.push {w : World} {B g cap n m : Nat} {xs : List Int} {x : Int} (h : w.ownsRow B 2 1 (.slice (some ⟨g, 0, none⟩) m cap) m (ints xs ++ [.int .i64 x])) (hn : xs.length = n) (hm : m = n + 1) : Longs w B g cap (n + 1) (xs ++ [x]) := by
  subst hm
  refine ⟨by simp [hn], ?_⟩
  simpa [ints] using h

theorem one_cell2 (w : World) (v : Value) : ∀ j u, [v][j]? = some u → (w.alloc (.cells #[v] 2)).cell? (Addr.add ⟨w.heap.size, 0, none⟩ j) = some u := by
  intro j u hj
  match j, hj with
  | 0, hj =>
    simp at hj
    subst hj
    have ad : Addr.add ⟨w.heap.size, 0, none⟩ 0 = ⟨w.heap.size, 0, none⟩ := by unfold Addr.add; simp
    rw [ad, cell_of_row _ w.heap.size 0 _ 2 (0, 0) (heap_alloc_new _ _)]
    rfl

theorem OwnN.but {S : Nat → Prop} {w w' : World} {B g c l : Nat} {zs : List Nd} (h : OwnN w B g c l zs) (hb : But S w w') (hn : ¬ S g) : OwnN w' B g c l zs := ⟨h.1, owns_but h.2 hb hn⟩

theorem OwnN.kept {w w' : World} {B g c l k : Nat} {zs : List Nd} (h : OwnN w B g c l zs) (hg : w.grownBy w' (some k)) (hne : g ≠ k) : OwnN w' B g c l zs := ⟨h.1, owns_kept h.2 hg hne⟩

theorem OwnN.one {w : World} {B : Nat} (hB : B ≤ w.heap.size) (n : Nd) : OwnN (w.alloc (.cells #[.int .i64 n.kind, .int .i64 n.num, .string n.text, .int .i64 n.kids, .int .i64 n.place] 48)) B w.heap.size 1 1 [n] :=
  ⟨rfl, rfl, Or.inr ⟨_, 1, _, rfl, hB, heap_alloc_new _ _, Nat.le_refl _, by simp [maxLen], rfl, by simp [flat, Nd.row]⟩⟩

/-- The place of a number among those met, or how many there are. -/
def placeIn (met : List Int) (x : Int) : Nat := met.findIdx (· == x)

theorem placeIn_found {met : List Int} {x : Int} {j : Nat} (h : j < met.length) (he : met[j] = x) (hall : ∀ i (h : i < met.length), i < j → met[i] ≠ x) : placeIn met x = j := by
  unfold placeIn
  exact (List.findIdx_eq h).2 ⟨by simp [he], fun i hi => by simpa using hall i (by omega) hi⟩

theorem placeIn_none {met : List Int} {x : Int} (hall : ∀ i (h : i < met.length), met[i] ≠ x) : placeIn met x = met.length := by
  unfold placeIn
  refine List.findIdx_eq_length.2 ?_
  intro y hy
  obtain ⟨i, hi, rfl⟩ := List.getElem_of_mem hy
  simpa using hall i hi

/-- One node of Canon: the numbers met, and the node. -/
def canonStep (s : List Int × List Nd) (n : Nd) : List Int × List Nd :=
  if n.kind = 61 then (if placeIn s.1 n.num = s.1.length then s.1 ++ [n.num] else s.1, s.2 ++ [{ n with num := (placeIn s.1 n.num : Int) + 1 }])
  else (s.1, s.2 ++ [n])

def canonTo (t : List Nd) (k : Nat) : List Int × List Nd := (t.take k).foldl canonStep ([], [])

/-- What Canon answers. -/
def canonOf (t : List Nd) : List Nd := if typeb t then (canonTo t t.length).2 else []

theorem canonTo_succ (t : List Nd) (k : Nat) (h : k < t.length) : canonTo t (k + 1) = canonStep (canonTo t k) t[k] := by
  unfold canonTo
  rw [List.take_succ_eq_append_getElem h, List.foldl_append]
  rfl

theorem canonTo_len (t : List Nd) (k : Nat) (h : k ≤ t.length) : (canonTo t k).2.length = k ∧ (canonTo t k).1.length ≤ k := by
  induction k with
  | zero => simp [canonTo]
  | succ k ih =>
    obtain ⟨h1, h2⟩ := ih (by omega)
    rw [canonTo_succ t k (by omega)]
    unfold canonStep
    split
    · refine ⟨by simp [h1], ?_⟩
      simp only
      split
      · simp; omega
      · omega
    · exact ⟨by simp [h1], by simp only; omega⟩

theorem below_drewN (w : World) (n : Nat) : Below w.heap.size w (w.drewN n) := ⟨rfl, rfl, rfl, Nat.le_refl _, fun _ _ => rfl⟩

theorem set_push {w W : World} {g c k gm cm l z : Nat} {out : List Nd} {met : List Int} (ho : OwnN W w.heap.size g c k out) (hm : Longs W w.heap.size gm cm l met) (hb : Below w.heap.size w W) (hz : w.heap.size ≤ z) (hg : g ≠ z) (hgm : gm ≠ z) (v : Int) (tx : ByteArray) (ks pl : Int) :
    OwnN ((W.setCell ⟨z, 1, none⟩ (.int .i64 v)).alloc (.cells #[.int .i64 61, .int .i64 v, .string tx, .int .i64 ks, .int .i64 pl] 48)) w.heap.size g c k out ∧
      Longs ((W.setCell ⟨z, 1, none⟩ (.int .i64 v)).alloc (.cells #[.int .i64 61, .int .i64 v, .string tx, .int .i64 ks, .int .i64 pl] 48)) w.heap.size gm cm l met ∧
      Below w.heap.size w ((W.setCell ⟨z, 1, none⟩ (.int .i64 v)).alloc (.cells #[.int .i64 61, .int .i64 v, .string tx, .int .i64 ks, .int .i64 pl] 48)) ∧
      ∀ j u, (Nd.row ⟨61, v, tx, ks, pl⟩)[j]? = some u → ((W.setCell ⟨z, 1, none⟩ (.int .i64 v)).alloc (.cells #[.int .i64 61, .int .i64 v, .string tx, .int .i64 ks, .int .i64 pl] 48)).cell? (Addr.add ⟨W.heap.size, 0, none⟩ j) = some u := by
  have b3 : But (· = z) W (W.setCell ⟨z, 1, none⟩ (.int .i64 v)) := (But.refl (· = z) W).setCell (p := ⟨z, 1, none⟩) rfl _
  have hs : (W.setCell ⟨z, 1, none⟩ (.int .i64 v)).heap.size = W.heap.size := by simp
  have h1 := (ho.but b3 hg).alloc (.cells #[.int .i64 61, .int .i64 v, .string tx, .int .i64 ks, .int .i64 pl] 48)
  have h2 := (hm.but b3 hgm).alloc (.cells #[.int .i64 61, .int .i64 v, .string tx, .int .i64 ks, .int .i64 pl] 48)
  have h3 : Below w.heap.size w (W.setCell ⟨z, 1, none⟩ (.int .i64 v)) := hb.trans (b3.below hb.size (fun k hk => by omega))
  have h4 := nd_new_cells (W.setCell ⟨z, 1, none⟩ (.int .i64 v)) ⟨61, v, tx, ks, pl⟩
  rw [hs] at h4
  exact ⟨h1, h2, h3.alloc h3.size _, h4⟩

end Go.Proofs.Ytngomcicdcgldab
