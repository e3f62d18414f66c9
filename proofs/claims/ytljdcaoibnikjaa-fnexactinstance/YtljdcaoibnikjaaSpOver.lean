import Derived.Test.YtljdcaoibnikjaaProg
import Derived.Test.YtljdcaoibnikjaaWAF
import Derived.Test.YtljdcaoibnikjaaWAA
import Derived.Deep.Light
namespace Go.Proofs.Ytljdcaoibnikjaa

open Go.RowKit

/-- The three cells of a term's place. -/
def SpAt (w : World) (b o : Nat) (s : Sp) : Prop :=
  w.cell? ⟨b, o, none⟩ = some (.int .i64 (s.fr : Int)) ∧ w.cell? ⟨b, o + 1, none⟩ = some (.int .i64 (s.rt : Int)) ∧ w.cell? ⟨b, o + 2, none⟩ = some (.int .i64 (s.dp : Int))

theorem SpAt.below {w w' : World} {b o : Nat} {s : Sp} (h : SpAt w b o s) (hb : Below w.heap.size w w') : SpAt w' b o s := by
  have hlt : b < w.heap.size := lt_of_cell h.1
  exact ⟨(hb.cell (p := ⟨b, o, none⟩) hlt).trans h.1, (hb.cell (p := ⟨b, o + 1, none⟩) hlt).trans h.2.1, (hb.cell (p := ⟨b, o + 2, none⟩) hlt).trans h.2.2⟩

def Sps (w : World) (ao : Option Addr) (ks : List Sp) : Prop :=
  ∀ i (h : i < ks.length), ∃ b o, ao = some ⟨b, o, none⟩ ∧ SpAt w b (o + i * 3) ks[i]

theorem Sps.below {w w' : World} {ao : Option Addr} {ks : List Sp} (h : Sps w ao ks) (hb : Below w.heap.size w w') : Sps w' ao ks := by
  intro i hi
  obtain ⟨b, o, e, hn⟩ := h i hi
  exact ⟨b, o, e, hn.below hb⟩

/-- A box that holds three cells. -/
def Box3 (w : World) (b : Nat) (x y z : Value) : Prop := w.heap[b]? = some (.cells #[x, y, z] 123 (0, 0))

theorem Box3.lt {w : World} {b : Nat} {x y z : Value} (h : Box3 w b x y z) : b < w.heap.size := (Array.getElem?_eq_some_iff.1 h).1

theorem Box3.cells {w : World} {b : Nat} {x y z : Value} (h : Box3 w b x y z) : w.cell? ⟨b, 0, none⟩ = some x ∧ w.cell? ⟨b, 1, none⟩ = some y ∧ w.cell? ⟨b, 2, none⟩ = some z :=
  ⟨by rw [cell_of_row w b 0 _ 123 (0, 0) h]; rfl, by rw [cell_of_row w b 1 _ 123 (0, 0) h]; rfl, by rw [cell_of_row w b 2 _ 123 (0, 0) h]; rfl⟩

theorem Box3.frozen {w : World} {b : Nat} {x y z : Value} (h : Box3 w b x y z) (j : Nat) : w.frozen? ⟨b, j, none⟩ = false := frozen_of_row w b j _ 123 h

theorem Box3.alloc {w : World} {b : Nat} {x y z : Value} (h : Box3 w b x y z) (o : Obj) : Box3 (w.alloc o) b x y z := (Below.heap_alloc w o b h.lt).trans h

theorem Box3.new (w : World) (x y z : Value) : Box3 (w.alloc (.cells #[x, y, z] 123)) w.heap.size x y z := heap_alloc_new _ _

theorem Box3.set0 {w : World} {b : Nat} {x y z : Value} (h : Box3 w b x y z) (u : Value) : Box3 (w.setCell ⟨b, 0, none⟩ u) b u y z := by
  have := heap_setCell_same w b 0 _ 123 u h
  exact this

theorem Box3.set1 {w : World} {b : Nat} {x y z : Value} (h : Box3 w b x y z) (u : Value) : Box3 (w.setCell ⟨b, 1, none⟩ u) b x u z := by
  have := heap_setCell_same w b 1 _ 123 u h
  exact this

theorem Box3.set2 {w : World} {b : Nat} {x y z : Value} (h : Box3 w b x y z) (u : Value) : Box3 (w.setCell ⟨b, 2, none⟩ u) b x y u := by
  have := heap_setCell_same w b 2 _ 123 u h
  exact this

theorem Box3.other {w : World} {b c j : Nat} {x y z : Value} (h : Box3 w b x y z) (hne : b ≠ c) (u : Value) : Box3 (w.setCell ⟨c, j, none⟩ u) b x y z :=
  (Below.heap_setCell w ⟨c, j, none⟩ u b hne).trans h

theorem size_setC (w : World) (a : Addr) (v : Value) : (w.setCell a v).heap.size = w.heap.size := by simp [World.setCell]

theorem Box3.below {w w' : World} {b : Nat} {x y z : Value} (h : Box3 w b x y z) (hb : Below w.heap.size w w') : Box3 w' b x y z := (hb.block b h.lt).trans h

theorem dpOf_take_succ (ks : List Sp) (j : Nat) (h : j < ks.length) : dpOf (ks.take (j + 1)) = max (dpOf (ks.take j)) (ks[j].dp + 1) := by
  unfold dpOf
  rw [List.take_succ_eq_append_getElem h, List.foldl_append]
  rfl

set_option maxHeartbeats 1000000 in
theorem spanOver_any (ks : List Sp) (n i : Nat) (HN : Hid (ks.length = n)) (ao : Option Addr) (cap : Nat) (w : World) (hx : Sps w ao ks) (hn : n ≤ 60000) (_hi : i ≤ 60000) (hd : ∀ x ∈ ks, x.dp ≤ 60000) :
    Calls Try.prog 95 #[.slice ao n cap, .int .i64 (i : Int)] w fun e w' =>
      e = .returned (.agg #[.int .i64 ((over ks i).fr : Int), .int .i64 ((over ks i).rt : Int), .int .i64 ((over ks i).dp : Int)]) ∧ Below w.heap.size w w' := by
  by_cases h0 : 0 < n
  · have h0k : 0 < ks.length := by have := HN.out; omega
    obtain ⟨b, o, rfl, hs0⟩ := hx 0 h0k
    have c0 := hs0.1
    simp only [Nat.zero_mul, Nat.add_zero] at c0
    have hlb : b < w.heap.size := lt_of_cell c0
    have HFR : Hid (frOf ks i = ks[0].fr) := by
      show frOf ks i = ks[0].fr
      cases ks with
      | nil => simp at h0k
      | cons k l => rfl
    go_enter Try.func95, Try.ntmps95
    go_wp2
    go_loopw [21] (fun p wr => ∃ (j : Nat), j ≤ n ∧ p = .int .i64 j ∧ Box3 wr w.heap.size (.int .i64 0) (.int .i64 0) (.int .i64 0) ∧ Box3 wr (w.heap.size + 1) (.int .i64 (ks[0].fr : Int)) (.int .i64 (i : Int)) (.int .i64 (dpOf (ks.take j) : Int)) ∧ Below w.heap.size w wr) (fun p _ => n - (intOf p).toNat)
    case atStart =>
      refine ⟨0, Nat.zero_le _, rfl, (Box3.new w _ _ _).alloc _, ?_, ((Below.refl _ _).alloc (Nat.le_refl _) _).alloc (by simp) _⟩
      have := Box3.new (w.alloc (Obj.cells #[Value.int IntKind.i64 0, Value.int IntKind.i64 0, Value.int IntKind.i64 0] 123)) (.int .i64 (ks[0].fr : Int)) (.int .i64 (i : Int)) (.int .i64 1)
      rw [World.size_alloc] at this
      exact this
    case round =>
      obtain ⟨j, hj, rfl, b0, b1, hb⟩ := hrel
      have hl0 := b0.lt
      have hl1 := b1.lt
      by_cases hlt : j < n
      · have hltk : j < ks.length := by have := HN.out; omega
        obtain ⟨bb, oo, e, hsj⟩ := hx.below hb j hltk
        simp only [Option.some.injEq, Addr.mk.injEq, and_true] at e
        obtain ⟨rfl, rfl⟩ := e
        obtain ⟨s, hs⟩ : ∃ s, ks[j] = s := ⟨_, rfl⟩
        rw [hs] at hsj
        obtain ⟨e0, e1, e2⟩ := hsj
        have hsd : s.dp ≤ 60000 := by rw [← hs]; exact hd _ (List.getElem_mem hltk)
        have HDS : Hid (dpOf (ks.take (j + 1)) = max (dpOf (ks.take j)) (s.dp + 1)) := by rw [← hs]; exact dpOf_take_succ ks j hltk
        have hdb := (dpOf_le (ks.take j) 60000 (fun x hx => hd x (List.mem_of_mem_take hx))).2
        obtain ⟨dd, hdd⟩ : ∃ dd, dpOf (ks.take j) = dd := ⟨_, rfl⟩
        have HDD : Hid (dpOf (ks.take j) = dd) := hdd
        rw [hdd] at b1 hdb
        obtain ⟨q0, q1, q2⟩ := b1.cells
        have f2 := b1.frozen 2
        clear hx hd hs hdd hs0 c0
        go_wp2
        have hv : (if (dd : Int) < (s.dp : Int) + 1 then (s.dp : Int) + 1 else (dd : Int)) = ((dpOf (ks.take (j + 1)) : Nat) : Int) := by
          rw [HDS.out, HDD.out]
          split <;> omega
        go_roundw
        case rel => exact ⟨j + 1, by omega, by go_num, (b0.other (by omega) _).alloc _, by have := (b1.set2 (.int .i64 (if (dd : Int) < (s.dp : Int) + 1 then (s.dp : Int) + 1 else (dd : Int)))).alloc (Obj.cells #[Value.int IntKind.i64 ↑s.fr, Value.int IntKind.i64 ↑s.rt, Value.int IntKind.i64 ↑s.dp] 123); rw [hv] at this ⊢; exact this, (hb.setCell (p := ⟨w.heap.size + 1, 2, none⟩) (Nat.le_succ _) _).alloc (by rw [size_setC]; exact hb.size) _⟩
        case measure => simp [intOf]; omega
      · have HE : Hid (ks.take j = ks) := List.take_of_length_le (by have := HN.out; omega)
        rw [HE.out] at b1
        obtain ⟨q0, q1, q2⟩ := b1.cells
        obtain ⟨p0, p1, p2⟩ := b0.cells
        have f0 := b0.frozen 0
        have f1 := b0.frozen 1
        have f2 := b0.frozen 2
        have HB : Below w.heap.size w (((wr.setCell ⟨w.heap.size, 0, none⟩ (.int .i64 (ks[0].fr : Int))).setCell ⟨w.heap.size, 1, none⟩ (.int .i64 (i : Int))).setCell ⟨w.heap.size, 2, none⟩ (.int .i64 (dpOf ks : Int))) :=
          ((hb.setCell (p := ⟨w.heap.size, 0, none⟩) (Nat.le_refl _) _).setCell (p := ⟨w.heap.size, 1, none⟩) (Nat.le_refl _) _).setCell (p := ⟨w.heap.size, 2, none⟩) (Nat.le_refl _) _
        clear hx hd hs0 c0
        go_wp2
        refine bodyPost_ret (v := .agg #[.int .i64 (ks[0].fr : Int), .int .i64 (i : Int), .int .i64 (dpOf ks : Int)]) (by simp [results, Try.results95, go_sem, p0, p1, p2]) rfl ⟨?_, HB⟩
        rw [← HFR.out]
        rfl
  · have hk0 : ks = [] := List.eq_nil_of_length_eq_zero (by have := HN.out; omega)
    subst hk0
    have hn0 : n = 0 := by omega
    subst hn0
    clear hx hd
    go_enter Try.func95, Try.ntmps95
    go_wp2
    refine wp_loop_rounds 1 ?_
    rw [rounds_succ]
    go_wp2
    refine bodyPost_ret (v := .agg #[.int .i64 (i : Int), .int .i64 (i : Int), .int .i64 1]) (by simp [results, Try.results95, go_sem]) rfl ⟨rfl, ?_⟩
    exact ((Below.refl _ _).alloc (Nat.le_refl _) _).alloc (by simp) _

end Go.Proofs.Ytljdcaoibnikjaa
