import Derived.Test.YthioecjcnajmgaaGreatDoorProg
import Derived.Test.YthioecjcnajmgaaGreatDoorWAF
import Derived.Test.YthioecjcnajmgaaGreatDoorWAA
import Derived.BigQuiet
import Derived.Test.YthioecjcnajmgaaGreatDoorWAG
namespace Go.Proofs.YthioecjcnajmgaaGreatDoor

open Go.RowKit

/-- Block g is a row of elements of type T, of the call's own, that begins with these cells. -/
def OwnT (T : Nat) (w : World) (g : Nat) (cs : List Value) : Prop := ∃ cur rest, w.heap[g]? = some (.cells cur T (0, 0)) ∧ cur.toList = cs ++ rest

theorem OwnT.lt {T : Nat} {w : World} {g : Nat} {cs : List Value} (h : OwnT T w g cs) : g < w.heap.size := by
  obtain ⟨cur, rest, hg, _⟩ := h
  exact (Array.getElem?_eq_some_iff.1 hg).1

theorem OwnT.set {T : Nat} {w : World} {g : Nat} {cs : List Value} (h : OwnT T w g cs) (j : Nat) (v : Value) (hj : j < cs.length) : OwnT T (w.setCell ⟨g, j, none⟩ v) g (cs.set j v) := by
  obtain ⟨cur, rest, hg, hc⟩ := h
  exact ⟨_, rest, heap_setCell_same _ g _ _ T _ hg, by rw [Array.toList_setIfInBounds, hc, List.set_append_left _ _ hj]⟩

theorem OwnT.at {T : Nat} {w : World} {g : Nat} {cs : List Value} (h : OwnT T w g cs) (j : Nat) (hj : j < cs.length) : w.cell? ⟨g, j, none⟩ = cs[j]? := by
  obtain ⟨cur, rest, hg, hc⟩ := h
  rw [cell_of_row w g _ cur T (0, 0) hg, ← Array.getElem?_toList, hc, List.getElem?_append_left hj]

theorem OwnT.frozen {T : Nat} {w : World} {g : Nat} {cs : List Value} (h : OwnT T w g cs) (j : Nat) : w.frozen? ⟨g, j, none⟩ = false := by
  obtain ⟨cur, _, hg, _⟩ := h
  exact frozen_of_row w g j cur T hg

theorem OwnT.but {S : Nat → Prop} {T : Nat} {w w' : World} {g : Nat} {cs : List Value} (h : OwnT T w g cs) (hb : But S w w') (hn : ¬ S g) : OwnT T w' g cs := by
  have hlt := h.lt
  obtain ⟨cur, rest, hg, hc⟩ := h
  exact ⟨cur, rest, (hb.block g hlt hn).trans hg, hc⟩

theorem OwnT.below {T : Nat} {w w' : World} {g : Nat} {cs : List Value} (h : OwnT T w g cs) (hb : Below w.heap.size w w') : OwnT T w' g cs := by
  have hlt := h.lt
  obtain ⟨cur, rest, hg, hc⟩ := h
  exact ⟨cur, rest, (hb.block g hlt).trans hg, hc⟩

/-- Block g is a row of int64s. -/
def LRow (w : World) (g : Nat) (xs : List Int) : Prop := OwnT 2 w g (ints xs)

theorem LRow.at {w : World} {g : Nat} {xs : List Int} (h : LRow w g xs) (j : Nat) (hj : j < xs.length) : w.cell? ⟨g, j, none⟩ = some (.int .i64 xs[j]) := by
  rw [OwnT.at h j (by simp [ints]; exact hj)]
  simp [ints, List.getElem?_eq_getElem hj]

theorem LRow.put {w : World} {g : Nat} {xs : List Int} (h : LRow w g xs) (j : Nat) (hj : j < xs.length) (v : Int) : LRow (w.setCell ⟨g, j, none⟩ (.int .i64 v)) g (xs.set j v) := by
  have h9 := OwnT.set h j (.int .i64 v) (by simp [ints]; exact hj)
  have e : (ints xs).set j (.int .i64 v) = ints (xs.set j v) := by simp [ints]
  rw [e] at h9
  exact h9

theorem LRow.below {w w' : World} {g : Nat} {xs : List Int} (h : LRow w g xs) (hb : Below w.heap.size w w') : LRow w' g xs := OwnT.below h hb

theorem LRow.but {S : Nat → Prop} {w w' : World} {g : Nat} {xs : List Int} (h : LRow w g xs) (hb : But S w w') (hn : ¬ S g) : LRow w' g xs := OwnT.but h hb hn

theorem LRow.frozen {w : World} {g : Nat} {xs : List Int} (h : LRow w g xs) (j : Nat) : w.frozen? ⟨g, j, none⟩ = false := OwnT.frozen h j

theorem LRow.lt {w : World} {g : Nat} {xs : List Int} (h : LRow w g xs) : g < w.heap.size := OwnT.lt h

/-- A slice of int64s to be read. -/
def LCells (w : World) (ao : Option Addr) (xs : List Int) : Prop := ∀ i (h : i < xs.length), ∃ b o, ao = some ⟨b, o, none⟩ ∧ w.cell? ⟨b, o + i, none⟩ = some (.int .i64 xs[i])

theorem LCells.below {w w' : World} {ao : Option Addr} {xs : List Int} (h : LCells w ao xs) (hb : Below w.heap.size w w') : LCells w' ao xs := by
  intro i hi
  obtain ⟨b, o, e, hc⟩ := h i hi
  exact ⟨b, o, e, (hb.cell (p := ⟨b, o + i, none⟩) (lt_of_cell hc)).trans hc⟩

theorem LRow.cells {w : World} {g : Nat} {xs : List Int} (h : LRow w g xs) : LCells w (some ⟨g, 0, none⟩) xs := fun i hi => ⟨g, 0, rfl, by rw [Nat.zero_add]; exact h.at i hi⟩

/-- An answer: a slice of int64s that is empty, or a row of the call's own, from block B on. -/
def LAns (w : World) (B : Nat) (ao : Option Addr) (zs : List Int) : Prop := zs = [] ∨ ∃ g, ao = some ⟨g, 0, none⟩ ∧ B ≤ g ∧ LRow w g zs

theorem LAns.cells {w : World} {B : Nat} {ao : Option Addr} {zs : List Int} (h : LAns w B ao zs) : LCells w ao zs := by
  rcases h with rfl | ⟨g, rfl, _, hr⟩
  · exact fun i hi => by simp at hi
  · exact hr.cells

theorem LAns.below {w w' : World} {B : Nat} {ao : Option Addr} {zs : List Int} (h : LAns w B ao zs) (hb : Below w.heap.size w w') : LAns w' B ao zs := by
  rcases h with rfl | ⟨g, rfl, hB, hr⟩
  · exact Or.inl rfl
  · exact Or.inr ⟨g, rfl, hB, hr.below hb⟩

theorem LAns.but {S : Nat → Prop} {w w' : World} {B : Nat} {ao : Option Addr} {zs : List Int} (h : LAns w B ao zs) (hb : But S w w') (hS : ∀ g, ao = some ⟨g, 0, none⟩ → B ≤ g → LRow w g zs → ¬ S g) : LAns w' B ao zs := by
  rcases h with rfl | ⟨g, rfl, hB, hr⟩
  · exact Or.inl rfl
  · exact Or.inr ⟨g, rfl, hB, hr.but hb (hS g rfl hB hr)⟩

/-- A node that may stand in a plain type. -/
def Nd.plainb (n : Nd) : Bool :=
  n.place == 0 &&
    (((n.kind == 60 || n.kind == 61) && n.kids == 0 && decide (1 ≤ n.num) && n.text.size == 0) || (n.kind == 12 && n.num == 0) ||
      (((n.kind == 13 && n.kids == 2) || (n.kind == 14 && n.kids != 1)) && n.num == 0 && n.text.size == 0))

theorem all_false {α : Type} {p : α → Bool} {xs : List α} (k : Nat) (h : k < xs.length) (hf : p xs[k] = false) : xs.all p = false := by
  cases h9 : xs.all p
  · rfl
  · exact absurd (List.all_eq_true.1 h9 _ (List.getElem_mem h)) (by simp [hf])

theorem take_all {α : Type} {p : α → Bool} {xs : List α} (k : Nat) (h : k < xs.length) (ht : p xs[k] = true) (ha : (xs.take k).all p = true) : (xs.take (k + 1)).all p = true := by
  rw [List.take_succ_eq_append_getElem h, List.all_append, ha]
  simp [ht]

set_option maxRecDepth 100000 in
set_option maxHeartbeats 2000000 in
theorem isPlain_any (t : List Nd) (m : Nat) (HM : Hid (t.length = m)) (hm : m ≤ 1048576) (ao : Option Addr) (cap : Nat) (w : World) (hx : Nodes w ao t) :
    Calls Tryz.prog 41 #[.slice ao m cap] w fun e w' => e = .returned (.bool (t.all Nd.plainb)) ∧ Below w.heap.size w w' := by
  go_enter Tryz.func41, Tryz.ntmps41
  go_wp2
  go_loopw [3] (fun i wr => ∃ (k : Nat), k ≤ m ∧ i = .int .i64 k ∧ (t.take k).all Nd.plainb = true ∧ Below w.heap.size w wr) (fun i _ => m - (intOf i).toNat)
  case atStart => exact ⟨0, Nat.zero_le _, rfl, by simp, Below.refl _ _⟩
  case round =>
    obtain ⟨k, hk, rfl, hall, hb⟩ := hrel
    by_cases hlt : k < m
    · have hltx : k < t.length := by have := HM.out; omega
      obtain ⟨⟨kd, nm, tx, ks, pl⟩, hxk⟩ : ∃ x, t[k] = x := ⟨_, rfl⟩
      obtain ⟨b, o, rfl, hcx⟩ := hx.below hb k hltx
      rw [hxk] at hcx
      obtain ⟨c0, c1, c2, c3, c4⟩ := hcx
      simp only at c0 c1 c2 c3 c4
      have hlb : b < wr.heap.size := lt_of_cell c0
      have HF : Hid (Nd.plainb ⟨kd, nm, tx, ks, pl⟩ = false → t.all Nd.plainb = false) := fun h => all_false k hltx (by rw [hxk]; exact h)
      have HT : Hid (Nd.plainb ⟨kd, nm, tx, ks, pl⟩ = true → (t.take (k + 1)).all Nd.plainb = true) := fun h => take_all k hltx (by rw [hxk]; exact h) hall
      clear hx hall hxk
      by_cases hp : pl = 0
      · subst hp
        by_cases h60 : kd = 60 ∨ kd = 61
        · have tk : ((kd : Int) == 60 || (kd : Int) == 61) = true := by simpa using h60
          rcases h60 with rfl | rfl
          all_goals
            by_cases hks : ks = 0
            · subst hks
              by_cases hnm : nm < 1
              · have tn : decide (nm < 1) = true := by simpa using hnm
                go_wp2
                go_ret
                exact ⟨by rw [HF.out (by simp [Nd.plainb]; omega)]; rfl, hb.alloc hb.size _⟩
              · have tn : decide (nm < 1) = false := by simpa using hnm
                by_cases htx : tx.size = 0
                · have tt : decide ((tx.size : Int) > 0) = false := decide_eq_false (by rw [htx]; decide)
                  go_wp2
                  go_roundw
                  case rel => exact ⟨k + 1, by omega, by go_num, HT.out (by simp [Nd.plainb, htx]; omega), hb.alloc hb.size _⟩
                  case measure => simp [intOf]; omega
                · have tt : decide ((tx.size : Int) > 0) = true := by simp; omega
                  go_wp2
                  go_ret
                  exact ⟨by rw [HF.out (by simp [Nd.plainb, htx])]; rfl, hb.alloc hb.size _⟩
            · have ts : ((ks : Int) != 0) = true := by simpa using hks
              go_wp2
              go_ret
              exact ⟨by rw [HF.out (by simp [Nd.plainb, hks])]; rfl, hb.alloc hb.size _⟩
        · have t60 : ((kd : Int) == 60) = false := by simp; omega
          have t61 : ((kd : Int) == 61) = false := by simp; omega
          by_cases h12 : kd = 12
          · subst h12
            by_cases hnm : nm = 0
            · subst hnm
              go_wp2
              go_roundw
              case rel => exact ⟨k + 1, by omega, by go_num, HT.out (by simp [Nd.plainb]), hb.alloc hb.size _⟩
              case measure => simp [intOf]; omega
            · have tn : ((nm : Int) != 0) = true := by simpa using hnm
              go_wp2
              go_ret
              exact ⟨by rw [HF.out (by simp [Nd.plainb, hnm])]; rfl, hb.alloc hb.size _⟩
          · have t12 : ((kd : Int) == 12) = false := by simpa using h12
            by_cases h13 : kd = 13
            · subst h13
              by_cases hks : ks = 2
              · subst hks
                by_cases hnm : nm = 0
                · subst hnm
                  by_cases htx : tx.size = 0
                  · have tt : decide ((tx.size : Int) > 0) = false := decide_eq_false (by rw [htx]; decide)
                    go_wp2
                    go_roundw
                    case rel => exact ⟨k + 1, by omega, by go_num, HT.out (by simp [Nd.plainb, *]), hb.alloc hb.size _⟩
                    case measure => simp [intOf]; omega
                  · have tt : decide ((tx.size : Int) > 0) = true := by simp; omega
                    go_wp2
                    go_ret
                    exact ⟨by rw [HF.out (by simp [Nd.plainb, *])]; rfl, hb.alloc hb.size _⟩
                · have tn : ((nm : Int) != 0) = true := by simpa using hnm
                  go_wp2
                  go_ret
                  exact ⟨by rw [HF.out (by simp [Nd.plainb, *])]; rfl, hb.alloc hb.size _⟩
              · have ts : ((ks : Int) == 2) = false := by simpa using hks
                go_wp2
                go_ret
                exact ⟨by rw [HF.out (by simp [Nd.plainb, hks])]; rfl, hb.alloc hb.size _⟩
            · have t13 : ((kd : Int) == 13) = false := by simpa using h13
              by_cases h14 : kd = 14
              · subst h14
                by_cases hks : ks = 1
                · subst hks
                  go_wp2
                  go_ret
                  exact ⟨by rw [HF.out (by simp [Nd.plainb])]; rfl, hb.alloc hb.size _⟩
                · have ts : ((ks : Int) != 1) = true := by simpa using hks
                  by_cases hnm : nm = 0
                  · subst hnm
                    by_cases htx : tx.size = 0
                    · have tt : decide ((tx.size : Int) > 0) = false := decide_eq_false (by rw [htx]; decide)
                      go_wp2
                      go_roundw
                      case rel => exact ⟨k + 1, by omega, by go_num, HT.out (by simp [Nd.plainb, *]), hb.alloc hb.size _⟩
                      case measure => simp [intOf]; omega
                    · have tt : decide ((tx.size : Int) > 0) = true := by simp; omega
                      go_wp2
                      go_ret
                      exact ⟨by rw [HF.out (by simp [Nd.plainb, *])]; rfl, hb.alloc hb.size _⟩
                  · have tn : ((nm : Int) != 0) = true := by simpa using hnm
                    go_wp2
                    go_ret
                    exact ⟨by rw [HF.out (by simp [Nd.plainb, *])]; rfl, hb.alloc hb.size _⟩
              · have t14 : ((kd : Int) == 14) = false := by simpa using h14
                go_wp2
                go_ret
                exact ⟨by rw [HF.out (by simp [Nd.plainb]; omega)]; rfl, hb.alloc hb.size _⟩
      · have tp : ((pl : Int) != 0) = true := by simpa using hp
        go_wp2
        go_ret
        exact ⟨by rw [HF.out (by simp [Nd.plainb, hp])]; rfl, hb.alloc hb.size _⟩
    · have HA : Hid (t.all Nd.plainb = true) := by
        have h9 := hall
        rw [List.take_of_length_le (by have := HM.out; omega)] at h9
        exact h9
      clear hall hx
      go_wp2
      go_ret
      exact ⟨by rw [HA.out]; rfl, hb⟩

/-- A type of chapter 8. -/
def typeb (t : List Nd) : Bool := decide (t.length ≤ 300) && decide (0 < deepOf t) && t.all Nd.plainb

set_option maxHeartbeats 1000000 in
theorem isType_any (t : List Nd) (m : Nat) (HM : Hid (t.length = m)) (hm : m ≤ 1048576) (ao : Option Addr) (cap : Nat) (w : World) (hx : Nodes w ao t) :
    Calls Tryz.prog 20 #[.slice ao m cap] w fun e w' => e = .returned (.bool (typeb t)) ∧ Below w.heap.size w w' := by
  by_cases h3 : m ≤ 300
  · have t3 : decide ((m : Int) ≤ 300) = true := decide_eq_true (by omega)
    have HV : Hid (typeb t = (decide (0 < deepOf t) && t.all Nd.plainb)) := by
      have h9 : decide (t.length ≤ 300) = true := decide_eq_true (by have := HM.out; omega)
      simp only [typeb, h9, Bool.true_and, Hid]
    go_enter Tryz.func20, Tryz.ntmps20
    go_wp2_with fail
    refine (specGood_any t m HM hm ao cap w hx).mono ?_
    rintro e w1 ⟨rfl, hb1⟩
    cases hg : decide (0 < deepOf t)
    · rw [hg] at HV
      have HW : Hid (typeb t = false) := HV.out
      clear HV hx
      go_wp2
      go_ret
      exact ⟨by rw [HW.out]; rfl, hb1⟩
    · rw [hg] at HV
      have hx1 := hx.below hb1
      go_wp2_with fail
      refine (isPlain_any t m HM hm ao cap w1 hx1).mono ?_
      rintro e w2 ⟨rfl, hb2⟩
      have hb := Below.step hb1 hb2
      have HW : Hid (typeb t = t.all Nd.plainb) := HV.out
      clear HV hx hx1 hb1 hb2
      go_wp2
      go_ret
      exact ⟨by rw [HW.out]; rfl, hb⟩
  · have t3 : decide ((m : Int) ≤ 300) = false := decide_eq_false (by omega)
    have HV : Hid (typeb t = false) := by
      have h9 : decide (t.length ≤ 300) = false := decide_eq_false (by have := HM.out; omega)
      simp only [typeb, h9, Bool.false_and, Hid]
    clear hx
    go_enter Tryz.func20, Tryz.ntmps20
    go_wp2
    go_ret
    exact ⟨by rw [HV.out]; rfl, Below.refl _ _⟩

/-- A slice of int64s of the call's own. -/
def Longs (w : World) (B g cap : Nat) (n : Nat) (xs : List Int) : Prop := xs.length = n ∧ w.ownsRow B 2 1 (.slice (some ⟨g, 0, none⟩) n cap) n (ints xs)

theorem Tryz.infoL : (Tryz.prog.info? 2).map (fun i => (i.zero, i.size, i.bytes)) = some (some (.int .i64 0), 1, 8) := by kernel_rfl

theorem Longs.at {w : World} {B g cap n : Nat} {xs : List Int} (h : Longs w B g cap n xs) (j : Nat) (hj : j < xs.length) : w.cell? ⟨g, j, none⟩ = some (.int .i64 xs[j]) := by
  rw [owns_at h.2 j (by have := h.1; omega)]
  simp [ints, List.getElem?_eq_getElem hj]

theorem Longs.alloc {w : World} {B g cap n : Nat} {xs : List Int} (h : Longs w B g cap n xs) (o : Obj) : Longs (w.alloc o) B g cap n xs := ⟨h.1, h.2.alloc o⟩

theorem Longs.but {S : Nat → Prop} {w w' : World} {B g cap n : Nat} {xs : List Int} (h : Longs w B g cap n xs) (hb : But S w w') (hn : ¬ S g) : Longs w' B g cap n xs := ⟨h.1, owns_but h.2 hb hn⟩

theorem Longs.below {w w' : World} {B g cap n : Nat} {xs : List Int} (h : Longs w B g cap n xs) (hb : Below w.heap.size w w') : Longs w' B g cap n xs := h.but (S := fun _ => False) (But.ofBelow hb) (fun h => h)

theorem Longs.kept {w w' : World} {B g cap n k : Nat} {xs : List Int} (h : Longs w B g cap n xs) (hg : w.grownBy w' (some k)) (hne : g ≠ k) : Longs w' B g cap n xs := ⟨h.1, owns_kept h.2 hg hne⟩

theorem Longs.block {w : World} {B g cap n : Nat} {xs : List Int} (h : Longs w B g cap n xs) : B ≤ g ∧ g < w.heap.size := owns_block h.2

theorem Longs.empty {w : World} {B : Nat} (hB : B ≤ w.heap.size) : Longs (w.alloc (.cells #[] 2)) B w.heap.size 0 0 [] :=
  ⟨rfl, rfl, Or.inr ⟨_, 0, #[], rfl, hB, heap_alloc_new _ _, Nat.le_refl _, by simp [maxLen], rfl, rfl⟩⟩

theorem Longs.push {w : World} {B g cap n m : Nat} {xs : List Int} {x : Int} (h : w.ownsRow B 2 1 (.slice (some ⟨g, 0, none⟩) m cap) m (ints xs ++ [.int .i64 x])) (hn : xs.length = n) (hm : m = n + 1) : Longs w B g cap (n + 1) (xs ++ [x]) := by
  subst hm
  refine ⟨by simp [hn], ?_⟩
  simpa [ints] using h

theorem one_cell2 (w : World) (v : Value) : ∀ j u, [v][j]? = some u → (w.alloc (.cells #[v] 2)).cell? (Addr.add ⟨w.heap.size, 0, none⟩ j) = some u := by
  intro j u hj
  match j, hj with
  | 0, hj =>
    simp at hj
    subst hj
    have ad : Addr.add ⟨w.heap.size, 0, none⟩ 0 = ⟨w.heap.size, 0, none⟩ := by unfold Addr.add; simp
    rw [ad, cell_of_row _ w.heap.size 0 _ 2 (0, 0) (heap_alloc_new _ _)]
    rfl

theorem OwnN.but {S : Nat → Prop} {w w' : World} {B g c l : Nat} {zs : List Nd} (h : OwnN w B g c l zs) (hb : But S w w') (hn : ¬ S g) : OwnN w' B g c l zs := ⟨h.1, owns_but h.2 hb hn⟩

theorem OwnN.kept {w w' : World} {B g c l k : Nat} {zs : List Nd} (h : OwnN w B g c l zs) (hg : w.grownBy w' (some k)) (hne : g ≠ k) : OwnN w' B g c l zs := ⟨h.1, owns_kept h.2 hg hne⟩

theorem OwnN.one {w : World} {B : Nat} (hB : B ≤ w.heap.size) (n : Nd) : OwnN (w.alloc (.cells #[.int .i64 n.kind, .int .i64 n.num, .string n.text, .int .i64 n.kids, .int .i64 n.place] 40)) B w.heap.size 1 1 [n] :=
  ⟨rfl, rfl, Or.inr ⟨_, 1, _, rfl, hB, heap_alloc_new _ _, Nat.le_refl _, by simp [maxLen], rfl, by simp [flat, Nd.row]⟩⟩

/-- The place of a number among those met, or how many there are. -/
def placeIn (met : List Int) (x : Int) : Nat := met.findIdx (· == x)

theorem placeIn_found {met : List Int} {x : Int} {j : Nat} (h : j < met.length) (he : met[j] = x) (hall : ∀ i (h : i < met.length), i < j → met[i] ≠ x) : placeIn met x = j := by
  unfold placeIn
  exact (List.findIdx_eq h).2 ⟨by simp [he], fun i hi => by simpa using hall i (by omega) hi⟩

theorem placeIn_none {met : List Int} {x : Int} (hall : ∀ i (h : i < met.length), met[i] ≠ x) : placeIn met x = met.length := by
  unfold placeIn
  refine List.findIdx_eq_length.2 ?_
  intro y hy
  obtain ⟨i, hi, rfl⟩ := List.getElem_of_mem hy
  simpa using hall i hi

theorem below_drewN (w : World) (n : Nat) : Below w.heap.size w (w.drewN n) := ⟨rfl, rfl, rfl, Nat.le_refl _, fun _ _ => rfl⟩

end Go.Proofs.YthioecjcnajmgaaGreatDoor
