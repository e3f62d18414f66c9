import Derived.Test.YtoiiibplkhedcaaGreatDoorWAJ
set_option maxRecDepth 100000
set_option maxHeartbeats 2000000
namespace Go.Proofs.YtoiiibplkhedcaaGreatDoor
open Go.RowKit
def Nd.plainb (n : Nd) : Bool :=
  n.place == 0 &&
    (((n.kind == 60 || n.kind == 61) && n.kids == 0 && decide (1 ≤ n.num) && n.text.size == 0) || (n.kind == 12 && n.num == 0) ||
      (((n.kind == 13 && n.kids == 2) || (n.kind == 14 && n.kids != 1)) && n.num == 0 && n.text.size == 0))
theorem Qyg {α : Type} {p : α → Bool} {xs : List α} (k : Nat) (h : k < xs.length) (hf : p xs[k] = false) : xs.all p = false := by
  cases h9 : xs.all p
  · rfl
  · exact absurd (List.all_eq_true.1 h9 _ (List.getElem_mem h)) (by simp [hf])
theorem Qza {α : Type} {p : α → Bool} {xs : List α} (k : Nat) (h : k < xs.length) (ht : p xs[k] = true) (ha : (xs.take k).all p = true) : (xs.take (k + 1)).all p = true := by
  rw [List.take_succ_eq_append_getElem h, List.all_append, ha]
  simp [ht]
theorem Qre (t : List Nd) (m : Nat) (HM : Hid (t.length = m)) (hm : m ≤ 1048576) (ao : Option Addr) (cap : Nat) (w : World) (hx : Nodes w ao t) :
    Calls Tryz.prog 53 #[.slice ao m cap] w fun e w' => e = .returned (.bool (t.all Nd.plainb)) ∧ Below w.heap.size w w' := by
  go_enter Tryz.func53, Tryz.ntmps53
  go_wp2
  go_loopw [3] (fun i wr => ∃ (k : Nat), k ≤ m ∧ i = .int .i64 k ∧ (t.take k).all Nd.plainb = true ∧ Below w.heap.size w wr) (fun i _ => m - (intOf i).toNat)
  case atStart => exact ⟨0, Nat.zero_le _, rfl, by simp, Below.refl _ _⟩
  case round =>
    obtain ⟨k, hk, rfl, hall, hb⟩ := hrel
    by_cases hlt : k < m
    · have hltx : k < t.length := by have := HM.out; omega
      obtain ⟨⟨kd, nm, tx, ks, pl⟩, hxk⟩ : ∃ x, t[k] = x := ⟨_, rfl⟩
      obtain ⟨b, o, rfl, hcx⟩ := hx.below hb k hltx
      rw [hxk] at hcx
      obtain ⟨c0, c1, c2, c3, c4⟩ := hcx
      simp only at c0 c1 c2 c3 c4
      have hlb : b < wr.heap.size := Qaa c0
      have HF : Hid (Nd.plainb ⟨kd, nm, tx, ks, pl⟩ = false → t.all Nd.plainb = false) := fun h => Qyg k hltx (by rw [hxk]; exact h)
      have HT : Hid (Nd.plainb ⟨kd, nm, tx, ks, pl⟩ = true → (t.take (k + 1)).all Nd.plainb = true) := fun h => Qza k hltx (by rw [hxk]; exact h) hall
      clear hx hall hxk
      by_cases hp : pl = 0
      · subst hp
        by_cases h60 : kd = 60 ∨ kd = 61
        · have tk : ((kd : Int) == 60 || (kd : Int) == 61) = true := by simpa using h60
          rcases h60 with rfl | rfl
          all_goals
            by_cases hks : ks = 0
            · subst hks
              by_cases hnm : nm < 1
              · have tn : decide (nm < 1) = true := by simpa using hnm
                go_wp2
                go_ret
                exact ⟨by rw [HF.out (by simp [Nd.plainb]; omega)]; rfl, hb.alloc hb.size _⟩
              · have tn : decide (nm < 1) = false := by simpa using hnm
                by_cases htx : tx.size = 0
                · have tt : decide ((tx.size : Int) > 0) = false := decide_eq_false (by rw [htx]; decide)
                  go_wp2
                  go_roundw
                  case rel => exact ⟨k + 1, by omega, by go_num, HT.out (by simp [Nd.plainb, htx]; omega), hb.alloc hb.size _⟩
                  case measure => simp [intOf]; omega
                · have tt : decide ((tx.size : Int) > 0) = true := by simp; omega
                  go_wp2
                  go_ret
                  exact ⟨by rw [HF.out (by simp [Nd.plainb, htx])]; rfl, hb.alloc hb.size _⟩
            · have ts : ((ks : Int) != 0) = true := by simpa using hks
              go_wp2
              go_ret
              exact ⟨by rw [HF.out (by simp [Nd.plainb, hks])]; rfl, hb.alloc hb.size _⟩
        · have t60 : ((kd : Int) == 60) = false := by simp; omega
          have t61 : ((kd : Int) == 61) = false := by simp; omega
          by_cases h12 : kd = 12
          · subst h12
            by_cases hnm : nm = 0
            · subst hnm
              go_wp2
              go_roundw
              case rel => exact ⟨k + 1, by omega, by go_num, HT.out (by simp [Nd.plainb]), hb.alloc hb.size _⟩
              case measure => simp [intOf]; omega
            · have tn : ((nm : Int) != 0) = true := by simpa using hnm
              go_wp2
              go_ret
              exact ⟨by rw [HF.out (by simp [Nd.plainb, hnm])]; rfl, hb.alloc hb.size _⟩
          · have t12 : ((kd : Int) == 12) = false := by simpa using h12
            by_cases h13 : kd = 13
            · subst h13
              by_cases hks : ks = 2
              · subst hks
                by_cases hnm : nm = 0
                · subst hnm
                  by_cases htx : tx.size = 0
                  · have tt : decide ((tx.size : Int) > 0) = false := decide_eq_false (by rw [htx]; decide)
                    go_wp2
                    go_roundw
                    case rel => exact ⟨k + 1, by omega, by go_num, HT.out (by simp [Nd.plainb, *]), hb.alloc hb.size _⟩
                    case measure => simp [intOf]; omega
                  · have tt : decide ((tx.size : Int) > 0) = true := by simp; omega
                    go_wp2
                    go_ret
                    exact ⟨by rw [HF.out (by simp [Nd.plainb, *])]; rfl, hb.alloc hb.size _⟩
                · have tn : ((nm : Int) != 0) = true := by simpa using hnm
                  go_wp2
                  go_ret
                  exact ⟨by rw [HF.out (by simp [Nd.plainb, *])]; rfl, hb.alloc hb.size _⟩
              · have ts : ((ks : Int) == 2) = false := by simpa using hks
                go_wp2
                go_ret
                exact ⟨by rw [HF.out (by simp [Nd.plainb, hks])]; rfl, hb.alloc hb.size _⟩
            · have t13 : ((kd : Int) == 13) = false := by simpa using h13
              by_cases h14 : kd = 14
              · subst h14
                by_cases hks : ks = 1
                · subst hks
                  go_wp2
                  go_ret
                  exact ⟨by rw [HF.out (by simp [Nd.plainb])]; rfl, hb.alloc hb.size _⟩
                · have ts : ((ks : Int) != 1) = true := by simpa using hks
                  by_cases hnm : nm = 0
                  · subst hnm
                    by_cases htx : tx.size = 0
                    · have tt : decide ((tx.size : Int) > 0) = false := decide_eq_false (by rw [htx]; decide)
                      go_wp2
                      go_roundw
                      case rel => exact ⟨k + 1, by omega, by go_num, HT.out (by simp [Nd.plainb, *]), hb.alloc hb.size _⟩
                      case measure => simp [intOf]; omega
                    · have tt : decide ((tx.size : Int) > 0) = true := by simp; omega
                      go_wp2
                      go_ret
                      exact ⟨by rw [HF.out (by simp [Nd.plainb, *])]; rfl, hb.alloc hb.size _⟩
                  · have tn : ((nm : Int) != 0) = true := by simpa using hnm
                    go_wp2
                    go_ret
                    exact ⟨by rw [HF.out (by simp [Nd.plainb, *])]; rfl, hb.alloc hb.size _⟩
              · have t14 : ((kd : Int) == 14) = false := by simpa using h14
                go_wp2
                go_ret
                exact ⟨by rw [HF.out (by simp [Nd.plainb]; omega)]; rfl, hb.alloc hb.size _⟩
      · have tp : ((pl : Int) != 0) = true := by simpa using hp
        go_wp2
        go_ret
        exact ⟨by rw [HF.out (by simp [Nd.plainb, hp])]; rfl, hb.alloc hb.size _⟩
    · have HA : Hid (t.all Nd.plainb = true) := by
        have h9 := hall
        rw [List.take_of_length_le (by have := HM.out; omega)] at h9
        exact h9
      clear hall hx
      go_wp2
      go_ret
      exact ⟨by rw [HA.out]; rfl, hb⟩
def typeb (t : List Nd) : Bool := decide (t.length ≤ 300) && decide (0 < deepOf t) && t.all Nd.plainb
theorem Qcx (t : List Nd) (m : Nat) (HM : Hid (t.length = m)) (hm : m ≤ 1048576) (ao : Option Addr) (cap : Nat) (w : World) (hx : Nodes w ao t) :
    Calls Tryz.prog 23 #[.slice ao m cap] w fun e w' => e = .returned (.bool (typeb t)) ∧ Below w.heap.size w w' := by
  by_cases h3 : m ≤ 300
  · have t3 : decide ((m : Int) ≤ 300) = true := decide_eq_true (by omega)
    have HV : Hid (typeb t = (decide (0 < deepOf t) && t.all Nd.plainb)) := by
      have h9 : decide (t.length ≤ 300) = true := decide_eq_true (by have := HM.out; omega)
      simp only [typeb, h9, Bool.true_and, Hid]
    go_enter Tryz.func23, Tryz.ntmps23
    go_wp2_with fail
    refine (Qns t m HM hm ao cap w hx).mono ?_
    rintro e w1 ⟨rfl, hb1⟩
    cases hg : decide (0 < deepOf t)
    · rw [hg] at HV
      have HW : Hid (typeb t = false) := HV.out
      clear HV hx
      go_wp2
      go_ret
      exact ⟨by rw [HW.out]; rfl, hb1⟩
    · rw [hg] at HV
      have hx1 := hx.below hb1
      go_wp2_with fail
      refine (Qre t m HM hm ao cap w1 hx1).mono ?_
      rintro e w2 ⟨rfl, hb2⟩
      have hb := Below.step hb1 hb2
      have HW : Hid (typeb t = t.all Nd.plainb) := HV.out
      clear HV hx hx1 hb1 hb2
      go_wp2
      go_ret
      exact ⟨by rw [HW.out]; rfl, hb⟩
  · have t3 : decide ((m : Int) ≤ 300) = false := decide_eq_false (by omega)
    have HV : Hid (typeb t = false) := by
      have h9 : decide (t.length ≤ 300) = false := decide_eq_false (by have := HM.out; omega)
      simp only [typeb, h9, Bool.false_and, Hid]
    clear hx
    go_enter Tryz.func23, Tryz.ntmps23
    go_wp2
    go_ret
    exact ⟨by rw [HV.out]; rfl, Below.refl _ _⟩
def Longs (w : World) (B g cap : Nat) (n : Nat) (xs : List Int) : Prop := xs.length = n ∧ w.ownsRow B 2 1 (.slice (some ⟨g, 0, none⟩) n cap) n (ints xs)
theorem Tryz.infoL : (Tryz.prog.info? 2).map (fun i => (i.zero, i.size, i.bytes)) = some (some (.int .i64 0), 1, 8) := by kernel_rfl
theorem Longs.at {w : World} {B g cap n : Nat} {xs : List Int} (h : Longs w B g cap n xs) (j : Nat) (hj : j < xs.length) : w.cell? ⟨g, j, none⟩ = some (.int .i64 xs[j]) := by
  rw [Qdu h.2 j (by have := h.1; omega)]
  simp [ints, List.getElem?_eq_getElem hj]
theorem Longs.alloc {w : World} {B g cap n : Nat} {xs : List Int} (h : Longs w B g cap n xs) (o : Obj) : Longs (w.alloc o) B g cap n xs := ⟨h.1, h.2.alloc o⟩
theorem Longs.but {S : Nat → Prop} {w w' : World} {B g cap n : Nat} {xs : List Int} (h : Longs w B g cap n xs) (hb : But S w w') (hn : ¬ S g) : Longs w' B g cap n xs := ⟨h.1, Qah h.2 hb hn⟩
theorem Longs.below {w w' : World} {B g cap n : Nat} {xs : List Int} (h : Longs w B g cap n xs) (hb : Below w.heap.size w w') : Longs w' B g cap n xs := h.but (S := fun _ => False) (But.ofBelow hb) (fun h => h)
theorem Longs.kept {w w' : World} {B g cap n k : Nat} {xs : List Int} (h : Longs w B g cap n xs) (hg : w.grownBy w' (some k)) (hne : g ≠ k) : Longs w' B g cap n xs := ⟨h.1, Qjr h.2 hg hne⟩
theorem Longs.block {w : World} {B g cap n : Nat} {xs : List Int} (h : Longs w B g cap n xs) : B ≤ g ∧ g < w.heap.size := Qad h.2
theorem Longs.empty {w : World} {B : Nat} (hB : B ≤ w.heap.size) : Longs (w.alloc (.cells #[] 2)) B w.heap.size 0 0 [] :=
  ⟨rfl, rfl, Or.inr ⟨_, 0, #[], rfl, hB, heap_alloc_new _ _, Nat.le_refl _, by simp [maxLen], rfl, rfl⟩⟩
theorem Longs.push {w : World} {B g cap n m : Nat} {xs : List Int} {x : Int} (h : w.ownsRow B 2 1 (.slice (some ⟨g, 0, none⟩) m cap) m (ints xs ++ [.int .i64 x])) (hn : xs.length = n) (hm : m = n + 1) : Longs w B g cap (n + 1) (xs ++ [x]) := by
  subst hm
  refine ⟨by simp [hn], ?_⟩
  simpa [ints] using h
theorem Qwe (w : World) (v : Value) : ∀ j u, [v][j]? = some u → (w.alloc (.cells #[v] 2)).cell? (Addr.add ⟨w.heap.size, 0, none⟩ j) = some u := by
  intro j u hj
  match j, hj with
  | 0, hj =>
    simp at hj
    subst hj
    have ad : Addr.add ⟨w.heap.size, 0, none⟩ 0 = ⟨w.heap.size, 0, none⟩ := by unfold Addr.add; simp
    rw [ad, cell_of_row _ w.heap.size 0 _ 2 (0, 0) (heap_alloc_new _ _)]
    rfl
theorem OwnN.but {S : Nat → Prop} {w w' : World} {B g c l : Nat} {zs : List Nd} (h : OwnN w B g c l zs) (hb : But S w w') (hn : ¬ S g) : OwnN w' B g c l zs := ⟨h.1, Qah h.2 hb hn⟩
theorem OwnN.kept {w w' : World} {B g c l k : Nat} {zs : List Nd} (h : OwnN w B g c l zs) (hg : w.grownBy w' (some k)) (hne : g ≠ k) : OwnN w' B g c l zs := ⟨h.1, Qjr h.2 hg hne⟩
theorem OwnN.one {w : World} {B : Nat} (hB : B ≤ w.heap.size) (n : Nd) : OwnN (w.alloc (.cells #[.int .i64 n.kind, .int .i64 n.num, .string n.text, .int .i64 n.kids, .int .i64 n.place] 43)) B w.heap.size 1 1 [n] :=
  ⟨rfl, rfl, Or.inr ⟨_, 1, _, rfl, hB, heap_alloc_new _ _, Nat.le_refl _, by simp [maxLen], rfl, by simp [flat, Nd.row]⟩⟩
def placeIn (met : List Int) (x : Int) : Nat := met.findIdx (· == x)
theorem Qew {met : List Int} {x : Int} {j : Nat} (h : j < met.length) (he : met[j] = x) (hall : ∀ i (h : i < met.length), i < j → met[i] ≠ x) : placeIn met x = j := by
  unfold placeIn
  exact (List.findIdx_eq h).2 ⟨by simp [he], fun i hi => by simpa using hall i (by omega) hi⟩
theorem Qdy {met : List Int} {x : Int} (hall : ∀ i (h : i < met.length), met[i] ≠ x) : placeIn met x = met.length := by
  unfold placeIn
  refine List.findIdx_eq_length.2 ?_
  intro y hy
  obtain ⟨i, hi, rfl⟩ := List.getElem_of_mem hy
  simpa using hall i hi
def Qco (s : List Int × List Nd) (n : Nd) : List Int × List Nd :=
  if n.kind = 61 then (if placeIn s.1 n.num = s.1.length then s.1 ++ [n.num] else s.1, s.2 ++ [{ n with num := (placeIn s.1 n.num : Int) + 1 }])
  else (s.1, s.2 ++ [n])
def Qbd (t : List Nd) (k : Nat) : List Int × List Nd := (t.take k).foldl Qco ([], [])
def Qab (t : List Nd) : List Nd := if typeb t then (Qbd t t.length).2 else []
theorem Qit (t : List Nd) (k : Nat) (h : k < t.length) : Qbd t (k + 1) = Qco (Qbd t k) t[k] := by
  unfold Qbd
  rw [List.take_succ_eq_append_getElem h, List.foldl_append]
  rfl
theorem Qdw (t : List Nd) (k : Nat) (h : k ≤ t.length) : (Qbd t k).2.length = k ∧ (Qbd t k).1.length ≤ k := by
  induction k with
  | zero => simp [Qbd]
  | succ k ih =>
    obtain ⟨h1, h2⟩ := ih (by omega)
    rw [Qit t k (by omega)]
    unfold Qco
    split
    · refine ⟨by simp [h1], ?_⟩
      simp only
      split
      · simp; omega
      · omega
    · exact ⟨by simp [h1], by simp only; omega⟩
theorem Qan (w : World) (n : Nat) : Below w.heap.size w (w.drewN n) := ⟨rfl, rfl, rfl, Nat.le_refl _, fun _ _ => rfl⟩
theorem Qru {w W : World} {g c k gm cm l z : Nat} {out : List Nd} {met : List Int} (ho : OwnN W w.heap.size g c k out) (hm : Longs W w.heap.size gm cm l met) (hb : Below w.heap.size w W) (hz : w.heap.size ≤ z) (hg : g ≠ z) (hgm : gm ≠ z) (v : Int) (tx : ByteArray) (ks pl : Int) :
    OwnN ((W.setCell ⟨z, 1, none⟩ (.int .i64 v)).alloc (.cells #[.int .i64 61, .int .i64 v, .string tx, .int .i64 ks, .int .i64 pl] 43)) w.heap.size g c k out ∧
      Longs ((W.setCell ⟨z, 1, none⟩ (.int .i64 v)).alloc (.cells #[.int .i64 61, .int .i64 v, .string tx, .int .i64 ks, .int .i64 pl] 43)) w.heap.size gm cm l met ∧
      Below w.heap.size w ((W.setCell ⟨z, 1, none⟩ (.int .i64 v)).alloc (.cells #[.int .i64 61, .int .i64 v, .string tx, .int .i64 ks, .int .i64 pl] 43)) ∧
      ∀ j u, (Nd.row ⟨61, v, tx, ks, pl⟩)[j]? = some u → ((W.setCell ⟨z, 1, none⟩ (.int .i64 v)).alloc (.cells #[.int .i64 61, .int .i64 v, .string tx, .int .i64 ks, .int .i64 pl] 43)).cell? (Addr.add ⟨W.heap.size, 0, none⟩ j) = some u := by
  have b3 : But (· = z) W (W.setCell ⟨z, 1, none⟩ (.int .i64 v)) := (But.refl (· = z) W).setCell (p := ⟨z, 1, none⟩) rfl _
  have hs : (W.setCell ⟨z, 1, none⟩ (.int .i64 v)).heap.size = W.heap.size := by simp
  have h1 := (ho.but b3 hg).alloc (.cells #[.int .i64 61, .int .i64 v, .string tx, .int .i64 ks, .int .i64 pl] 43)
  have h2 := (hm.but b3 hgm).alloc (.cells #[.int .i64 61, .int .i64 v, .string tx, .int .i64 ks, .int .i64 pl] 43)
  have h3 : Below w.heap.size w (W.setCell ⟨z, 1, none⟩ (.int .i64 v)) := hb.trans (b3.below hb.size (fun k hk => by omega))
  have h4 := Qbj (W.setCell ⟨z, 1, none⟩ (.int .i64 v)) ⟨61, v, tx, ks, pl⟩
  rw [hs] at h4
  exact ⟨h1, h2, h3.alloc h3.size _, h4⟩
theorem Qet (t : List Nd) (m : Nat) (HM : Hid (t.length = m)) (hm : m ≤ 1048576) (ao : Option Addr) (cap : Nat) (w : World) (hx : Nodes w ao t) :
    Calls Tryz.prog 16 #[.slice ao m cap] w fun e w' => ∃ g c l, e = .returned (.slice (some ⟨g, 0, none⟩) l c) ∧ w.heap.size ≤ g ∧ (Qab t).length = l ∧ Row w' g (Qab t) ∧ Below w.heap.size w w' := by
  obtain ⟨i0, hi, hz0, hz1, hz2⟩ := info_parts Tryz.infoN
  obtain ⟨i1, hj1, hy0, hy1, hy2⟩ := info_parts Tryz.infoL
  go_enter Tryz.func16, Tryz.ntmps16
  have hA : Below w.heap.size w (w.alloc (.cells #[] 43)) := (Below.refl _ w).alloc (Nat.le_refl _) _
  have hO := OwnN.empty (w := w) (B := w.heap.size) (Nat.le_refl _)
  go_wp2_with fail
  refine (Qcx t m HM hm ao cap _ (hx.below hA)).mono ?_
  rintro e w1 ⟨rfl, hb1⟩
  have hO1 := hO.below hb1
  have hb := Below.step hA hb1
  have hx1 := hx.below hb
  clear hO hA hb1
  cases ht : typeb t
  · have HV : Hid (Qab t = []) := by simp only [Qab, ht, Hid]; rfl
    clear hx1 hx
    obtain ⟨hg, hr⟩ := hO1.row
    clear hO1
    go_wp2
    go_ret
    exact ⟨_, _, _, rfl, hg, by rw [HV.out]; rfl, by rw [HV.out]; exact hr, hb⟩
  · have HV : Hid (Qab t = (Qbd t m).2) := by simp only [Qab, ht, Hid, if_true, HM.out]
    have h3 : m ≤ 300 := by
      have h9 := ht
      simp only [typeb, Bool.and_eq_true, decide_eq_true_eq] at h9
      have := HM.out
      omega
    clear ht
    have hL0 := Longs.empty (w := w1) (B := w.heap.size) hb.size
    have hO2 := hO1.alloc (.cells #[] 2)
    have hb2 := hb.alloc hb.size (.cells #[] 2)
    have hsw : w.heap.size < w1.heap.size := (Qad hO1.2).2
    go_wp2
    go_loopw [3, 4, 5] (fun vo vm p wr => ∃ (k g c gm cm l : Nat), k ≤ m ∧ p = .int .i64 k ∧ vo = .slice (some ⟨g, 0, none⟩) k c ∧ vm = .slice (some ⟨gm, 0, none⟩) l cm ∧ OwnN wr w.heap.size g c k (Qbd t k).2 ∧ Longs wr w.heap.size gm cm l (Qbd t k).1 ∧ g ≠ gm ∧ Below w.heap.size w wr) (fun _ _ p _ => m - (intOf p).toNat)
    case atStart => exact ⟨0, w.heap.size, 0, w1.heap.size, 0, 0, Nat.zero_le _, rfl, rfl, rfl, hO2, hL0, by omega, hb2⟩
    case round =>
      clear hO1 hO2 hL0 hb2 hx1 hb hsw
      obtain ⟨k, g, c, gm, cm, l, hk, rfl, rfl, rfl, hown, hmet, hne, hbr⟩ := hrel
      by_cases hlt : k < m
      · have hltx : k < t.length := by have := HM.out; omega
        obtain ⟨⟨kd, nm, tx, ks, pl⟩, hxk⟩ : ∃ x, t[k] = x := ⟨_, rfl⟩
        obtain ⟨b, o, rfl, hcx⟩ := hx.below hbr k hltx
        rw [hxk] at hcx
        obtain ⟨c0, c1, c2, c3, c4⟩ := hcx
        simp only at c0 c1 c2 c3 c4
        have hlb : b < wr.heap.size := Qaa c0
        have hob := Qad hown.2
        have hmb := hmet.block
        have HS : Hid (Qbd t (k + 1) = Qco (Qbd t k) ⟨kd, nm, tx, ks, pl⟩) := by
          show Qbd t (k + 1) = _
          rw [Qit t k hltx, hxk]
        obtain ⟨⟨met, out⟩, hst⟩ : ∃ s, Qbd t k = s := ⟨_, rfl⟩
        rw [hst] at hown hmet HS
        simp only at hown hmet
        have hll : l ≤ k := by
          have h9 := (Qdw t k (by omega)).2
          rw [hst] at h9
          have := hmet.1
          simp only at h9
          omega
        clear hx hxk hst
        by_cases h61 : kd = 61
        · subst h61
          have hbox := OwnN.one (w := wr) (B := w.heap.size) hbr.size ⟨61, nm, tx, ks, pl⟩
          have hbr0 := hbr.alloc hbr.size (.cells #[.int .i64 61, .int .i64 nm, .string tx, .int .i64 ks, .int .i64 pl] 43)
          have hown0 := hown.alloc (.cells #[.int .i64 61, .int .i64 nm, .string tx, .int .i64 ks, .int .i64 pl] 43)
          have hmet0 := hmet.alloc (.cells #[.int .i64 61, .int .i64 nm, .string tx, .int .i64 ks, .int .i64 pl] 43)
          clear hown hmet
          go_wp2
          obtain ⟨W0, hW0⟩ : ∃ W0, (wr.alloc (.cells #[.int .i64 61, .int .i64 nm, .string tx, .int .i64 ks, .int .i64 pl] 43)) = W0 := ⟨_, rfl⟩
          have hs0 : W0.heap.size = wr.heap.size + 1 := by rw [← hW0]; simp
          rw [hW0] at hbox hbr0 hown0 hmet0 ⊢
          obtain ⟨z, hz⟩ : ∃ z, wr.heap.size = z := ⟨_, rfl⟩
          rw [hz] at hbox hs0 hlb hob hmb ⊢
          clear hW0 hbr hz c0 c1 c2 c3 c4
          go_loopw [7] (fun i wq => ∃ (j : Nat), j ≤ l ∧ i = .int .i64 j ∧ (∀ i (h : i < met.length), i < j → met[i] ≠ nm) ∧ Below W0.heap.size W0 wq) (fun i _ => l - (intOf i).toNat)
          case atStart => exact ⟨0, Nat.zero_le _, rfl, fun i _ h => absurd h (by omega), Below.refl _ _⟩
          case round =>
            obtain ⟨j, hj, rfl, hall, hq⟩ := hrel
            have hbox1 := hbox.below hq
            have hown1 := hown0.below hq
            have hmet1 := hmet0.below hq
            have hbq := Below.step hbr0 hq
            have hzq : z + 1 ≤ wr.heap.size := by have := hq.size; omega
            have hbx := hbox1.row.2
            have hbn := hbx.node 0 (by simp)
            obtain ⟨d0, d1, d2, d3, d4⟩ := hbn
            simp only [List.getElem_cons_zero, Nat.zero_mul, Nat.zero_add] at d0 d1 d2 d3 d4
            clear hbox hown0 hmet0
            by_cases hjl : j < l
            · have hjm : j < met.length := by have := hmet1.1; omega
              have cm1 := hmet1.at j hjm
              by_cases hee : met[j] = nm
              · have tne : (met[j] != nm) = false := by simpa using hee
                have HP : Hid (placeIn met nm = j) := Qew hjm hee hall
                have HT : Hid (Qbd t (k + 1) = (met, out ++ [⟨61, (j : Int) + 1, tx, ks, pl⟩])) := by
                  show Qbd t (k + 1) = _
                  rw [HS.out]
                  have h9 : ¬ j = met.length := by omega
                  simp [Qco, HP.out, h9]
                have tjl : ((j : Int) == (l : Int)) = false := by simp; omega
                rw [hee] at cm1 tne
                have tnn : (nm != nm) = false := tne
                clear hall hee tne
                go_wp2_with fail
                go_quiet (fail)
                have hdr := Qan wr nq
                have hown2 := hown1.below hdr
                have hmet2 := hmet1.below hdr
                have hbq2 := Below.step hbq hdr
                have hsz2 : z + 1 ≤ (wr.drewN nq).heap.size := hzq
                replace hbx := hbx.below hdr
                clear hdr hown1 hmet1 hbox1 d0 d1 d2 d3 d4 cm1 hq hbq
                obtain ⟨d0, d1, d2, d3, d4⟩ := hbx.node 0 (by simp)
                simp only [List.getElem_cons_zero, Nat.zero_mul, Nat.zero_add] at d0 d1 d2 d3 d4
                generalize wr.drewN nq = W2 at *
                obtain ⟨hown3, hmet3, hb3, hcells⟩ := Qru hown2 hmet2 hbq2 (z := z) (by omega) (by omega) (by omega) ((j : Int) + 1) tx ks pl
                have hfz := hbx.frozen 1
                have hsq := hbq2.size
                clear hbx hown2 hmet2 
                go_wp2_with (at_builtin; refine Qac _ rfl (.tmp 54) (.tmp 56) 23 rfl w.heap.size 43 i0 _ 5 48 Tryz.underlying23 hi hz0 hz1 hz2 rfl (by decide) g k c _ rfl hown3.2 ⟨_, 0, none⟩ 1 1 (Nd.row ⟨61, (j : Int) + 1, tx, ks, pl⟩) rfl rfl hcells (Qbp _) ?a3 ?a4 ?a5 ?_)
                case a3 => unfold maxLen; omega
                case a4 => omega
                case a5 => simp; omega
                intro g2 c2' w2 hown4 hgrow2 hwh
                have hO := OwnN.push hown4 hown3.1 rfl
                have hbb : Below w.heap.size w w2 := hb3.grown hgrow2 (by simp; omega) (fun q hq => by cases hq; exact hob.1)
                have hM := hmet3.kept hgrow2 (by omega)
                have hne2 : g2 ≠ gm := by rcases hwh with h | h <;> (try simp at h) <;> omega
                clear hown4 hgrow2 hwh hown3 hmet3 hb3 d0 d1 d2 d3 d4 hcells
                go_wp2
                go_roundw
                case rel => exact ⟨k + 1, g2, c2', gm, cm, l, by omega, by go_num, rfl, rfl, by rw [HT.out]; exact hO, by rw [HT.out]; exact hM, hne2, hbb⟩
                case measure => simp [intOf]; omega
              · have tne : (met[j] != nm) = true := by simpa using hee
                obtain ⟨v, hv⟩ : ∃ v, met[j] = v := ⟨_, rfl⟩
                have HA : Hid (∀ i (h : i < met.length), i < j + 1 → met[i] ≠ nm) := by
                  intro i h hi
                  by_cases e : i = j
                  · subst e; exact hee
                  · exact hall i h (by omega)
                rw [hv] at cm1 tne
                clear hall hee hv
                go_wp2_with fail
                go_quiet (fail)
                go_wp2
                go_roundw
                case rel => exact ⟨j + 1, by omega, by go_num, HA.out, Below.step hq (Qan _ _)⟩
                case measure => simp [intOf]; omega
            · have HJ : Hid (j = l) := by show j = l; omega
              have HP : Hid (placeIn met nm = j) := by
                show placeIn met nm = j
                rw [Qdy (fun i h => hall i h (by have := hmet1.1; omega)), hmet1.1, HJ.out]
              have HT : Hid (Qbd t (k + 1) = (met ++ [nm], out ++ [⟨61, (j : Int) + 1, tx, ks, pl⟩])) := by
                show Qbd t (k + 1) = _
                rw [HS.out]
                have h9 : j = met.length := by have := hmet1.1; have := HJ.out; omega
                simp [Qco, HP.out, h9]
              have tjl : ((j : Int) == (l : Int)) = true := by have := HJ.out; simp; omega
              have tlt : decide ((j : Int) < (l : Int)) = false := by have := HJ.out; simp; omega
              clear hall
              go_wp2_with fail
              go_quiet (fail)
              have hdr := Qan wr nq
              have hown2 := hown1.below hdr
              have hmet2 := hmet1.below hdr
              have hbox2 := hbox1.below hdr
              have hbq2 := Below.step hbq hdr
              have hsz2 : z + 1 ≤ (wr.drewN nq).heap.size := hzq
              replace hbx := hbx.below hdr
              clear hdr hown1 hmet1 hbox1 d0 d1 d2 d3 d4 hq hbq
              obtain ⟨d0, d1, d2, d3, d4⟩ := hbx.node 0 (by simp)
              simp only [List.getElem_cons_zero, Nat.zero_mul, Nat.zero_add] at d0 d1 d2 d3 d4
              generalize wr.drewN nq = W2 at *
              have hone := Qwe W2 (.int .i64 nm)
              have hsq2 := hbq2.size
              go_wp2_with (at_builtin; refine Qac _ rfl (.tmp 46) (.tmp 49) 75 rfl w.heap.size 2 i1 _ 1 8 Tryz.underlying75 hj1 hy0 hy1 hy2 rfl (by decide) gm l cm _ rfl (hmet2.alloc _).2 ⟨_, 0, none⟩ 1 1 [.int .i64 nm] rfl rfl hone (Qeh _) ?b3 ?b4 ?b5 ?_)
              case b3 => unfold maxLen; omega
              case b4 => omega
              case b5 => simp; omega
              intro gm2 cm2 w5 hm5 hgrow5 hwh5
              have hmet5 := Longs.push hm5 hmet2.1 rfl
              have hown5 := (hown2.alloc _).kept hgrow5 hne
              have hbox5 := (hbox2.alloc _).kept hgrow5 (by omega)
              have hbq5 : Below w.heap.size w w5 := (hbq2.alloc hbq2.size _).grown hgrow5 (by simp; omega) (fun q hq => by cases hq; exact hmb.1)
              have hgb5 := hmet5.block
              have hzb5 := Qad hbox5.2
              have hob5 := Qad hown5.2
              have hne5 : gm2 ≠ z := by rcases hwh5 with h | h <;> (try simp at h) <;> omega
              have hne6 : gm2 ≠ g := by rcases hwh5 with h | h <;> (try simp at h) <;> omega
              replace hbx := hbox5.row.2
              clear hm5 hgrow5 hwh5 hown2 hmet2 hbox2 d0 d1 d2 d3 d4 hbq2 hone hbox5
              obtain ⟨d0, d1, d2, d3, d4⟩ := hbx.node 0 (by simp)
              simp only [List.getElem_cons_zero, Nat.zero_mul, Nat.zero_add] at d0 d1 d2 d3 d4
              obtain ⟨hown3, hmet3, hb3, hcells⟩ := Qru hown5 hmet5 hbq5 (z := z) (by omega) (by omega) (by omega) ((j : Int) + 1) tx ks pl
              have hfz := hbx.frozen 1
              have hsq := hbq5.size
              clear hbx hown5 hmet5 
              go_wp2_with (at_builtin; refine Qac _ rfl (.tmp 54) (.tmp 56) 23 rfl w.heap.size 43 i0 _ 5 48 Tryz.underlying23 hi hz0 hz1 hz2 rfl (by decide) g k c _ rfl hown3.2 ⟨_, 0, none⟩ 1 1 (Nd.row ⟨61, (j : Int) + 1, tx, ks, pl⟩) rfl rfl hcells (Qbp _) ?a3 ?a4 ?a5 ?_)
              case a3 => unfold maxLen; omega
              case a4 => omega
              case a5 => simp; omega
              intro g2 c2' w2 hown4 hgrow2 hwh
              have hO := OwnN.push hown4 hown3.1 rfl
              have hbb : Below w.heap.size w w2 := hb3.grown hgrow2 (by simp; omega) (fun q hq => by cases hq; exact hob.1)
              have hM := hmet3.kept hgrow2 (by omega)
              have hne2 : g2 ≠ gm2 := by rcases hwh with h | h <;> (try simp at h) <;> omega
              clear hown4 hgrow2 hwh hown3 hmet3 hb3 d0 d1 d2 d3 d4 hcells
              go_wp2
              go_roundw
              case rel => exact ⟨k + 1, g2, c2', gm2, cm2, (l + 1), by omega, by go_num, rfl, rfl, by rw [HT.out]; exact hO, by rw [HT.out]; exact hM, hne2, hbb⟩
              case measure => simp [intOf]; omega
        · have t61 : ((kd : Int) == 61) = false := by simpa using h61
          have HT : Hid (Qbd t (k + 1) = (met, out ++ [⟨kd, nm, tx, ks, pl⟩])) := by
            show Qbd t (k + 1) = _
            rw [HS.out]
            simp [Qco, h61]
          clear h61
          have hcells := Qbj (wr.alloc (.cells #[.int .i64 kd, .int .i64 nm, .string tx, .int .i64 ks, .int .i64 pl] 43)) ⟨kd, nm, tx, ks, pl⟩
          rw [World.size_alloc] at hcells
          go_wp2_with (at_builtin; refine Qac _ rfl (.tmp 54) (.tmp 56) 23 rfl w.heap.size 43 i0 _ 5 48 Tryz.underlying23 hi hz0 hz1 hz2 rfl (by decide) g k c _ rfl ((hown.alloc _).alloc _).2 ⟨_, 0, none⟩ 1 1 (Nd.row ⟨kd, nm, tx, ks, pl⟩) rfl rfl hcells (Qbp _) ?a3 ?a4 ?a5 ?_)
          case a3 => unfold maxLen; omega
          case a4 => omega
          case a5 => have := hbr.size; simp; omega
          intro g2 c2' w2 hown2 hgrow2 hwh
          have hO := OwnN.push hown2 hown.1 rfl
          have hbb : Below w.heap.size w w2 := ((hbr.alloc hbr.size _).alloc (by have := hbr.size; simp; omega) _).grown hgrow2 (by have := hbr.size; simp; omega) (fun q hq => by cases hq; exact hob.1)
          have hM := ((hmet.alloc _).alloc _).kept hgrow2 (Ne.symm hne)
          have hne2 : g2 ≠ gm := by rcases hwh with h | h <;> (try simp at h) <;> omega
          clear hown2 hgrow2 hwh hown hmet hbr c0 c1 c2 c3 c4
          go_wp2
          go_roundw
          case rel => exact ⟨k + 1, g2, c2', gm, cm, l, by omega, by go_num, rfl, rfl, by rw [HT.out]; exact hO, by rw [HT.out]; exact hM, hne2, hbb⟩
          case measure => simp [intOf]; omega
      · have hke : k = m := by omega
        subst hke
        obtain ⟨hg, hr⟩ := hown.row
        have HL : Hid ((Qbd t k).2.length = k) := hown.1
        clear hown hmet hx
        go_wp2
        go_ret
        exact ⟨_, _, _, rfl, hg, by rw [HV.out]; exact HL.out, by rw [HV.out]; exact hr, hbr⟩
end Go.Proofs.YtoiiibplkhedcaaGreatDoor
