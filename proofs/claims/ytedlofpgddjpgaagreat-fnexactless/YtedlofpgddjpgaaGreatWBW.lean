import Derived.Test.YtedlofpgddjpgaaGreatLLs
import Derived.Test.YtedlofpgddjpgaaGreatWBU
namespace Go.Proofs.YtedlofpgddjpgaaGreat
open Go.RowKit
theorem Tryz.infoB4 : (Tryz.prog.info? 4).map (fun i => (i.zero, i.size, i.bytes)) = some (some (.bool false), 1, 1) := by kernel_rfl
theorem made_ints1 (n : Nat) : ∀ j, j < n → (madeCells #[.int .i64 0] n)[j]? = some (.int .i64 0) := by
  intro j hj
  simp [madeCells, hj, Nat.mod_one]
theorem made_bools1 (n : Nat) : ∀ j, j < n → (madeCells #[.bool false] n)[j]? = some (.bool false) := by
  intro j hj
  simp [madeCells, hj, Nat.mod_one]
theorem mkInts (n : Nat) (hn : n = 200001) : ∃ c : Array Value, c.size = n ∧ (∀ j, j < n → c[j]? = some (.int .i64 0)) ∧ ∀ w : World, (Instr.makeSlice 46 (.int .i64 (n : Int)) (.int .i64 (n : Int))).run Tryz.prog w = .ok (.slice (some ⟨w.heap.size, 0, none⟩) n n) (w.alloc (.cells c 3)) := by
  obtain ⟨i, hi, hzz⟩ := Option.map_eq_some_iff.1 Tryz.infoI
  simp only [Prod.mk.injEq] at hzz
  obtain ⟨hz, hs, hb⟩ := hzz
  refine ⟨madeCells #[.int .i64 0] n, by simp [madeCells], made_ints1 n, fun w => ?_⟩
  have hr := run_make (P := Tryz.prog) w 46 3 i _ Tryz.underlying46 hi hz .i64 .i64 n n (by omega) (by omega) (by rw [hb]; omega) (by omega)
  simp only [Int.toNat_natCast, hs, Nat.mul_one] at hr
  exact hr
theorem mkBools (n : Nat) (hn : n = 200001) : ∃ c : Array Value, c.size = n ∧ (∀ j, j < n → c[j]? = some (.bool false)) ∧ ∀ w : World, (Instr.makeSlice 54 (.int .i64 (n : Int)) (.int .i64 (n : Int))).run Tryz.prog w = .ok (.slice (some ⟨w.heap.size, 0, none⟩) n n) (w.alloc (.cells c 4)) := by
  obtain ⟨i, hi, hzz⟩ := Option.map_eq_some_iff.1 Tryz.infoB4
  simp only [Prod.mk.injEq] at hzz
  obtain ⟨hz, hs, hb⟩ := hzz
  refine ⟨madeCells #[.bool false] n, by simp [madeCells], made_bools1 n, fun w => ?_⟩
  have hr := run_make (P := Tryz.prog) w 54 4 i _ Tryz.underlying54 hi hz .i64 .i64 n n (by omega) (by omega) (by rw [hb]; omega) (by omega)
  simp only [Int.toNat_natCast, hs, Nat.mul_one] at hr
  exact hr
theorem mkTrees (n : Nat) (hn : n = 200001) : ∃ c : Array Value, c.size = n * 7 ∧ ∀ w : World, (Instr.makeSlice 53 (.int .i64 (n : Int)) (.int .i64 (n : Int))).run Tryz.prog w = .ok (.slice (some ⟨w.heap.size, 0, none⟩) n n) (w.alloc (.cells c 59)) := by
  obtain ⟨i, hi, hzz⟩ := Option.map_eq_some_iff.1 Tryz.infoT14
  simp only [Prod.mk.injEq] at hzz
  obtain ⟨hz, hs, hb⟩ := hzz
  refine ⟨madeCells #[.int .i64 0, .int .i64 0, .string ByteArray.empty, .int .i64 0, .int .i64 0, .slice none 0 0, .bool false] (n * 7), by simp [madeCells], fun w => ?_⟩
  have hr := run_make (P := Tryz.prog) w 53 59 i _ Tryz.underlying53 hi hz .i64 .i64 n n (by omega) (by omega) (by rw [hb]; omega) (by omega)
  simp only [Int.toNat_natCast, hs] at hr
  exact hr
structure Mk (w0 : World) (K : Nat → World → Nat → Prop) (B : Nat → Option Nat) (w : World) : Prop where
  below : Below w0.heap.size w0 w
  lt : ∀ i a, B i = some a → w0.heap.size ≤ a ∧ a < w.heap.size
  ne : ∀ i j a, i ≠ j → B i = some a → B j ≠ some a
  k : ∀ i a, B i = some a → K i w a
theorem Mk.add {w0 w w' : World} {K K' : Nat → World → Nat → Prop} {B B' : Nat → Option Nat} (h : Mk w0 K B w) (i a : Nat) (hb : Below w.heap.size w w') (ha : w.heap.size ≤ a) (ha' : a < w'.heap.size) (hk : K' i w' a)
    (hst : ∀ j b, j ≠ i → K j w b → b < w.heap.size → K' j w' b) (hB : B' i = some a) (hB2 : ∀ j, j ≠ i → B' j = B j) : Mk w0 K' B' w' := by
  have hs := h.below.size
  refine ⟨Below.step h.below hb, fun j b hj => ?_, fun j l b hjl hj hl => ?_, fun j b hj => ?_⟩
  · by_cases e : j = i
    · subst e
      rw [hB] at hj
      cases hj
      omega
    · rw [hB2 j e] at hj
      have := h.lt j b hj
      have := hb.size
      omega
  · by_cases e : j = i
    · subst e
      rw [hB] at hj
      cases hj
      rw [hB2 l (fun e => hjl e.symm)] at hl
      have := h.lt l a hl
      omega
    · rw [hB2 j e] at hj
      by_cases e2 : l = i
      · subst e2
        rw [hB] at hl
        cases hl
        have := h.lt j a hj
        omega
      · rw [hB2 l e2] at hl
        exact h.ne j l b hjl hj hl
  · by_cases e : j = i
    · subst e
      rw [hB] at hj
      cases hj
      exact hk
    · rw [hB2 j e] at hj
      exact hst j b e (h.k j b hj) (h.lt j b hj).2
def six (b2 b3 b4 b5 b6 b8 : Option Nat) (j : Nat) : Option Nat := if j = 2 then b2 else if j = 3 then b3 else if j = 4 then b4 else if j = 5 then b5 else if j = 6 then b6 else if j = 8 then b8 else none
def mkV (n c : Nat) : Option Nat → Value
  | none => undef
  | some a => .slice (some ⟨a, 0, none⟩) n c
def mkP : Option Nat → Value
  | none => undef
  | some a => .pointer (some ⟨a, 0, none⟩)
def cntN (b : Option Nat) : Nat := if b.isSome then 0 else 1
def PK (m : Nat) (szs : List Int) (ci ct cb : Array Value) (cz : Nat) (xs : Array Value) (j : Nat) (w : World) (a : Nat) : Prop :=
  if j = 2 then ∃ Bz, Ints w Bz a cz m szs
  else if j = 3 ∨ j = 4 then w.heap[a]? = some (.cells ci 3 (0, 0))
  else if j = 5 then w.heap[a]? = some (.cells ct 59 (0, 0))
  else if j = 6 then w.heap[a]? = some (.cells cb 4 (0, 0))
  else w.heap[a]? = some (.cells xs 56 (0, 0))
theorem PK.keep {m : Nat} {szs : List Int} {ci ct cb xs : Array Value} {cz cz' : Nat} {w w' : World} {j b : Nat} (h : PK m szs ci ct cb cz xs j w b) (hb : Below w.heap.size w w') (hl : b < w.heap.size) (hj : j ≠ 2 ∨ cz = cz') : PK m szs ci ct cb cz' xs j w' b := by
  unfold PK at h ⊢
  have h9 := hb.block b hl
  by_cases e2 : j = 2
  · rw [if_pos e2] at h ⊢
    obtain ⟨Bz, h1⟩ := h
    have : cz = cz' := by rcases hj with h | h; exact absurd e2 h; exact h
    subst this
    exact ⟨Bz, h1.below hb⟩
  · rw [if_neg e2] at h ⊢
    split
    · next h3 => rw [if_pos h3] at h; exact h9.trans h
    · next h3 =>
      rw [if_neg h3] at h
      split
      · next h5 => rw [if_pos h5] at h; exact h9.trans h
      · next h5 =>
        rw [if_neg h5] at h
        split
        · next h6 => rw [if_pos h6] at h; exact h9.trans h
        · next h6 => rw [if_neg h6] at h; exact h9.trans h
theorem PK.turn {m : Nat} {szs : List Int} {ci ct cb xs xs' : Array Value} {cz : Nat} {w w' : World} {j b g : Nat} (h : PK m szs ci ct cb cz xs j w b) (hb : But (· = g) w w') (hg : b ≠ g) (hl : b < w.heap.size) (h8 : j ≠ 8) (hj : j = 2 ∨ j = 3 ∨ j = 4 ∨ j = 5 ∨ j = 6 ∨ j = 8) : PK m szs ci ct cb cz xs' j w' b := by
  unfold PK at h ⊢
  have h9 := hb.block b hl hg
  rcases hj with rfl | rfl | rfl | rfl | rfl | rfl
  · rw [if_pos rfl] at h ⊢
    obtain ⟨Bz, h1⟩ := h
    exact ⟨Bz, h1.butL hb hg⟩
  · rw [if_neg (by decide), if_pos (by decide)] at h ⊢
    exact h9.trans h
  · rw [if_neg (by decide), if_pos (by decide)] at h ⊢
    exact h9.trans h
  · rw [if_neg (by decide), if_neg (by decide), if_pos (by decide)] at h ⊢
    exact h9.trans h
  · rw [if_neg (by decide), if_neg (by decide), if_neg (by decide), if_pos (by decide)] at h ⊢
    exact h9.trans h
  · exact absurd rfl h8
theorem But.ofHead {w0 a b : World} {g : Nat} (k : But (· = g) a b) (h : Below w0.heap.size w0 a) (hg : w0.heap.size ≤ g) : Below w0.heap.size w0 b :=
  ⟨k.os.trans h.os, k.tape.trans h.tape, k.output.trans h.output, Nat.le_trans h.size k.size, fun i hi => (k.block i (Nat.lt_of_lt_of_le hi h.size) (by omega)).trans (h.block i hi)⟩
theorem set6 {w : World} {g t : Nat} {x0 x1 x2 x3 x4 x5 : Value} (h : w.heap[g]? = some (.cells #[x0, x1, x2, x3, x4, x5] t (0, 0))) (a0 a1 a2 a3 a4 a5 : Value) :
    ((((((w.setCell ⟨g, 0, none⟩ a0).setCell ⟨g, 1, none⟩ a1).setCell ⟨g, 2, none⟩ a2).setCell ⟨g, 3, none⟩ a3).setCell ⟨g, 4, none⟩ a4).setCell ⟨g, 5, none⟩ a5).heap[g]? = some (.cells #[a0, a1, a2, a3, a4, a5] t (0, 0)) := by
  rw [heap_setCell_same _ _ _ _ _ _ (heap_setCell_same _ _ _ _ _ _ (heap_setCell_same _ _ _ _ _ _ (heap_setCell_same _ _ _ _ _ _ (heap_setCell_same _ _ _ _ _ _ (heap_setCell_same _ _ _ _ _ _ h)))))]
  rfl
theorem set6_but {w : World} {g : Nat} (a0 a1 a2 a3 a4 a5 : Value) :
    But (· = g) w ((((((w.setCell ⟨g, 0, none⟩ a0).setCell ⟨g, 1, none⟩ a1).setCell ⟨g, 2, none⟩ a2).setCell ⟨g, 3, none⟩ a3).setCell ⟨g, 4, none⟩ a4).setCell ⟨g, 5, none⟩ a5) :=
  ((((((But.refl (· = g) w).setCell (p := ⟨g, 0, none⟩) rfl _).setCell (p := ⟨g, 1, none⟩) rfl _).setCell (p := ⟨g, 2, none⟩) rfl _).setCell (p := ⟨g, 3, none⟩) rfl _).setCell (p := ⟨g, 4, none⟩) rfl _).setCell (p := ⟨g, 5, none⟩) rfl _
theorem six_mem {b2 b3 b4 b5 b6 b8 : Option Nat} {i a : Nat} (h : six b2 b3 b4 b5 b6 b8 i = some a) : i = 2 ∨ i = 3 ∨ i = 4 ∨ i = 5 ∨ i = 6 ∨ i = 8 := by
  by_cases e : i = 2 ∨ i = 3 ∨ i = 4 ∨ i = 5 ∨ i = 6 ∨ i = 8
  · exact e
  · exfalso
    unfold six at h
    rw [if_neg (by omega), if_neg (by omega), if_neg (by omega), if_neg (by omega), if_neg (by omega), if_neg (by omega)] at h
    cases h
end Go.Proofs.YtedlofpgddjpgaaGreat

namespace Go.Proofs.YtedlofpgddjpgaaGreat
open Go.RowKit
def bndK (k : Int) : Bool := k == 76 || k == 80 || k == 82 || k == 90 || k == 91
def cntK (p : Int → Bool) (t : List Nd) (x : Int) : Nat := if 1 ≤ x then (t.filter fun n => p n.kind && n.num == x).length else 0
theorem cntK_push (p : Int → Bool) (t : List Nd) (n : Nd) (x : Int) : cntK p (t ++ [n]) x = cntK p t x + (if 1 ≤ x ∧ p n.kind = true ∧ n.num = x then 1 else 0) := by
  unfold cntK
  by_cases h : 1 ≤ x
  · rw [if_pos h, if_pos h, List.filter_append, List.length_append]
    by_cases h2 : p n.kind = true ∧ n.num = x
    · rw [if_pos ⟨h, h2⟩]
      simp [h2.1, h2.2]
    · rw [if_neg (fun h9 => h2 h9.2)]
      have : (p n.kind && n.num == x) = false := by
        rw [Bool.eq_false_iff]
        intro h9
        simp at h9
        exact h2 h9
      simp [this]
  · rw [if_neg h, if_neg h, if_neg (fun h9 => h h9.1)]
theorem cntK_skip {p : Int → Bool} (t : List Nd) (n : Nd) (h : n.num < 1 ∨ p n.kind = false) : cntK p (t ++ [n]) = cntK p t := by
  funext x
  rw [cntK_push, if_neg]
  · rfl
  · rintro ⟨h1, h2, h3⟩
    rcases h with h | h
    · omega
    · rw [h] at h2; cases h2
def RowC (w : World) (b : Nat) (f : Int → Nat) : Prop := ∃ cur : Array Value, w.heap[b]? = some (.cells cur 3 (0, 0)) ∧ cur.size = 200001 ∧ ∀ n : Nat, n ≤ 200000 → cur[n]? = some (.int .i64 (f (n : Int) : Int))
theorem RowC.start {w : World} {b : Nat} {c : Array Value} {p : Int → Bool} {t : List Nd} (h : w.heap[b]? = some (.cells c 3 (0, 0))) (hs : c.size = 200001) (hc : ∀ j, j < 200001 → c[j]? = some (.int .i64 0)) : RowC w b (cntK p (t.take 0)) := by
  refine ⟨c, h, hs, fun n hn => ?_⟩
  rw [hc n (by omega)]
  simp [cntK]
theorem RowC.but {S : Nat → Prop} {w w' : World} {b : Nat} {f : Int → Nat} (h : RowC w b f) (hb : But S w w') (hg : ¬ S b) : RowC w' b f := by
  obtain ⟨c, h1, h2, h3⟩ := h
  exact ⟨c, (hb.block b (Array.getElem?_eq_some_iff.1 h1).1 hg).trans h1, h2, h3⟩
theorem RowC.frozen {w : World} {b : Nat} {f : Int → Nat} (h : RowC w b f) (x : Nat) : w.frozen? ⟨b, x, none⟩ = false := by
  obtain ⟨c, h1, -⟩ := h
  exact frozen_of_row _ _ _ _ _ h1
theorem RowC.cell {w : World} {b : Nat} {f : Int → Nat} (h : RowC w b f) (x : Nat) (hx : x ≤ 200000) : w.cell? ⟨b, x, none⟩ = some (.int .i64 (f (x : Int) : Int)) := by
  obtain ⟨c, h1, h2, h3⟩ := h
  rw [cell_of_row _ _ _ _ _ _ h1]
  exact h3 x hx
theorem RowC.far {w : World} {b : Nat} {p : Int → Bool} {t : List Nd} (h : RowC w b (cntK p t)) (t' : List Nd) (n : Nd) (hn : n.num > 200000) (ht : t' = t) : RowC w b (cntK p (t' ++ [n])) := by
  subst ht
  obtain ⟨c, h1, h2, h3⟩ := h
  refine ⟨c, h1, h2, fun x hx => ?_⟩
  rw [h3 x hx, cntK_push, if_neg (by omega)]
  rfl
theorem RowC.inc {w : World} {b : Nat} {p : Int → Bool} {t : List Nd} (h : RowC w b (cntK p t)) (n : Nd) (x : Nat) (hx : x ≤ 200000) (h1 : 1 ≤ x) (hn : n.num = (x : Int)) (hp : p n.kind = true) : RowC (w.setCell ⟨b, x, none⟩ (.int .i64 ((cntK p t (x : Int) : Int) + 1))) b (cntK p (t ++ [n])) := by
  obtain ⟨c, r1, r2, r3⟩ := h
  refine ⟨_, heap_setCell_same _ _ _ _ _ _ r1, by simp [r2], fun y hy => ?_⟩
  rw [Array.getElem?_setIfInBounds, cntK_push]
  by_cases e : x = y
  · subst e
    rw [if_pos rfl, if_pos (by omega), if_pos ⟨by omega, hp, hn⟩]
    rfl
  · rw [if_neg e, r3 y hy, if_neg (by omega)]
    rfl
theorem RowC.cnt {w : World} {b c : Nat} {f : Int → Nat} (h : RowC w b f) : CntS w (some ⟨b, 0, none⟩, 200001, c) f := ⟨b, rfl, rfl, fun n hn => h.cell n hn⟩
theorem cntK_le (p : Int → Bool) (t : List Nd) (x : Int) : cntK p t x ≤ t.length := by
  unfold cntK
  split
  · exact List.length_filter_le _ _
  · omega
theorem But.drewL {S : Nat → Prop} {a b : World} (h : But S a b) : But S a b.drew := ⟨h.os, h.tape, h.output, h.size, h.block⟩
theorem bnd_kinds {k : Int} (h : bndK k = true) : k = 76 ∨ k = 80 ∨ k = 82 ∨ k = 90 ∨ k = 91 := by
  simp [bndK] at h
  omega
theorem bnd_none {k : Int} (h : bndK k = false) : (k == 76) = false ∧ (k == 80) = false ∧ (k == 82) = false ∧ (k == 90) = false ∧ (k == 91) = false := by
  simp [bndK] at h
  simp
  omega
end Go.Proofs.YtedlofpgddjpgaaGreat

namespace Go.Proofs.YtedlofpgddjpgaaGreat
open Go.RowKit Go.Maps
def CntN (w : World) (b : Nat) (n : Nat) (f : Int → Nat) : Prop := ∃ D : DataW Unit, w.ownsMap Tryz.prog 2 (plainElem Tryz.prog 3) b n D ∧ Tidy D ∧ ∀ x : Int, 1 ≤ x → D.atKey (.int .i64 x) (.lit (.int .i64 0)) = .lit (.int .i64 (f x : Int))
theorem CntN.cnt {w : World} {b n : Nat} {f : Int → Nat} (h : CntN w b n f) : CntM w b f := by
  obtain ⟨D, h1, -, h2⟩ := h
  exact ⟨n, D, h1, h2⟩
theorem CntN.but {S : Nat → Prop} {w w' : World} {b n : Nat} {f : Int → Nat} (h : CntN w b n f) (hb : But S w w') (hn : ¬ S b) : CntN w' b n f := by
  obtain ⟨D, h1, h2, h3⟩ := h
  exact ⟨D, ownsL_but h1 hb hn, h2, h3⟩
theorem CntN.inc {w : World} {b n : Nat} {f : Int → Nat} (h : CntN w b n f) (hn : n < maxLen) {x : Int} (hx : (Lit.int .i64 x).wf = true) (hf : (Lit.int .i64 ((f x : Int) + 1)).wf = true) :
    ∃ w', (Instr.mapUpdate 37 (.map (some b)) (.int .i64 x) (.int .i64 ((f x : Int) + 1))).run Tryz.prog w = .ok () w' ∧ CntN w' b (n + 1) (fun y => if y = x then f x + 1 else f y) ∧ But (fun p => p = b) w w' := by
  have hkl : ∀ z : Int, WideAt.IsKeyLit (.int .i64 z) := fun _ => trivial
  obtain ⟨D, h1, h2, h3⟩ := h
  obtain ⟨w', hr, ho, hg⟩ := h1.update Tryz.law2L Tryz.underlying37 hn (Tryz.keyL x hx) (val := .int .i64 ((f x : Int) + 1)) (d := .lit (.int .i64 ((f x : Int) + 1))) (ps := []) (plainElem_int Tryz.underlying3 hf)
  refine ⟨w', hr, ⟨D.put (.int .i64 x) (.lit (.int .i64 ((f x : Int) + 1))), ho, h2.put (hkl x) _, fun y hy => ?_⟩, But.ofGrown hg⟩
  by_cases e : y = x
  · subst e
    rw [atKey_put_same h2.isMap (hkl y)]
    simp
  · rw [atKey_put_other (fun h => e (by simpa using h)), h3 y hy]
    simp [e]
end Go.Proofs.YtedlofpgddjpgaaGreat
