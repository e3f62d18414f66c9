import Derived.Test.YtoiiibplkhedcaaGreatDoorWAA
import Derived.Deep.QuietTactic
import Derived.BigQuiet
set_option maxRecDepth 20000
set_option maxHeartbeats 2000000
namespace Go.Proofs.YtoiiibplkhedcaaGreatDoor
open Go.RowKit
def CC.open? (c : CC) : Bool := c.nd.kind == 61 && decide (1 ≤ c.lv)
theorem Qid (w : World) (b : Nat) (c : CC) (l : Option Nat) (hc : CellAt w b c l) :
    Calls Tryz.prog 92 #[.pointer (some ⟨b, 0, none⟩)] w fun e w' => e = .returned (.bool c.open?) ∧ w' = w := by
  obtain ⟨_, c0, _, _, _, _, _, _, c6, _, _, _, _, _⟩ := hc.cell
  go_enter Tryz.func92, Tryz.ntmps92
  go_wp2
  · rename_i h9
    go_ret
    exact ⟨by simp [CC.open?, h9], rfl⟩
  · rename_i h9
    go_ret
    exact ⟨by simp [CC.open?, h9], rfl⟩
theorem Cells.drewN {w : World} {X : Nat → Prop} {f : Nat → CC} {lk : Nat → Option Nat} (h : Cells w X f lk) (n : Nat) : Cells (w.drewN n) X f lk := ⟨fun b hb => h.at' b hb, h.link⟩
theorem Cells.drew {w : World} {X : Nat → Prop} {f : Nat → CC} {lk : Nat → Option Nat} (h : Cells w X f lk) : Cells w.drew X f lk := ⟨fun b hb => h.at' b hb, h.link⟩
theorem But.drew {S : Nat → Prop} {a w : World} (h : But S a w) : But S a w.drew := ⟨h.os, h.tape, h.output, h.size, h.block⟩
theorem But.drewN {S : Nat → Prop} {a w : World} (h : But S a w) (n : Nat) : But S a (w.drewN n) := ⟨h.os, h.tape, h.output, h.size, h.block⟩
theorem But.cellB {S : Nat → Prop} {w w' : World} (h : But S w w') {b o : Nat} (hl : b < w.heap.size) (hn : ¬ S b) : w'.cell? ⟨b, o, none⟩ = w.cell? ⟨b, o, none⟩ := by
  unfold World.cell?
  rw [h.block b hl hn]
theorem Cells.upd {w w' : World} {X : Nat → Prop} {f : Nat → CC} {lk : Nat → Option Nat} (h : Cells w X f lk) {b : Nat} {c' : CC} (hc : CellAt w' b c' (lk b)) (hb : But (· = b) w w') : Cells w' X (fun i => if i = b then c' else f i) lk := by
  refine ⟨fun x hx => ?_, h.link⟩
  by_cases hxb : x = b
  · subst hxb
    rw [if_pos rfl]
    exact hc
  · rw [if_neg hxb]
    exact (h.at' x hx).but hb hxb
theorem Cells.rerank {w : World} {X : Nat → Prop} {f : Nat → CC} {lk : Nat → Option Nat} (h : Cells w X f lk) {b : Nat} (hb : X b) (r : Int) : Cells (w.setCell ⟨b, 10, none⟩ (.int .i64 r)) X (fun i => if i = b then { f b with rk := r } else f i) lk := by
  refine h.upd ?_ ((But.refl (· = b) w).setCell (p := ⟨b, 10, none⟩) rfl _)
  have h9 := heap_setCell_same w b 10 _ 120 (.int .i64 r) (h.at' b hb)
  simpa [CellAt] using h9
theorem Cells.says {w : World} {X : Nat → Prop} {f : Nat → CC} {lk : Nat → Option Nat} (h : Cells w X f lk) {b : Nat} (hb : X b) (c : CC) (t : Int) :
    Cells ((((((((w.setCell ⟨b, 1, none⟩ (.int .i64 c.nd.kind)).setCell ⟨b, 2, none⟩ (.int .i64 c.nd.num)).setCell ⟨b, 3, none⟩ (.string c.nd.text)).setCell ⟨b, 4, none⟩ (.int .i64 c.nd.kids)).setCell ⟨b, 5, none⟩ (.int .i64 c.nd.place)).setCell ⟨b, 6, none⟩ (.slice c.ks.1 c.ks.2.1 c.ks.2.2)).setCell ⟨b, 8, none⟩ (.int .i64 c.lv)).setCell ⟨b, 7, none⟩ (.int .i64 t)) X
      (fun i => if i = b then { f b with nd := c.nd, ks := c.ks, lv := c.lv, told := t } else f i) lk := by
  refine h.upd ?_ ?_
  · have h0 := heap_setCell_same w b 1 _ 120 (.int .i64 c.nd.kind) (h.at' b hb)
    have h1 := heap_setCell_same _ b 2 _ 120 (.int .i64 c.nd.num) h0
    have h2 := heap_setCell_same _ b 3 _ 120 (.string c.nd.text) h1
    have h3 := heap_setCell_same _ b 4 _ 120 (.int .i64 c.nd.kids) h2
    have h4 := heap_setCell_same _ b 5 _ 120 (.int .i64 c.nd.place) h3
    have h5 := heap_setCell_same _ b 6 _ 120 (.slice c.ks.1 c.ks.2.1 c.ks.2.2) h4
    have h6 := heap_setCell_same _ b 8 _ 120 (.int .i64 c.lv) h5
    have h7 := heap_setCell_same _ b 7 _ 120 (.int .i64 t) h6
    simpa [CellAt] using h7
  · exact (((((((((But.refl (· = b) w).setCell (p := ⟨b, 1, none⟩) rfl (.int .i64 c.nd.kind)).setCell (p := ⟨b, 2, none⟩) rfl (.int .i64 c.nd.num)).setCell (p := ⟨b, 3, none⟩) rfl (.string c.nd.text)).setCell (p := ⟨b, 4, none⟩) rfl (.int .i64 c.nd.kids)).setCell (p := ⟨b, 5, none⟩) rfl (.int .i64 c.nd.place)).setCell (p := ⟨b, 6, none⟩) rfl (.slice c.ks.1 c.ks.2.1 c.ks.2.2)).setCell (p := ⟨b, 8, none⟩) rfl (.int .i64 c.lv)).setCell (p := ⟨b, 7, none⟩) rfl (.int .i64 t))
theorem Cells.ties {w : World} {X : Nat → Prop} {f : Nat → CC} {lk : Nat → Option Nat} (h : Cells w X f lk) {b j : Nat} (hb : X b) (hj : X j) (t : Int) :
    Cells (((w.setCell ⟨b, 9, none⟩ (ptr (some j))).setCell ⟨b, 11, none⟩ (ptr (some j))).setCell ⟨b, 12, none⟩ (.int .i64 t)) X
      (fun i => if i = b then { f b with td := some j, si := t } else f i) (fun i => if i = b then some j else lk i) := by
  have h1 := h.relink hb hj
  refine h1.upd ?_ ?_
  · have h2 := heap_setCell_same _ b 11 _ 120 (ptr (some j)) (h1.at' b hb)
    have h3 := heap_setCell_same _ b 12 _ 120 (.int .i64 t) h2
    simpa [CellAt] using h3
  · exact ((But.refl (· = b) _).setCell (p := ⟨b, 11, none⟩) rfl _).setCell (p := ⟨b, 12, none⟩) rfl _
def Qat (f : Nat → CC) (a h q : Nat) (r t : Int) : Nat → CC := fun i => if i = q then { f q with td := some h, si := t } else if i = h then (if (f h).nd.kind = 61 then { f h with rk := r, nd := (f a).nd, ks := (f a).ks, lv := (f a).lv, told := t } else { f h with rk := r }) else f i
theorem Qux (X : Nat → Prop) (f : Nat → CC) (lk : Nat → Option Nat) (w : World) (hC : Cells w X f lk) (sb : Nat) (t : Int) (hsX : ¬ X sb) (hst : w.cell? ⟨sb, 1, none⟩ = some (.int .i64 t)) (a b : Nat) (hXa : X a) (hXb : X b) (hab : a ≠ b) (ha : lk a = none) (hb : lk b = none) :
    Calls Tryz.prog 94 #[.pointer (some ⟨sb, 0, none⟩), .pointer (some ⟨a, 0, none⟩), .pointer (some ⟨b, 0, none⟩)] w fun e w' => e = .returned (.tuple #[]) ∧ ∃ h q r, (h = a ∧ q = b ∨ h = b ∧ q = a) ∧ Cells w' X (Qat f a h q r t) (fun i => if i = q then some h else lk i) ∧ But X w w' ∧ w'.heap.size = w.heap.size := by
  obtain ⟨a0, a1, a2, a3, a4, a5, a6, a7, a8, a9, a10, a11, a12, a13⟩ := (hC.at' a hXa).cell
  obtain ⟨b0, b1, b2, b3, b4, b5, b6, b7, b8, b9, b10, b11, b12, b13⟩ := (hC.at' b hXb).cell
  have fa := (hC.at' a hXa).frozen
  have fb := (hC.at' b hXb).frozen
  have hsa : sb ≠ a := fun e => hsX (e ▸ hXa)
  have hsb : sb ≠ b := fun e => hsX (e ▸ hXb)
  go_enter Tryz.func94, Tryz.ntmps94
  rcases Int.lt_trichotomy (f a).rk (f b).rk with hlt | heq | hgt
  · by_cases hm : (f b).nd.kind = 61
    · go_wp2
      go_quiet (fail)
      go_wp2
      go_quiet (fail)
      go_wp2
      generalize hW : World.setCell _ _ _ = w5
      obtain ⟨f5, hf5, hC5⟩ : ∃ f5, f5 = (fun i => if i = a then { f a with td := some b, si := t } else f i) ∧ Cells w5 X f5 (fun i => if i = a then some b else lk i) := by
        subst hW
        exact ⟨_, rfl, (hC.drewN _).ties hXa hXb t⟩
      have hB5 : But X w w5 := by
        subst hW
        exact ((((But.refl X w).drewN _).setCell (p := ⟨a, 9, none⟩) hXa _).setCell (p := ⟨a, 11, none⟩) hXa _).setCell (p := ⟨a, 12, none⟩) hXa _
      have hz5 : w5.heap.size = w.heap.size := by
        subst hW
        simp [World.drewN]
      have hst5 : w5.cell? ⟨sb, 1, none⟩ = some (.int .i64 t) := (hB5.cellB (Qaa hst) hsX).trans hst
      have HF5 : Hid (f5 = (fun i => if i = a then { f a with td := some b, si := t } else f i)) := hf5
      clear hW hC a0 a1 a2 a3 a4 a5 a6 a7 a8 a9 a10 a11 a12 a13 b0 b1 b2 b3 b4 b5 b6 b7 b8 b9 b10 b11 b12 b13 fa fb hf5 hst
      obtain ⟨a0, a1, a2, a3, a4, a5, a6, a7, a8, a9, a10, a11, a12, a13⟩ := (hC5.at' a hXa).cell
      obtain ⟨b0, b1, b2, b3, b4, b5, b6, b7, b8, b9, b10, b11, b12, b13⟩ := (hC5.at' b hXb).cell
      have fa := (hC5.at' a hXa).frozen
      have fb := (hC5.at' b hXb).frozen
      go_region
      go_end0
      refine ⟨rfl, b, a, (f b).rk, .inr ⟨rfl, rfl⟩, ?_, ?_, ?_⟩
      · have h9 := (hC5.says hXb (f5 a) t).drew
        have e9 : (fun i => if i = b then { f5 b with nd := (f5 a).nd, ks := (f5 a).ks, lv := (f5 a).lv, told := t } else f5 i) = Qat f a b a (f b).rk t := by
          funext i
          rw [HF5.out]
          unfold Qat
          by_cases i1 : i = a
          · subst i1
            simp [hab]
          · by_cases i2 : i = b
            · subst i2
              simp [hab.symm, hm]
            · simp [i1, i2]
        rw [e9] at h9
        exact h9
      · refine hB5.trans ?_
        exact (((((((((But.refl X w5).setCell (p := ⟨b, 1, none⟩) hXb _).setCell (p := ⟨b, 2, none⟩) hXb _).setCell (p := ⟨b, 3, none⟩) hXb _).setCell (p := ⟨b, 4, none⟩) hXb _).setCell (p := ⟨b, 5, none⟩) hXb _).setCell (p := ⟨b, 6, none⟩) hXb _).setCell (p := ⟨b, 8, none⟩) hXb _).setCell (p := ⟨b, 7, none⟩) hXb _).drew
      · simp [World.drew, hz5]
    · have tm : ((f b).nd.kind == 61) = false := by simpa using hm
      go_wp2
      go_quiet (fail)
      go_wp2
      go_quiet (fail)
      go_wp2
      generalize hW : World.setCell _ _ _ = w5
      obtain ⟨f5, hf5, hC5⟩ : ∃ f5, f5 = (fun i => if i = a then { f a with td := some b, si := t } else f i) ∧ Cells w5 X f5 (fun i => if i = a then some b else lk i) := by
        subst hW
        exact ⟨_, rfl, (hC.drewN _).ties hXa hXb t⟩
      have hB5 : But X w w5 := by
        subst hW
        exact ((((But.refl X w).drewN _).setCell (p := ⟨a, 9, none⟩) hXa _).setCell (p := ⟨a, 11, none⟩) hXa _).setCell (p := ⟨a, 12, none⟩) hXa _
      have hz5 : w5.heap.size = w.heap.size := by
        subst hW
        simp [World.drewN]
      clear hW
      go_end0
      refine ⟨rfl, b, a, (f b).rk, .inr ⟨rfl, rfl⟩, ?_, hB5, hz5⟩
      have e9 : (fun i => if i = a then { f a with td := some b, si := t } else f i) = Qat f a b a (f b).rk t := by
          funext i
          unfold Qat
          by_cases i1 : i = a
          · subst i1
            simp
          · by_cases i2 : i = b
            · subst i2
              simp [hab.symm, hm]
            · simp [i1, i2]
      rw [hf5, e9] at hC5
      exact hC5
  · by_cases hm : (f a).nd.kind = 61
    · go_wp2
      go_quiet (fail)
      go_wp2
      go_quiet (fail)
      go_wp2
      generalize hW : World.setCell _ _ _ = w5
      obtain ⟨r, f5, hf5, hC5⟩ : ∃ r f5, f5 = (fun i => if i = b then { (fun i => if i = a then { f a with rk := r } else f i) b with td := some a, si := t } else (fun i => if i = a then { f a with rk := r } else f i) i) ∧ Cells w5 X f5 (fun i => if i = b then some a else lk i) := by
        subst hW
        exact ⟨_, _, rfl, ((hC.drewN _).rerank hXa _).ties hXb hXa t⟩
      have hB5 : But X w w5 := by
        subst hW
        exact (((((But.refl X w).drewN _).setCell (p := ⟨a, 10, none⟩) hXa _).setCell (p := ⟨b, 9, none⟩) hXb _).setCell (p := ⟨b, 11, none⟩) hXb _).setCell (p := ⟨b, 12, none⟩) hXb _
      have hz5 : w5.heap.size = w.heap.size := by
        subst hW
        simp [World.drewN]
      have hst5 : w5.cell? ⟨sb, 1, none⟩ = some (.int .i64 t) := (hB5.cellB (Qaa hst) hsX).trans hst
      have HF5 : Hid (f5 = (fun i => if i = b then { (fun i => if i = a then { f a with rk := r } else f i) b with td := some a, si := t } else (fun i => if i = a then { f a with rk := r } else f i) i)) := hf5
      clear hW hC a0 a1 a2 a3 a4 a5 a6 a7 a8 a9 a10 a11 a12 a13 b0 b1 b2 b3 b4 b5 b6 b7 b8 b9 b10 b11 b12 b13 fa fb hf5 hst
      obtain ⟨a0, a1, a2, a3, a4, a5, a6, a7, a8, a9, a10, a11, a12, a13⟩ := (hC5.at' a hXa).cell
      obtain ⟨b0, b1, b2, b3, b4, b5, b6, b7, b8, b9, b10, b11, b12, b13⟩ := (hC5.at' b hXb).cell
      have fa := (hC5.at' a hXa).frozen
      have fb := (hC5.at' b hXb).frozen
      go_region
      go_end0
      refine ⟨rfl, a, b, r, .inl ⟨rfl, rfl⟩, ?_, ?_, ?_⟩
      · have h9 := (hC5.says hXa (f5 a) t).drew
        have e9 : (fun i => if i = a then { f5 a with nd := (f5 a).nd, ks := (f5 a).ks, lv := (f5 a).lv, told := t } else f5 i) = Qat f a a b r t := by
          funext i
          rw [HF5.out]
          unfold Qat
          by_cases i1 : i = b
          · subst i1
            simp [hab.symm]
          · by_cases i2 : i = a
            · subst i2
              simp [hab, hm]
            · simp [i1, i2]
        rw [e9] at h9
        exact h9
      · refine hB5.trans ?_
        exact (((((((((But.refl X w5).setCell (p := ⟨a, 1, none⟩) hXa _).setCell (p := ⟨a, 2, none⟩) hXa _).setCell (p := ⟨a, 3, none⟩) hXa _).setCell (p := ⟨a, 4, none⟩) hXa _).setCell (p := ⟨a, 5, none⟩) hXa _).setCell (p := ⟨a, 6, none⟩) hXa _).setCell (p := ⟨a, 8, none⟩) hXa _).setCell (p := ⟨a, 7, none⟩) hXa _).drew
      · simp [World.drew, hz5]
    · have tm : ((f a).nd.kind == 61) = false := by simpa using hm
      go_wp2
      go_quiet (fail)
      go_wp2
      go_quiet (fail)
      go_wp2
      generalize hW : World.setCell _ _ _ = w5
      obtain ⟨r, f5, hf5, hC5⟩ : ∃ r f5, f5 = (fun i => if i = b then { (fun i => if i = a then { f a with rk := r } else f i) b with td := some a, si := t } else (fun i => if i = a then { f a with rk := r } else f i) i) ∧ Cells w5 X f5 (fun i => if i = b then some a else lk i) := by
        subst hW
        exact ⟨_, _, rfl, ((hC.drewN _).rerank hXa _).ties hXb hXa t⟩
      have hB5 : But X w w5 := by
        subst hW
        exact (((((But.refl X w).drewN _).setCell (p := ⟨a, 10, none⟩) hXa _).setCell (p := ⟨b, 9, none⟩) hXb _).setCell (p := ⟨b, 11, none⟩) hXb _).setCell (p := ⟨b, 12, none⟩) hXb _
      have hz5 : w5.heap.size = w.heap.size := by
        subst hW
        simp [World.drewN]
      clear hW
      go_end0
      refine ⟨rfl, a, b, r, .inl ⟨rfl, rfl⟩, ?_, hB5, hz5⟩
      have e9 : (fun i => if i = b then { (fun i => if i = a then { f a with rk := r } else f i) b with td := some a, si := t } else (fun i => if i = a then { f a with rk := r } else f i) i) = Qat f a a b r t := by
          funext i
          unfold Qat
          by_cases i1 : i = b
          · subst i1
            simp [hab.symm]
          · by_cases i2 : i = a
            · subst i2
              simp [hab, hm]
            · simp [i1, i2]
      rw [hf5, e9] at hC5
      exact hC5
  · by_cases hm : (f a).nd.kind = 61
    · go_wp2
      go_quiet (fail)
      go_wp2
      go_quiet (fail)
      go_wp2
      generalize hW : World.setCell _ _ _ = w5
      obtain ⟨f5, hf5, hC5⟩ : ∃ f5, f5 = (fun i => if i = b then { f b with td := some a, si := t } else f i) ∧ Cells w5 X f5 (fun i => if i = b then some a else lk i) := by
        subst hW
        exact ⟨_, rfl, (hC.drewN _).ties hXb hXa t⟩
      have hB5 : But X w w5 := by
        subst hW
        exact ((((But.refl X w).drewN _).setCell (p := ⟨b, 9, none⟩) hXb _).setCell (p := ⟨b, 11, none⟩) hXb _).setCell (p := ⟨b, 12, none⟩) hXb _
      have hz5 : w5.heap.size = w.heap.size := by
        subst hW
        simp [World.drewN]
      have hst5 : w5.cell? ⟨sb, 1, none⟩ = some (.int .i64 t) := (hB5.cellB (Qaa hst) hsX).trans hst
      have HF5 : Hid (f5 = (fun i => if i = b then { f b with td := some a, si := t } else f i)) := hf5
      clear hW hC a0 a1 a2 a3 a4 a5 a6 a7 a8 a9 a10 a11 a12 a13 b0 b1 b2 b3 b4 b5 b6 b7 b8 b9 b10 b11 b12 b13 fa fb hf5 hst
      obtain ⟨a0, a1, a2, a3, a4, a5, a6, a7, a8, a9, a10, a11, a12, a13⟩ := (hC5.at' a hXa).cell
      obtain ⟨b0, b1, b2, b3, b4, b5, b6, b7, b8, b9, b10, b11, b12, b13⟩ := (hC5.at' b hXb).cell
      have fa := (hC5.at' a hXa).frozen
      have fb := (hC5.at' b hXb).frozen
      go_region
      go_end0
      refine ⟨rfl, a, b, (f a).rk, .inl ⟨rfl, rfl⟩, ?_, ?_, ?_⟩
      · have h9 := (hC5.says hXa (f5 a) t).drew
        have e9 : (fun i => if i = a then { f5 a with nd := (f5 a).nd, ks := (f5 a).ks, lv := (f5 a).lv, told := t } else f5 i) = Qat f a a b (f a).rk t := by
          funext i
          rw [HF5.out]
          unfold Qat
          by_cases i1 : i = b
          · subst i1
            simp [hab.symm]
          · by_cases i2 : i = a
            · subst i2
              simp [hab, hm]
            · simp [i1, i2]
        rw [e9] at h9
        exact h9
      · refine hB5.trans ?_
        exact (((((((((But.refl X w5).setCell (p := ⟨a, 1, none⟩) hXa _).setCell (p := ⟨a, 2, none⟩) hXa _).setCell (p := ⟨a, 3, none⟩) hXa _).setCell (p := ⟨a, 4, none⟩) hXa _).setCell (p := ⟨a, 5, none⟩) hXa _).setCell (p := ⟨a, 6, none⟩) hXa _).setCell (p := ⟨a, 8, none⟩) hXa _).setCell (p := ⟨a, 7, none⟩) hXa _).drew
      · simp [World.drew, hz5]
    · have tm : ((f a).nd.kind == 61) = false := by simpa using hm
      go_wp2
      go_quiet (fail)
      go_wp2
      go_quiet (fail)
      go_wp2
      generalize hW : World.setCell _ _ _ = w5
      obtain ⟨f5, hf5, hC5⟩ : ∃ f5, f5 = (fun i => if i = b then { f b with td := some a, si := t } else f i) ∧ Cells w5 X f5 (fun i => if i = b then some a else lk i) := by
        subst hW
        exact ⟨_, rfl, (hC.drewN _).ties hXb hXa t⟩
      have hB5 : But X w w5 := by
        subst hW
        exact ((((But.refl X w).drewN _).setCell (p := ⟨b, 9, none⟩) hXb _).setCell (p := ⟨b, 11, none⟩) hXb _).setCell (p := ⟨b, 12, none⟩) hXb _
      have hz5 : w5.heap.size = w.heap.size := by
        subst hW
        simp [World.drewN]
      clear hW
      go_end0
      refine ⟨rfl, a, b, (f a).rk, .inl ⟨rfl, rfl⟩, ?_, hB5, hz5⟩
      have e9 : (fun i => if i = b then { f b with td := some a, si := t } else f i) = Qat f a a b (f a).rk t := by
          funext i
          unfold Qat
          by_cases i1 : i = b
          · subst i1
            simp
          · by_cases i2 : i = a
            · subst i2
              simp [hab, hm]
            · simp [i1, i2]
      rw [hf5, e9] at hC5
      exact hC5
end Go.Proofs.YtoiiibplkhedcaaGreatDoor
namespace Go.Proofs.YtoiiibplkhedcaaGreatDoor
abbrev DT := List Nat → Option Nd
def con (n : Nd) (ds : List DT) : DT
  | [] => some n
  | i :: p => match ds[i]? with
    | some d => d p
    | none => none
theorem Qfg {n m : Nd} {ds es : List DT} (h : con n ds = con m es) : n = m := by
  have := congrFun h []
  simpa [con] using this
theorem Qfc {n m : Nd} {ds es : List DT} (h : con n ds = con m es) (hl : ds.length = es.length) : ds = es := by
  apply List.ext_getElem hl
  intro i h1 h2
  funext p
  have := congrFun h (i :: p)
  simpa [con, List.getElem?_eq_getElem h1, List.getElem?_eq_getElem h2] using this
structure GC where
  nd : Nd
  ks : List Nat
  op : Bool
def SatC (X : Nat → Prop) (g : Nat → GC) (lk : Nat → Option Nat) (θ : Nat → DT) : Prop :=
  (∀ i j, lk i = some j → θ i = θ j) ∧ ∀ i, X i → lk i = none → (g i).op = false → θ i = con (g i).nd ((g i).ks.map θ)
def SatW (X : Nat → Prop) (g : Nat → GC) (lk : Nat → Option Nat) (b : Nat) (θ : Nat → DT) : Prop :=
  (∀ i j, lk i = some j → θ i = θ j) ∧ ∀ i, X i → i ≠ b → lk i = none → (g i).op = false → θ i = con (g i).nd ((g i).ks.map θ)
theorem Jcw {X : Nat → Prop} {g : Nat → GC} {lk : Nat → Option Nat} {b : Nat} {θ : Nat → DT} (hX : X b) (hb : lk b = none) : SatC X g lk θ ↔ SatW X g lk b θ ∧ ((g b).op = false → θ b = con (g b).nd ((g b).ks.map θ)) := by
  constructor
  · rintro ⟨h1, h2⟩
    exact ⟨⟨h1, fun i hi _ => h2 i hi⟩, h2 b hX hb⟩
  · rintro ⟨⟨h1, h2⟩, h3⟩
    refine ⟨h1, fun i hi hl ho => ?_⟩
    by_cases hib : i = b
    · subst hib; exact h3 ho
    · exact h2 i hi hib hl ho
def tied (lk : Nat → Option Nat) (h q : Nat) : Nat → Option Nat := fun i => if i = q then some h else lk i
theorem Qvo {X : Nat → Prop} {g g' : Nat → GC} {lk : Nat → Option Nat} {a b h q : Nat} (hXa : X a) (hXb : X b) (hab : a ≠ b) (ha : lk a = none) (hb : lk b = none) (hq : h = a ∧ q = b ∨ h = b ∧ q = a) (hg : g' h = g a) (hg' : ∀ i, i ≠ h → g' i = g i) (θ : Nat → DT) :
    SatC X g' (tied lk h q) θ ↔ SatW X g lk b θ ∧ θ a = θ b := by
  have hhq : h ≠ q := by
    rcases hq with ⟨rfl, rfl⟩ | ⟨rfl, rfl⟩
    · exact hab
    · exact fun e => hab e.symm
  have hlq : lk q = none := by rcases hq with ⟨rfl, rfl⟩ | ⟨rfl, rfl⟩ <;> assumption
  have hlh : lk h = none := by rcases hq with ⟨rfl, rfl⟩ | ⟨rfl, rfl⟩ <;> assumption
  have hXh : X h := by rcases hq with ⟨rfl, rfl⟩ | ⟨rfl, rfl⟩ <;> assumption
  have hth : tied lk h q h = none := by simp [tied, hhq, hlh]
  have hother : ∀ i, i ≠ h → i ≠ q → i ≠ a ∧ i ≠ b := by rcases hq with ⟨rfl, rfl⟩ | ⟨rfl, rfl⟩ <;> exact fun i h1 h2 => by simp_all
  have habq : ∀ i, i ≠ a → i ≠ b → i ≠ h ∧ i ≠ q := by rcases hq with ⟨rfl, rfl⟩ | ⟨rfl, rfl⟩ <;> exact fun i h1 h2 => by simp_all
  constructor
  · rintro ⟨h1, h2⟩
    have e0 : θ q = θ h := h1 q h (by simp [tied])
    have e1 : θ a = θ b := by rcases hq with ⟨rfl, rfl⟩ | ⟨rfl, rfl⟩ <;> simp [e0]
    have eh : θ h = θ a := by rcases hq with ⟨rfl, rfl⟩ | ⟨rfl, rfl⟩ <;> simp [e1]
    refine ⟨⟨fun i j e => ?_, fun i hi hib hl ho => ?_⟩, e1⟩
    · refine h1 i j ?_
      have : i ≠ q := fun e9 => by subst e9; rw [hlq] at e; cases e
      simp [tied, this, e]
    · by_cases hia : i = a
      · subst hia
        have := h2 h hXh hth (by rw [hg]; exact ho)
        rw [hg, eh] at this
        exact this
      · obtain ⟨n1, n2⟩ := habq i hia hib
        have := h2 i hi (by simp [tied, n2, hl]) (by rw [hg' i n1]; exact ho)
        rw [hg' i n1] at this
        exact this
  · rintro ⟨⟨h1, h2⟩, e1⟩
    have eh : θ h = θ a := by rcases hq with ⟨rfl, rfl⟩ | ⟨rfl, rfl⟩ <;> simp [e1]
    have eq : θ q = θ a := by rcases hq with ⟨rfl, rfl⟩ | ⟨rfl, rfl⟩ <;> simp [e1]
    refine ⟨fun i j e => ?_, fun i hi hl ho => ?_⟩
    · by_cases hiq : i = q
      · subst hiq
        simp [tied] at e
        subst e
        rw [eq, eh]
      · simp only [tied, hiq, if_false] at e
        exact h1 i j e
    · have hiq : i ≠ q := fun e9 => by subst e9; simp [tied] at hl
      simp only [tied, hiq, if_false] at hl
      by_cases hih : i = h
      · subst hih
        rw [hg] at ho ⊢
        rw [eh]
        exact h2 a hXa hab ha ho
      · obtain ⟨n1, n2⟩ := hother i hih hiq
        rw [hg' i hih] at ho ⊢
        exact h2 i hi n2 hl ho
theorem Qzh {X : Nat → Prop} {g g' : Nat → GC} {lk : Nat → Option Nat} {a b h q : Nat} (hXa : X a) (hXb : X b) (hab : a ≠ b) (ha : lk a = none) (hb : lk b = none) (hq : h = a ∧ q = b ∨ h = b ∧ q = a) (hg : g' h = g a) (hg' : ∀ i, i ≠ h → g' i = g i) (ho : (g b).op = true) (θ : Nat → DT) :
    SatC X g' (tied lk h q) θ ↔ SatC X g lk θ ∧ θ a = θ b := by
  rw [Qvo hXa hXb hab ha hb hq hg hg', Jcw (g := g) hXb hb]
  constructor
  · rintro ⟨h1, h2⟩
    exact ⟨⟨h1, fun e => by rw [ho] at e; cases e⟩, h2⟩
  · rintro ⟨⟨h1, _⟩, h2⟩
    exact ⟨h1, h2⟩
theorem Qrv {X : Nat → Prop} {g g' : Nat → GC} {lk : Nat → Option Nat} {a b h q : Nat} (hXa : X a) (hXb : X b) (hab : a ≠ b) (ha : lk a = none) (hb : lk b = none) (hq : h = a ∧ q = b ∨ h = b ∧ q = a) (hg : g' h = g a) (hg' : ∀ i, i ≠ h → g' i = g i) (hoa : (g a).op = false) (hob : (g b).op = false) (hn : (g a).nd = (g b).nd) (hl : (g a).ks.length = (g b).ks.length) (θ : Nat → DT) :
    (SatC X g' (tied lk h q) θ ∧ (g a).ks.map θ = (g b).ks.map θ) ↔ SatC X g lk θ ∧ θ a = θ b := by
  rw [Qvo hXa hXb hab ha hb hq hg hg', Jcw (g := g) hXb hb]
  constructor
  · rintro ⟨⟨h1, h2⟩, h3⟩
    refine ⟨⟨h1, fun _ => ?_⟩, h2⟩
    rw [← h2, ← hn, ← h3]
    exact h1.2 a hXa hab ha hoa
  · rintro ⟨⟨h1, h3⟩, h2⟩
    refine ⟨⟨h1, h2⟩, ?_⟩
    have e1 := h1.2 a hXa hab ha hoa
    have e2 := h3 hob
    rw [← h2, e1] at e2
    exact Qfc e2 (by simpa using hl)
theorem Qvq {X : Nat → Prop} {g : Nat → GC} {lk : Nat → Option Nat} {a b : Nat} (hXa : X a) (hXb : X b) (ha : lk a = none) (hb : lk b = none) (hoa : (g a).op = false) (hob : (g b).op = false) (hn : (g a).nd ≠ (g b).nd) (θ : Nat → DT) (hs : SatC X g lk θ) : θ a ≠ θ b := by
  intro e
  have e1 := hs.2 a hXa ha hoa
  have e2 := hs.2 b hXb hb hob
  rw [← e, e1] at e2
  exact hn (Qfg e2)
end Go.Proofs.YtoiiibplkhedcaaGreatDoor
namespace Go.Proofs.YtoiiibplkhedcaaGreatDoor
open Go.RowKit
def KidRow (w : World) (X : Nat → Prop) (s : Option Addr × Nat × Nat) (l : List Nat) : Prop :=
  (s.2.1 = l.length ∧ l.length ≤ 20000 ∧ l.length ≤ s.2.2) ∧ (l = [] ∨ ∃ g cur, s.1 = some ⟨g, 0, none⟩ ∧ ¬ X g ∧ g < w.heap.size ∧ w.heap[g]? = some (.cells cur 64 (0, 0)) ∧ ∀ i (h : i < l.length), cur[i]? = some (.pointer (some ⟨l[i], 0, none⟩)))
structure CSto (w : World) (X : Nat → Prop) (f : Nat → CC) (lk : Nat → Option Nat) (d : Nat → Nat) (K : (Option Addr × Nat × Nat) → List Nat) : Prop where
  cells : Cells w X f lk
  acyc : Acyc lk d
  rows : ∀ b, X b → KidRow w X (f b).ks (K (f b).ks)
  inX : ∀ b, X b → ∀ k ∈ K (f b).ks, X k
  arity : ∀ b, X b → ((K (f b).ks).length : Int) = (f b).nd.kids
  met : ∀ b, X b → (f b).nd.kind = 61 → K (f b).ks = []
  low : ∀ b, X b → (f b).lv ≤ 1
def gc (K : (Option Addr × Nat × Nat) → List Nat) (f : Nat → CC) : Nat → GC := fun i => ⟨(f i).nd, K (f i).ks, (f i).open?⟩
theorem KidRow.but {w w' : World} {X : Nat → Prop} {s : Option Addr × Nat × Nat} {l : List Nat} (h : KidRow w X s l) (hb : But X w w') : KidRow w' X s l := by
  refine ⟨h.1, ?_⟩
  rcases h.2 with e | ⟨g, cur, h1, h2, h3, h4, h5⟩
  · exact .inl e
  · exact .inr ⟨g, cur, h1, h2, Nat.lt_of_lt_of_le h3 hb.size, (hb.block g h3 h2).trans h4, h5⟩
theorem Acyc.head {lk : Nat → Option Nat} {d : Nat → Nat} (ha : Acyc lk d) : ∀ n i, d i < n → ∃ r, Hd lk i r := by
  intro n
  induction n with
  | zero => intro i h; omega
  | succ n ih =>
    intro i h
    cases e : lk i with
    | none => exact ⟨i, .root e⟩
    | some j =>
      obtain ⟨r, hr⟩ := ih j (by have := ha i j e; omega)
      exact ⟨r, .step e hr⟩
theorem Hd.inX {w : World} {X : Nat → Prop} {f : Nat → CC} {lk : Nat → Option Nat} (h : Cells w X f lk) {i r : Nat} (hr : Hd lk i r) (hi : X i) : X r := by
  induction hr using Hd.elim with
  | root _ => exact hi
  | step h1 _ ih => exact ih (h.link _ _ h1).2
theorem Hd.sat {X : Nat → Prop} {g : Nat → GC} {lk : Nat → Option Nat} {θ : Nat → DT} (hs : SatC X g lk θ) {i r : Nat} (hr : Hd lk i r) : θ i = θ r := by
  induction hr using Hd.elim with
  | root _ => rfl
  | step h1 _ ih => exact (hs.1 _ _ h1).trans ih
theorem Qny {lk : Nat → Option Nat} {d : Nat → Nat} (ha : Acyc lk d) {θ : Nat → DT} : (∀ i j, lk i = some j → θ i = θ j) ↔ ∀ i r, Hd lk i r → θ i = θ r := by
  constructor
  · intro h i r hr
    induction hr using Hd.elim with
    | root _ => rfl
    | step h1 _ ih => exact (h _ _ h1).trans ih
  · intro h i j e
    obtain ⟨r, hr⟩ := ha.head _ j (Nat.lt_succ_self _)
    rw [h i r (.step e hr), h j r hr]
theorem Qaw (lk : Nat → Option Nat) (i : Nat) : lk i = none ↔ Hd lk i i := by
  constructor
  · exact fun h => .root h
  · exact fun h => h.is_root
theorem SameHd.sat {X : Nat → Prop} {g : Nat → GC} {lk lk' : Nat → Option Nat} {d d' : Nat → Nat} (h : SameHd lk lk') (ha : Acyc lk d) (ha' : Acyc lk' d') (θ : Nat → DT) : SatC X g lk' θ ↔ SatC X g lk θ := by
  unfold SatC
  rw [Qny ha, Qny ha']
  constructor
  · rintro ⟨h1, h2⟩
    exact ⟨fun i r hr => h1 i r ((h i r).1 hr), fun i hi hl => h2 i hi ((Qaw lk' i).2 ((h i i).1 ((Qaw lk i).1 hl)))⟩
  · rintro ⟨h1, h2⟩
    exact ⟨fun i r hr => h1 i r ((h i r).2 hr), fun i hi hl => h2 i hi ((Qaw lk i).2 ((h i i).2 ((Qaw lk' i).1 hl)))⟩
theorem Qpw {lk : Nat → Option Nat} {d : Nat → Nat} (ha : Acyc lk d) {h q : Nat} (hh : lk h = none) (hq : lk q = none) (hne : h ≠ q) : ∃ d', Acyc (tied lk h q) d' := by
  classical
  refine ⟨fun i => d i + if Hd lk i q then d h + 1 else 0, fun i j e => ?_⟩
  by_cases hi : i = q
  · subst hi
    simp [tied] at e
    subst e
    have h1 : Hd lk i i := .root hq
    have h2 : ¬ Hd lk h i := fun h9 => hne ((Hd.root hh).fun h9)
    simp [h1, h2]
    omega
  · simp only [tied, hi, if_false] at e
    have h1 : Hd lk i q ↔ Hd lk j q := by
      constructor
      · intro h9
        cases h9 using Hd.inv with
        | root h8 => rw [h8] at e; cases e
        | step h8 h7 => rw [h8] at e; cases e; exact h7
      · exact fun h9 => .step e h9
    have := ha i j e
    by_cases h9 : Hd lk j q
    · simp [h1.2 h9, h9]; omega
    · have : ¬ Hd lk i q := fun h8 => h9 (h1.1 h8)
      simp [this, h9]; omega
theorem CSto.short {w w' : World} {X : Nat → Prop} {f : Nat → CC} {lk lk' : Nat → Option Nat} {d : Nat → Nat} {K : (Option Addr × Nat × Nat) → List Nat} (h : CSto w X f lk d K) (hc : Cells w' X f lk') (ha : Acyc lk' d) (hb : But X w w') : CSto w' X f lk' d K :=
  ⟨hc, ha, fun b hx => (h.rows b hx).but hb, h.inX, h.arity, h.met, h.low⟩
def CC.core (c : CC) : Nd × (Option Addr × Nat × Nat) × Int := (c.nd, c.ks, c.lv)
theorem Qik {c d : CC} (h : c.core = d.core) : c.nd = d.nd ∧ c.ks = d.ks ∧ c.lv = d.lv := by
  simp only [CC.core, Prod.mk.injEq] at h
  exact ⟨h.1, h.2.1, h.2.2⟩
theorem Qdh (f : Nat → CC) {a h q : Nat} (r t : Int) : ∀ i, i ≠ h → (Qat f a h q r t i).core = (f i).core := by
  intro i hi
  unfold Qat
  by_cases e : i = q
  · subst e
    rw [if_pos rfl]
    rfl
  · rw [if_neg e, if_neg hi]
theorem Qhr (f : Nat → CC) {a h q : Nat} (hne : h ≠ q) (r t : Int) : (Qat f a h q r t h).core = if (f h).nd.kind = 61 then (f a).core else (f h).core := by
  unfold Qat
  rw [if_neg hne, if_pos rfl]
  split <;> rfl
theorem CSto.tied {w w' : World} {X : Nat → Prop} {f f' : Nat → CC} {lk : Nat → Option Nat} {d : Nat → Nat} {K : (Option Addr × Nat × Nat) → List Nat} (H : CSto w X f lk d K) {a b h q : Nat} (hXa : X a) (hXh : X h) (hab : a ≠ b) (ha : lk a = none) (hb : lk b = none) (hq : h = a ∧ q = b ∨ h = b ∧ q = a)
    (hc : Cells w' X f' (tied lk h q)) (hf : ∀ i, i ≠ h → (f' i).core = (f i).core) (e1 : (f' h).core = (f a).core ∨ (f' h).core = (f h).core) (hB : But X w w') : ∃ d', CSto w' X f' (tied lk h q) d' K := by
  have hhq : h ≠ q := by
    rcases hq with ⟨rfl, rfl⟩ | ⟨rfl, rfl⟩
    · exact hab
    · exact fun e => hab e.symm
  have hlq : lk q = none := by rcases hq with ⟨rfl, rfl⟩ | ⟨rfl, rfl⟩ <;> assumption
  have hlh : lk h = none := by rcases hq with ⟨rfl, rfl⟩ | ⟨rfl, rfl⟩ <;> assumption
  obtain ⟨d', hd'⟩ := Qpw H.acyc hlh hlq hhq
  have key : ∀ x, X x → ∃ y, X y ∧ (f' x).core = (f y).core := by
    intro x hx
    by_cases e : x = h
    · subst e
      rcases e1 with e1 | e1
      · exact ⟨a, hXa, e1⟩
      · exact ⟨x, hXh, e1⟩
    · exact ⟨x, hx, hf x e⟩
  refine ⟨d', hc, hd', fun x hx => ?_, fun x hx => ?_, fun x hx => ?_, fun x hx => ?_, fun x hx => ?_⟩
  all_goals
    obtain ⟨y, hy, e9⟩ := key x hx
    obtain ⟨n1, n2, n3⟩ := Qik e9
  · rw [n2]; exact (H.rows y hy).but hB
  · rw [n2]; exact H.inX y hy
  · rw [n1, n2]; exact H.arity y hy
  · rw [n1, n2]; exact H.met y hy
  · rw [n3]; exact H.low y hy
theorem Qie {K : (Option Addr × Nat × Nat) → List Nat} {f f' : Nat → CC} {a h : Nat} (e : (f' h).core = (f a).core) : gc K f' h = gc K f a := by
  obtain ⟨n1, n2, n3⟩ := Qik e
  simp [gc, CC.open?, n1, n2, n3]
def Qma (x y : CC) : Prop := (y.open? = true ∧ (x.open? = true → x.nd.num ≤ y.nd.num)) ∨ (x.open? = false ∧ y.open? = false ∧ x.nd = y.nd)
def Jdm (X : Nat → Prop) (t : Int) (f : Nat → CC) (lk : Nat → Option Nat) (R : (Nat → CC) × (Nat → Option Nat) → Prop) (x : (Nat → CC) × (Nat → Option Nat)) : Prop :=
  (∃ (lk' : Nat → Option Nat), x = (f, lk') ∧ (SameHd lk lk')) ∨
  (∃ (f1 : Nat → CC) (lk1 lk2 : Nat → Option Nat) (a b h q : Nat) (r : Int), x = (Qat f1 a h q r t, lk2) ∧ (R (f1, lk1)) ∧ (X a) ∧ (X b) ∧ (a ≠ b) ∧ (lk1 a = none) ∧ (lk1 b = none) ∧ (h = a ∧ q = b ∨ h = b ∧ q = a) ∧ (Qma (f1 a) (f1 b)) ∧ (SameHd (tied lk1 h q) lk2))
structure Ties (X : Nat → Prop) (t : Int) (f : Nat → CC) (lk : Nat → Option Nat) (f' : Nat → CC) (lk' : Nat → Option Nat) : Prop where
  of ::
  lfp : Lfp (Jdm X t f lk) (f', lk')
theorem Ties.grows (X : Nat → Prop) (t : Int) (f : Nat → CC) (lk : Nat → Option Nat) : Qkq (Jdm X t f lk) := by
  rintro R R' x h0 (⟨lk', e0, h⟩ | ⟨f1, lk1, lk2, a, b, h, q, r, e0, k, ha, hb, hab, hla, hlb, hq, hm, hs⟩)
  · exact .inl ⟨lk', e0, h⟩
  · exact .inr (⟨f1, lk1, lk2, a, b, h, q, r, e0, h0 _ k, ha, hb, hab, hla, hlb, hq, hm, hs⟩)
theorem Ties.same {X : Nat → Prop} {t : Int} {f : Nat → CC} {lk : Nat → Option Nat} {lk' : Nat → Option Nat} (h : SameHd lk lk') : Ties X t f lk f lk' :=
  ⟨Lfp.fold (Ties.grows X t f lk) (.inl ⟨lk', rfl, h⟩)⟩
theorem Ties.step {X : Nat → Prop} {t : Int} {f : Nat → CC} {lk : Nat → Option Nat} {f1 : Nat → CC} {lk1 lk2 : Nat → Option Nat} {a b h q : Nat} {r : Int} (k : Ties X t f lk f1 lk1) (ha : X a) (hb : X b) (hab : a ≠ b) (hla : lk1 a = none) (hlb : lk1 b = none) (hq : h = a ∧ q = b ∨ h = b ∧ q = a) (hm : Qma (f1 a) (f1 b)) (hs : SameHd (tied lk1 h q) lk2) : Ties X t f lk (Qat f1 a h q r t) lk2 :=
  ⟨Lfp.fold (Ties.grows X t f lk) (.inr (⟨f1, lk1, lk2, a, b, h, q, r, rfl, k.lfp, ha, hb, hab, hla, hlb, hq, hm, hs⟩))⟩
theorem Ties.elim {X : Nat → Prop} {t : Int} {f : Nat → CC} {lk : Nat → Option Nat} {motive : ∀ f' lk', Ties X t f lk f' lk' → Prop}
    (same : ∀ {lk' : Nat → Option Nat} (h : SameHd lk lk'), motive f lk' (Ties.same (lk' := lk') h))
    (step : ∀ {f1 : Nat → CC} {lk1 lk2 : Nat → Option Nat} {a b h q : Nat} {r : Int} (k : Ties X t f lk f1 lk1) (ha : X a) (hb : X b) (hab : a ≠ b) (hla : lk1 a = none) (hlb : lk1 b = none) (hq : h = a ∧ q = b ∨ h = b ∧ q = a) (hm : Qma (f1 a) (f1 b)) (hs : SameHd (tied lk1 h q) lk2), motive f1 lk1 (k) → motive (Qat f1 a h q r t) lk2 (Ties.step (f1 := f1) (lk1 := lk1) (lk2 := lk2) (a := a) (b := b) (h := h) (q := q) (r := r) k ha hb hab hla hlb hq hm hs))
    {f' : Nat → CC} {lk' : Nat → Option Nat} (h : Ties X t f lk f' lk') : motive f' lk' h := by
  have key : ∀ h, motive (f', lk').1 (f', lk').2 h := Lfp.ind (Ties.grows X t f lk) (p := fun x => ∀ h, motive x.1 x.2 h) (by
    rintro x (⟨lk', e0, h⟩ | ⟨f1, lk1, lk2, a, b, h, q, r, e0, k, ha, hb, hab, hla, hlb, hq, hm, hs⟩) h9
    · subst e0; exact same (lk' := lk') h
    · subst e0; exact step (f1 := f1) (lk1 := lk1) (lk2 := lk2) (a := a) (b := b) (h := h) (q := q) (r := r) ⟨k.1⟩ ha hb hab hla hlb hq hm hs (k.2 _)) h.lfp
  exact key h
theorem Ties.inv {X : Nat → Prop} {t : Int} {f : Nat → CC} {lk : Nat → Option Nat} {motive : ∀ f' lk', Ties X t f lk f' lk' → Prop}
    (same : ∀ {lk' : Nat → Option Nat} (h : SameHd lk lk'), motive f lk' (Ties.same (lk' := lk') h))
    (step : ∀ {f1 : Nat → CC} {lk1 lk2 : Nat → Option Nat} {a b h q : Nat} {r : Int} (k : Ties X t f lk f1 lk1) (ha : X a) (hb : X b) (hab : a ≠ b) (hla : lk1 a = none) (hlb : lk1 b = none) (hq : h = a ∧ q = b ∨ h = b ∧ q = a) (hm : Qma (f1 a) (f1 b)) (hs : SameHd (tied lk1 h q) lk2), motive (Qat f1 a h q r t) lk2 (Ties.step (f1 := f1) (lk1 := lk1) (lk2 := lk2) (a := a) (b := b) (h := h) (q := q) (r := r) k ha hb hab hla hlb hq hm hs))
    {f' : Nat → CC} {lk' : Nat → Option Nat} (h : Ties X t f lk f' lk') : motive f' lk' h := by
  induction h using Ties.elim with
  | same h => exact same h
  | step k ha hb hab hla hlb hq hm hs _ => exact step k ha hb hab hla hlb hq hm hs
theorem Ties.refl (X : Nat → Prop) (t : Int) (f : Nat → CC) (lk : Nat → Option Nat) : Ties X t f lk f lk := .same (SameHd.refl lk)
theorem Ties.short {X : Nat → Prop} {t : Int} {f f' : Nat → CC} {lk lk' lk2 : Nat → Option Nat} (h : Ties X t f lk f' lk') (hs : SameHd lk' lk2) : Ties X t f lk f' lk2 := by
  cases h using Ties.inv with
  | same h1 => exact .same (h1.trans hs)
  | step h1 h2 h3 h4 h5 h6 h7 h8 h9 => exact .step h1 h2 h3 h4 h5 h6 h7 h8 (h9.trans hs)
theorem Ties.trans {X : Nat → Prop} {t : Int} {f f1 f2 : Nat → CC} {lk lk1 lk2 : Nat → Option Nat} (h : Ties X t f lk f1 lk1) (h' : Ties X t f1 lk1 f2 lk2) : Ties X t f lk f2 lk2 := by
  induction h' using Ties.elim with
  | same h1 => exact h.short h1
  | step _ h2 h3 h4 h5 h6 h7 h8 h9 ih => exact .step ih h2 h3 h4 h5 h6 h7 h8 h9
theorem SameHd.symm {a b : Nat → Option Nat} (h : SameHd a b) : SameHd b a := fun i r => (h i r).symm
theorem CSto.still {w w' : World} {X : Nat → Prop} {f : Nat → CC} {lk : Nat → Option Nat} {d : Nat → Nat} {K : (Option Addr × Nat × Nat) → List Nat} (h : CSto w X f lk d K) (hb : But (fun _ => False) w w') : CSto w' X f lk d K :=
  h.short (h.cells.but hb (fun _ _ h => h)) h.acyc (hb.mono (fun _ h => h.elim))
end Go.Proofs.YtoiiibplkhedcaaGreatDoor
