import Derived.Test.YtedlofpgddjpgaaGreatWAW
import Derived.Test.YtedlofpgddjpgaaGreatWAG
import Derived.Lib.Strings
namespace Go.Proofs.YtedlofpgddjpgaaGreat
open Go.RowKit
theorem seven_fin {w w3 : World} {b : Nat} {x0 x1 x2 x3 x4 x5 x6 : Value} (T : Tre) (s : Sl3) (hr : w3.heap[b]? = some (.cells #[x0, x1, x2, x3, x4, x5, x6] 59 (0, 0))) (hb : Below w.heap.size w w3) (hwb : w.heap.size ≤ b) :
    Row7 (((((((w3.setCell ⟨b, 0, none⟩ (.int .i64 T.nd.kind)).setCell ⟨b, 1, none⟩ (.int .i64 T.nd.num)).setCell ⟨b, 2, none⟩ (.string T.nd.text)).setCell ⟨b, 3, none⟩ (.int .i64 T.nd.kids)).setCell ⟨b, 4, none⟩ (.int .i64 T.nd.place)).setCell ⟨b, 5, none⟩ (.slice s.1 s.2.1 s.2.2)).setCell ⟨b, 6, none⟩ (.bool (knT T))) b 0 T s ∧ Below w.heap.size w (((((((w3.setCell ⟨b, 0, none⟩ (.int .i64 T.nd.kind)).setCell ⟨b, 1, none⟩ (.int .i64 T.nd.num)).setCell ⟨b, 2, none⟩ (.string T.nd.text)).setCell ⟨b, 3, none⟩ (.int .i64 T.nd.kids)).setCell ⟨b, 4, none⟩ (.int .i64 T.nd.place)).setCell ⟨b, 5, none⟩ (.slice s.1 s.2.1 s.2.2)).setCell ⟨b, 6, none⟩ (.bool (knT T))) :=
  ⟨row7_of (set7 hr _ _ _ _ _ _ _), set7_below hb hwb _ _ _ _ _ _ _⟩
theorem zero7 {w3 : World} {b : Nat} (r : w3.heap[b]? = some (.cells #[.int .i64 0, .int .i64 0, .string ⟨#[]⟩, .int .i64 0, .int .i64 0, .slice none 0 0, .bool false] 59 (0, 0))) : (∀ j, w3.frozen? ⟨b, j, none⟩ = false) ∧ w3.cell? ⟨b, 0, none⟩ = some (.int .i64 0) ∧ w3.cell? ⟨b, 1, none⟩ = some (.int .i64 0) ∧ w3.cell? ⟨b, 2, none⟩ = some (.string ⟨#[]⟩) ∧ w3.cell? ⟨b, 3, none⟩ = some (.int .i64 0) ∧ w3.cell? ⟨b, 4, none⟩ = some (.int .i64 0) ∧ w3.cell? ⟨b, 5, none⟩ = some (.slice none 0 0) ∧ w3.cell? ⟨b, 6, none⟩ = some (.bool false) := by
  refine ⟨fun j => frozen_of_row _ _ _ _ _ r, ?_, ?_, ?_, ?_, ?_, ?_, ?_⟩ <;> (rw [cell_of_row _ _ _ _ _ _ r]; rfl)
set_option maxRecDepth 20000 in
set_option maxHeartbeats 2000000 in
theorem leaf_any (kd nm : Int) (tx : ByteArray) (h : kd ≠ 77) (w : World) :
    Calls Tryz.prog 67 #[.int .i64 kd, .int .i64 nm, .string tx] w fun e w' => ∃ s : Sl3, s.2.1 = 0 ∧ e = .returned (.agg (sv (leafT kd nm tx) s).toArray) ∧ Below w.heap.size w w' := by
  have b1 := (Below.refl w.heap.size w).alloc (Nat.le_refl _) (.cells #[.int .i64 0, .int .i64 0, .string ⟨#[]⟩, .int .i64 0, .int .i64 0, .slice none 0 0, .bool false] 59)
  have b2 := b1.alloc b1.size (.cells #[] 59)
  have r0 : ((w.alloc (.cells #[.int .i64 0, .int .i64 0, .string ⟨#[]⟩, .int .i64 0, .int .i64 0, .slice none 0 0, .bool false] 59)).alloc (.cells #[] 59)).heap[w.heap.size]? = some (.cells #[.int .i64 0, .int .i64 0, .string ⟨#[]⟩, .int .i64 0, .int .i64 0, .slice none 0 0, .bool false] 59 (0, 0)) := (Below.heap_alloc _ _ _ (by simp)).trans (heap_alloc_new _ _)
  have hN := make_any ⟨kd, nm, tx, 0, 0⟩ [] (some ⟨w.heap.size + 1, 0, none⟩, 0, 0) (fun _ => True) ((w.alloc (.cells #[.int .i64 0, .int .i64 0, .string ⟨#[]⟩, .int .i64 0, .int .i64 0, .slice none 0 0, .bool false] 59)).alloc (.cells #[] 59)) ⟨rfl, Nat.le_refl _, by simp, fun j h => by simp at h⟩ (fun h9 => absurd h9 h)
  have hsz : ((w.alloc (.cells #[.int .i64 0, .int .i64 0, .string ⟨#[]⟩, .int .i64 0, .int .i64 0, .slice none 0 0, .bool false] 59)).alloc (.cells #[] 59)).heap.size = w.heap.size + 1 + 1 := by simp
  have HSZ : Hid _ := hsz
  have HR0 : Hid _ := r0
  obtain ⟨kb, hkb⟩ : ∃ kb, knT (leafT kd nm tx) = kb := ⟨_, rfl⟩
  have HKB : Hid (knT (leafT kd nm tx) = kb) := hkb
  have hsv : ∀ s : Sl3, (sv (leafT kd nm tx) s).toArray = #[.int .i64 kd, .int .i64 nm, .string tx, .int .i64 0, .int .i64 0, .slice s.1 s.2.1 s.2.2, .bool kb] := by
    intro s
    rw [← hkb]
    rfl
  have hl : mkT ⟨kd, nm, tx, 0, 0⟩ [] = leafT kd nm tx := rfl
  rw [hl, hsv] at hN
  simp only at hN
  clear r0 hsz b1 hsv hl hkb
  go_enter Tryz.func67, Tryz.ntmps67
  go_wp2_with fail
  refine hN.mono ?_
  rintro e w3 ⟨rfl, hb3⟩
  have r3 := (hb3.block w.heap.size (by rw [HSZ.out]; omega)).trans HR0.out
  have hbb := Below.step b2 hb3
  have hf := seven_fin (leafT kd nm tx) (some ⟨w.heap.size + 1, 0, none⟩, 0, 0) r3 hbb (Nat.le_refl _)
  rw [HKB.out] at hf
  obtain ⟨f, d0, d1, d2, d3, d4, d5, d6⟩ := zero7 r3
  have f0 := f 0
  have f1 := f 1
  have f2 := f 2
  have f3 := f 3
  have f4 := f 4
  have f5 := f 5
  have f6 := f 6
  have l1 : w.heap.size < w3.heap.size := lt_of_cell d0
  have HF : Hid (Row7 (((((((w3.setCell ⟨w.heap.size, 0, none⟩ (.int .i64 kd)).setCell ⟨w.heap.size, 1, none⟩ (.int .i64 nm)).setCell ⟨w.heap.size, 2, none⟩ (.string tx)).setCell ⟨w.heap.size, 3, none⟩ (.int .i64 0)).setCell ⟨w.heap.size, 4, none⟩ (.int .i64 0)).setCell ⟨w.heap.size, 5, none⟩ (.slice (some ⟨w.heap.size + 1, 0, none⟩) 0 0)).setCell ⟨w.heap.size, 6, none⟩ (.bool kb)) w.heap.size 0 (leafT kd nm tx) (some ⟨w.heap.size + 1, 0, none⟩, 0, 0) ∧ Below w.heap.size w (((((((w3.setCell ⟨w.heap.size, 0, none⟩ (.int .i64 kd)).setCell ⟨w.heap.size, 1, none⟩ (.int .i64 nm)).setCell ⟨w.heap.size, 2, none⟩ (.string tx)).setCell ⟨w.heap.size, 3, none⟩ (.int .i64 0)).setCell ⟨w.heap.size, 4, none⟩ (.int .i64 0)).setCell ⟨w.heap.size, 5, none⟩ (.slice (some ⟨w.heap.size + 1, 0, none⟩) 0 0)).setCell ⟨w.heap.size, 6, none⟩ (.bool kb))) := hf
  clear hN hf r3 hb3 hbb b2 f
  go_wp2
  refine bodyPost_ret (results_cell7 rfl _ w.heap.size rfl _ _ _ HF.out.1) rfl ?_
  exact ⟨_, rfl, rfl, HF.out.2⟩
theorem truth_leaf (b : Bool) : truthT b = leafT 74 0 (boolT b) := rfl
theorem kn74 (tx : ByteArray) : knT (leafT 74 0 tx) = true := by
  rw [leafT, mkT, knT_eq]
  simp [knStep]
set_option maxRecDepth 20000 in
set_option maxHeartbeats 2000000 in
theorem truth_any (b : Bool) (w : World) :
    Calls Tryz.prog 99 #[.bool b] w fun e w' => ∃ s : Sl3, s.2.1 = 0 ∧ e = .returned (.agg (sv (truthT b) s).toArray) ∧ Below w.heap.size w w' := by
  have b1 := (Below.refl w.heap.size w).alloc (Nat.le_refl _) (.cells #[.int .i64 0, .int .i64 0, .string ⟨#[]⟩, .int .i64 0, .int .i64 0, .slice none 0 0, .bool false] 59)
  have r0 : (w.alloc (.cells #[.int .i64 0, .int .i64 0, .string ⟨#[]⟩, .int .i64 0, .int .i64 0, .slice none 0 0, .bool false] 59)).heap[w.heap.size]? = some (.cells #[.int .i64 0, .int .i64 0, .string ⟨#[]⟩, .int .i64 0, .int .i64 0, .slice none 0 0, .bool false] 59 (0, 0)) := heap_alloc_new _ _
  have hN := leaf_any 74 0 (boolT b) (by decide) (w.alloc (.cells #[.int .i64 0, .int .i64 0, .string ⟨#[]⟩, .int .i64 0, .int .i64 0, .slice none 0 0, .bool false] 59))
  have hsz : (w.alloc (.cells #[.int .i64 0, .int .i64 0, .string ⟨#[]⟩, .int .i64 0, .int .i64 0, .slice none 0 0, .bool false] 59)).heap.size = w.heap.size + 1 := by simp
  have HSZ : Hid _ := hsz
  have HR0 : Hid _ := r0
  rw [truth_leaf]
  have hsv : ∀ s : Sl3, (sv (leafT 74 0 (boolT b)) s).toArray = #[.int .i64 74, .int .i64 0, .string (boolT b), .int .i64 0, .int .i64 0, .slice s.1 s.2.1 s.2.2, .bool true] := by
    intro s
    rw [← kn74 (boolT b)]
    rfl
  simp only [hsv] at hN
  clear r0 hsz hsv
  cases b
  rotate_left
  · simp only [boolT, if_true] at hN ⊢
    go_enter Tryz.func99, Tryz.ntmps99
    go_wp2_with fail
    refine hN.mono ?_
    rintro e w3 ⟨⟨so, sl, sc⟩, hs0, rfl, hb3⟩
    simp only at hs0
    subst hs0
    have r3 := (hb3.block w.heap.size (by rw [HSZ.out]; omega)).trans HR0.out
    have hbb := Below.step b1 hb3
    have hf := seven_fin (leafT 74 0 ⟨#[116, 114, 117, 101]⟩) (so, 0, sc) r3 hbb (Nat.le_refl _)
    rw [kn74] at hf
    obtain ⟨f, d0, d1, d2, d3, d4, d5, d6⟩ := zero7 r3
    have f0 := f 0
    have f1 := f 1
    have f2 := f 2
    have f3 := f 3
    have f4 := f 4
    have f5 := f 5
    have f6 := f 6
    have l1 : w.heap.size < w3.heap.size := lt_of_cell d0
    have HF : Hid (Row7 (((((((w3.setCell ⟨w.heap.size, 0, none⟩ (.int .i64 74)).setCell ⟨w.heap.size, 1, none⟩ (.int .i64 0)).setCell ⟨w.heap.size, 2, none⟩ (.string ⟨#[116, 114, 117, 101]⟩)).setCell ⟨w.heap.size, 3, none⟩ (.int .i64 0)).setCell ⟨w.heap.size, 4, none⟩ (.int .i64 0)).setCell ⟨w.heap.size, 5, none⟩ (.slice so 0 sc)).setCell ⟨w.heap.size, 6, none⟩ (.bool true)) w.heap.size 0 (leafT 74 0 ⟨#[116, 114, 117, 101]⟩) (so, 0, sc) ∧ Below w.heap.size w (((((((w3.setCell ⟨w.heap.size, 0, none⟩ (.int .i64 74)).setCell ⟨w.heap.size, 1, none⟩ (.int .i64 0)).setCell ⟨w.heap.size, 2, none⟩ (.string ⟨#[116, 114, 117, 101]⟩)).setCell ⟨w.heap.size, 3, none⟩ (.int .i64 0)).setCell ⟨w.heap.size, 4, none⟩ (.int .i64 0)).setCell ⟨w.heap.size, 5, none⟩ (.slice so 0 sc)).setCell ⟨w.heap.size, 6, none⟩ (.bool true))) := hf
    clear hN hf r3 hb3 hbb b1 f
    go_wp2
    refine bodyPost_ret (results_cell7 rfl _ w.heap.size rfl _ _ _ HF.out.1) rfl ?_
    exact ⟨_, rfl, rfl, HF.out.2⟩
  · simp only [boolT, Bool.false_eq_true, if_false] at hN ⊢
    go_enter Tryz.func99, Tryz.ntmps99
    go_wp2_with fail
    refine hN.mono ?_
    rintro e w3 ⟨⟨so, sl, sc⟩, hs0, rfl, hb3⟩
    simp only at hs0
    subst hs0
    have r3 := (hb3.block w.heap.size (by rw [HSZ.out]; omega)).trans HR0.out
    have hbb := Below.step b1 hb3
    have hf := seven_fin (leafT 74 0 ⟨#[102, 97, 108, 115, 101]⟩) (so, 0, sc) r3 hbb (Nat.le_refl _)
    rw [kn74] at hf
    obtain ⟨f, d0, d1, d2, d3, d4, d5, d6⟩ := zero7 r3
    have f0 := f 0
    have f1 := f 1
    have f2 := f 2
    have f3 := f 3
    have f4 := f 4
    have f5 := f 5
    have f6 := f 6
    have l1 : w.heap.size < w3.heap.size := lt_of_cell d0
    have HF : Hid (Row7 (((((((w3.setCell ⟨w.heap.size, 0, none⟩ (.int .i64 74)).setCell ⟨w.heap.size, 1, none⟩ (.int .i64 0)).setCell ⟨w.heap.size, 2, none⟩ (.string ⟨#[102, 97, 108, 115, 101]⟩)).setCell ⟨w.heap.size, 3, none⟩ (.int .i64 0)).setCell ⟨w.heap.size, 4, none⟩ (.int .i64 0)).setCell ⟨w.heap.size, 5, none⟩ (.slice so 0 sc)).setCell ⟨w.heap.size, 6, none⟩ (.bool true)) w.heap.size 0 (leafT 74 0 ⟨#[102, 97, 108, 115, 101]⟩) (so, 0, sc) ∧ Below w.heap.size w (((((((w3.setCell ⟨w.heap.size, 0, none⟩ (.int .i64 74)).setCell ⟨w.heap.size, 1, none⟩ (.int .i64 0)).setCell ⟨w.heap.size, 2, none⟩ (.string ⟨#[102, 97, 108, 115, 101]⟩)).setCell ⟨w.heap.size, 3, none⟩ (.int .i64 0)).setCell ⟨w.heap.size, 4, none⟩ (.int .i64 0)).setCell ⟨w.heap.size, 5, none⟩ (.slice so 0 sc)).setCell ⟨w.heap.size, 6, none⟩ (.bool true))) := hf
    clear hN hf r3 hb3 hbb b1 f
    go_wp2
    refine bodyPost_ret (results_cell7 rfl _ w.heap.size rfl _ _ _ HF.out.1) rfl ?_
    exact ⟨_, rfl, rfl, HF.out.2⟩
end Go.Proofs.YtedlofpgddjpgaaGreat

namespace Go.Proofs.YtedlofpgddjpgaaGreat
open Go.RowKit
def xv (x0 x1 x2 x3 x4 x5 : Sl3) : Value := .agg #[.slice x0.1 x0.2.1 x0.2.2, .slice x1.1 x1.2.1 x1.2.2, .slice x2.1 x2.2.1 x2.2.2, .slice x3.1 x3.2.1 x3.2.2, .slice x4.1 x4.2.1 x4.2.2, .slice x5.1 x5.2.1 x5.2.2]
def CntS (w : World) (x : Sl3) (f : Int → Nat) : Prop :=
  ∃ b, x.1 = some ⟨b, 0, none⟩ ∧ x.2.1 = 200001 ∧ ∀ n : Nat, n ≤ 200000 → w.cell? ⟨b, n, none⟩ = some (.int .i64 (f n : Int))
theorem CntS.under {w w' : World} {x : Sl3} {f : Int → Nat} (h : CntS w x f) (hb : Below w.heap.size w w') : CntS w' x f := by
  obtain ⟨b, h1, h2, h3⟩ := h
  refine ⟨b, h1, h2, fun n hn => ?_⟩
  have h4 := hb.block b (lt_of_cell (h3 n hn))
  have h5 := h3 n hn
  simp only [World.cell?, h4] at h5 ⊢
  exact h5
set_option maxRecDepth 20000 in
set_option maxHeartbeats 2000000 in
theorem single_any (bd : Int → Nat) (x0 x1 x2 x3 x4 x5 : Sl3) (num : Int) (w : World) (hx : CntS w x2 bd) (h1 : 1 ≤ num) :
    Calls Tryz.prog 52 #[xv x0 x1 x2 x3 x4 x5, .int .i64 num] w fun e w' => e = .returned (.bool (singleT bd num)) ∧ Below w.heap.size w w' := by
  have bW := (Below.refl w.heap.size w).alloc (Nat.le_refl _) (.cells #[.slice x0.1 x0.2.1 x0.2.2, .slice x1.1 x1.2.1 x1.2.2, .slice x2.1 x2.2.1 x2.2.2, .slice x3.1 x3.2.1 x3.2.2, .slice x4.1 x4.2.1 x4.2.2, .slice x5.1 x5.2.1 x5.2.2] 56)
  have HB : Hid _ := bW
  obtain ⟨b, e1, e2, hc⟩ := hx.under bW
  clear hx
  obtain ⟨xo, xl, xc⟩ := x2
  simp only at e1 e2 hc HB
  subst e1
  subst e2
  unfold xv
  simp only
  have t1 : decide (1 ≤ num) = true := by simpa using h1
  by_cases h2 : num ≤ 200000
  · have t2 : decide (num ≤ 200000) = true := by simpa using h2
    obtain ⟨k, rfl⟩ : ∃ k : Nat, num = (k : Int) := ⟨num.toNat, by omega⟩
    have c1 := hc k (by omega)
    have hk : (k : Int) < 200001 := by omega
    have hk0 : (0 : Int) ≤ (k : Int) := by omega
    have HK : Hid (singleT bd (k : Int) = ((bd (k : Int) : Int) == 1)) := by
      show _ = _
      unfold singleT
      rw [t2]
      by_cases h9 : bd (k : Int) = 1
      · rw [h9]
        rfl
      · have h8 : (bd (k : Int) == 1) = false := beq_eq_false_iff_ne.2 h9
        have h7 : ((bd (k : Int) : Int) == 1) = false := beq_eq_false_iff_ne.2 (by omega)
        rw [h8, h7]
        rfl
    clear bW hc
    go_enter Tryz.func52, Tryz.ntmps52
    go_wp2
    go_ret
    exact ⟨by rw [HK.out]; rfl, HB.out⟩
  · have t2 : decide (num ≤ 200000) = false := by simpa using h2
    have HK : Hid (singleT bd num = false) := by show _ = _; unfold singleT; rw [t2]; rfl
    clear bW hc
    go_enter Tryz.func52, Tryz.ntmps52
    go_wp2
    go_ret
    exact ⟨by rw [HK.out]; rfl, HB.out⟩
end Go.Proofs.YtedlofpgddjpgaaGreat

namespace Go.Proofs.YtedlofpgddjpgaaGreat
open Go.RowKit
set_option maxRecDepth 20000 in
set_option maxHeartbeats 2000000 in
theorem atom_any (bd : Int → Nat) (x0 x1 x2 x3 x4 x5 : Sl3) (n : Nd) (w : World) (hx : CntS w x2 bd) (h1 : n.kind = 70 → 1 ≤ n.num) :
    Calls Tryz.prog 53 #[xv x0 x1 x2 x3 x4 x5, .agg #[.int .i64 n.kind, .int .i64 n.num, .string n.text, .int .i64 n.kids, .int .i64 n.place]] w fun e w' => e = .returned (.bool (atomT bd n)) ∧ Below w.heap.size w w' := by
  obtain ⟨kd, nm, tx, kk, pl⟩ := n
  simp only at h1 ⊢
  have bW := (Below.refl w.heap.size w).alloc (Nat.le_refl _) (.cells #[.slice x0.1 x0.2.1 x0.2.2, .slice x1.1 x1.2.1 x1.2.2, .slice x2.1 x2.2.1 x2.2.2, .slice x3.1 x3.2.1 x3.2.2, .slice x4.1 x4.2.1 x4.2.2, .slice x5.1 x5.2.1 x5.2.2] 56)
  have bW2 := bW.alloc bW.size (.cells #[.int .i64 kd, .int .i64 nm, .string tx, .int .i64 kk, .int .i64 pl] 34)
  have HB : Hid _ := bW2
  by_cases h70 : kd = 70
  · subst h70
    have hS := single_any bd x0 x1 x2 x3 x4 x5 nm _ (hx.under bW2) (h1 rfl)
    have HK : Hid (atomT bd ⟨70, nm, tx, kk, pl⟩ = singleT bd nm) := by show _ = _; unfold atomT; simp
    unfold xv at hS ⊢
    clear bW bW2 hx h1
    go_enter Tryz.func53, Tryz.ntmps53
    go_wp2_with fail
    refine hS.mono ?_
    rintro e w3 ⟨rfl, hb3⟩
    have hbb := Below.step HB.out hb3
    clear hS hb3
    go_wp2
    go_ret
    exact ⟨by rw [HK.out]; rfl, hbb⟩
  · have t70 : (kd == 70) = false := by simpa using h70
    unfold xv
    have HK : Hid (atomT bd ⟨kd, nm, tx, kk, pl⟩ = (kd == 72 || kd == 73 || kd == 74 || kd == 71)) := by show _ = _; unfold atomT; simp [h70]
    clear bW bW2 hx h1
    by_cases h72 : kd = 72
    · subst h72
      go_enter Tryz.func53, Tryz.ntmps53
      go_wp2
      go_ret
      exact ⟨by rw [HK.out]; rfl, HB.out⟩
    have t72 : (kd == 72) = false := by simpa using h72
    by_cases h73 : kd = 73
    · subst h73
      go_enter Tryz.func53, Tryz.ntmps53
      go_wp2
      go_ret
      exact ⟨by rw [HK.out]; rfl, HB.out⟩
    have t73 : (kd == 73) = false := by simpa using h73
    by_cases h74 : kd = 74
    · subst h74
      go_enter Tryz.func53, Tryz.ntmps53
      go_wp2
      go_ret
      exact ⟨by rw [HK.out]; rfl, HB.out⟩
    have t74 : (kd == 74) = false := by simpa using h74
    rw [t72, t73, t74] at HK
    go_enter Tryz.func53, Tryz.ntmps53
    go_wp2
    go_ret
    exact ⟨by rw [HK.out]; rfl, HB.out⟩
end Go.Proofs.YtedlofpgddjpgaaGreat

namespace Go.Proofs.YtedlofpgddjpgaaGreat
open Go.RowKit
theorem results_cell7b {fn : Func} {a b : Tmp} (h : fn.results = #[.cell a 59, .tmp b]) (tmps : Array Value) (g : Nat) (hta : tmps[a]?.getD undef = .pointer (some ⟨g, 0, none⟩)) (w : World) (T : Tre) (s : Sl3) (hr : Row7 w g 0 T s) (v : Value) (hv : tmps[b]?.getD undef = v) : (results fn tmps).run Tryz.prog w = .ok (.tuple #[.agg (sv T s).toArray, v]) w := by
  obtain ⟨c0, c1, c2, c3, c4, c5, c6⟩ := hr
  simp only [Nat.zero_add] at c0 c1 c2 c3 c4 c5 c6
  have e : ∀ w, (isAgg 59).run Tryz.prog w = .ok true w := fun w => by kernel_rfl
  have e2 : ∀ w, (sizeOf 59).run Tryz.prog w = .ok 7 w := fun w => by kernel_rfl
  simp [results, h, go_sem, hta, hv, e, e2, c0, c1, c2, c3, c4, c5, c6, sv]
def BinRes (w : World) (o : Option Tre) (e : Ending) (w' : World) : Prop :=
  Below w.heap.size w w' ∧ ∃ T s, e = .returned (.tuple #[.agg (sv T s).toArray, .bool o.isSome]) ∧ (∀ R, o = some R → T = R ∧ s.2.1 = 0 ∧ R.ks = [])
theorem bin_refuse (w : World) (A : Tre) (s : Sl3) (X Y : Obj) :
    Row7 (((w.alloc X).alloc Y).alloc (.cells #[.int .i64 A.nd.kind, .int .i64 A.nd.num, .string A.nd.text, .int .i64 A.nd.kids, .int .i64 A.nd.place, .slice s.1 s.2.1 s.2.2, .bool (knT A)] 59)) (w.heap.size + 1 + 1) 0 A s ∧ Below w.heap.size w (((w.alloc X).alloc Y).alloc (.cells #[.int .i64 A.nd.kind, .int .i64 A.nd.num, .string A.nd.text, .int .i64 A.nd.kids, .int .i64 A.nd.place, .slice s.1 s.2.1 s.2.2, .bool (knT A)] 59)) := by
  have b1 := (Below.refl w.heap.size w).alloc (Nat.le_refl _) X
  have b2 := b1.alloc b1.size Y
  refine ⟨row7_of ?_, b2.alloc b2.size _⟩
  have h9 := heap_alloc_new ((w.alloc X).alloc Y) (.cells #[.int .i64 A.nd.kind, .int .i64 A.nd.num, .string A.nd.text, .int .i64 A.nd.kids, .int .i64 A.nd.place, .slice s.1 s.2.1 s.2.2, .bool (knT A)] 59)
  rw [World.size_alloc, World.size_alloc] at h9
  exact h9
set_option maxRecDepth 20000 in
set_option maxHeartbeats 2000000 in
theorem bin_no (op : ByteArray) (a b : Tre) (s s' : Sl3) (w : World) (h1 : ¬ (op.toList = [94] ∧ a.nd.kind = 73 ∧ b.nd.kind = 73)) (h2 : ¬ (a.nd.kind = 72 ∧ b.nd.kind = 72)) :
    Calls Tryz.prog 66 #[.string op, .agg (sv a s).toArray, .agg (sv b s').toArray] w fun e w' => BinRes w (binT op.toList a b) e w' := by
  have hb : binT op.toList a b = none := by unfold binT; rw [if_neg h1, if_neg h2]
  rw [hb]
  have HR : Hid _ := bin_refuse w a s (.cells (sv a s).toArray 59) (.cells (sv b s').toArray 59)
  obtain ⟨⟨kd, nm, tx, kk, pl⟩, aks⟩ := a
  obtain ⟨⟨md, mn, mx, mk, mp⟩, bks⟩ := b
  obtain ⟨so, sl, sc⟩ := s
  obtain ⟨uo, ul, uc⟩ := s'
  unfold sv at HR ⊢
  simp only [Tre.nd] at h1 h2 HR ⊢
  generalize knT (.mk ⟨kd, nm, tx, kk, pl⟩ aks) = kb at HR ⊢
  clear hb
  by_cases h94 : op.toList = [94]
  · have t94 : (op.toList == [94]) = true := by rw [h94]; rfl
    by_cases h73 : kd = 73
    · subst h73
      have m73 : (md == 73) = false := beq_eq_false_iff_ne.2 (fun h => h1 ⟨h94, rfl, h⟩)
      clear h1 h2 h94
      go_enter Tryz.func66, Tryz.ntmps66
      go_wp2
      refine bodyPost_ret (results_cell7b rfl _ (w.heap.size + 1 + 1) rfl _ _ _ HR.out.1 _ rfl) rfl ?_
      exact ⟨HR.out.2, _, _, rfl, fun R h => by cases h⟩
    · have k73 : (kd == 73) = false := beq_eq_false_iff_ne.2 h73
      by_cases h72 : kd = 72
      · subst h72
        have m72 : (md != 72) = true := by simp; exact fun h => h2 ⟨rfl, h⟩
        clear h1 h2 h94
        go_enter Tryz.func66, Tryz.ntmps66
        go_wp2
        refine bodyPost_ret (results_cell7b rfl _ (w.heap.size + 1 + 1) rfl _ _ _ HR.out.1 _ rfl) rfl ?_
        exact ⟨HR.out.2, _, _, rfl, fun R h => by cases h⟩
      · have k72 : (kd != 72) = true := by simpa using h72
        clear h1 h2 h94
        go_enter Tryz.func66, Tryz.ntmps66
        go_wp2
        refine bodyPost_ret (results_cell7b rfl _ (w.heap.size + 1 + 1) rfl _ _ _ HR.out.1 _ rfl) rfl ?_
        exact ⟨HR.out.2, _, _, rfl, fun R h => by cases h⟩
  · have t94 : (op.toList == [94]) = false := beq_eq_false_iff_ne.2 h94
    by_cases h72 : kd = 72
    · subst h72
      have m72 : (md != 72) = true := by simp; exact fun h => h2 ⟨rfl, h⟩
      clear h1 h2
      go_enter Tryz.func66, Tryz.ntmps66
      go_wp2
      refine bodyPost_ret (results_cell7b rfl _ (w.heap.size + 1 + 1) rfl _ _ _ HR.out.1 _ rfl) rfl ?_
      exact ⟨HR.out.2, _, _, rfl, fun R h => by cases h⟩
    · have k72 : (kd != 72) = true := by simpa using h72
      clear h1 h2
      go_enter Tryz.func66, Tryz.ntmps66
      go_wp2
      refine bodyPost_ret (results_cell7b rfl _ (w.heap.size + 1 + 1) rfl _ _ _ HR.out.1 _ rfl) rfl ?_
      exact ⟨HR.out.2, _, _, rfl, fun R h => by cases h⟩
theorem kn73 (tx : ByteArray) : knT (leafT 73 0 tx) = true := by
  rw [leafT, mkT, knT_eq]
  simp [knStep]
theorem three_at (w : World) (X Y : Obj) : (((w.alloc X).alloc Y).alloc (.cells #[.int .i64 0, .int .i64 0, .string ⟨#[]⟩, .int .i64 0, .int .i64 0, .slice none 0 0, .bool false] 59)).heap[w.heap.size + 1 + 1]? = some (.cells #[.int .i64 0, .int .i64 0, .string ⟨#[]⟩, .int .i64 0, .int .i64 0, .slice none 0 0, .bool false] 59 (0, 0)) ∧ (((w.alloc X).alloc Y).alloc (.cells #[.int .i64 0, .int .i64 0, .string ⟨#[]⟩, .int .i64 0, .int .i64 0, .slice none 0 0, .bool false] 59)).heap.size = w.heap.size + 1 + 1 + 1 ∧ Below w.heap.size w (((w.alloc X).alloc Y).alloc (.cells #[.int .i64 0, .int .i64 0, .string ⟨#[]⟩, .int .i64 0, .int .i64 0, .slice none 0 0, .bool false] 59)) := by
  have b1 := (Below.refl w.heap.size w).alloc (Nat.le_refl _) X
  have b2 := b1.alloc b1.size Y
  refine ⟨?_, by simp, b2.alloc b2.size _⟩
  have h9 := heap_alloc_new ((w.alloc X).alloc Y) (.cells #[.int .i64 0, .int .i64 0, .string ⟨#[]⟩, .int .i64 0, .int .i64 0, .slice none 0 0, .bool false] 59)
  rw [World.size_alloc, World.size_alloc] at h9
  exact h9
set_option maxRecDepth 20000 in
set_option maxHeartbeats 2000000 in
theorem bin_text (op : ByteArray) (a b : Tre) (s s' : Sl3) (w : World) (h1 : op.toList = [94] ∧ a.nd.kind = 73 ∧ b.nd.kind = 73) (h2 : a.nd.text.size ≤ 1048576) (h3 : b.nd.text.size ≤ 1048576) :
    Calls Tryz.prog 66 #[.string op, .agg (sv a s).toArray, .agg (sv b s').toArray] w fun e w' => BinRes w (binT op.toList a b) e w' := by
  have HBT : Hid ((a.nd.text.size + b.nd.text.size ≤ 1000 → binT op.toList a b = some (leafT 73 0 (a.nd.text ++ b.nd.text))) ∧ (¬ a.nd.text.size + b.nd.text.size ≤ 1000 → binT op.toList a b = none)) :=
    ⟨fun h => by unfold binT; rw [if_pos h1, if_pos h], fun h => by unfold binT; rw [if_pos h1, if_neg h]⟩
  obtain ⟨⟨kd, nm, tx, kk, pl⟩, aks⟩ := a
  obtain ⟨⟨md, mn, mx, mk, mp⟩, bks⟩ := b
  obtain ⟨so, sl, sc⟩ := s
  obtain ⟨uo, ul, uc⟩ := s'
  unfold sv
  simp only [Tre.nd] at h1 h2 h3 HBT ⊢
  have h4 : ¬ (9223372036854775807 < tx.size + mx.size) := by omega
  obtain ⟨h94, rfl, rfl⟩ := h1
  generalize knT (.mk ⟨73, nm, tx, kk, pl⟩ aks) = kb
  generalize knT (.mk ⟨73, mn, mx, mk, mp⟩ bks) = vb
  generalize binT op.toList (.mk ⟨73, nm, tx, kk, pl⟩ aks) (.mk ⟨73, mn, mx, mk, mp⟩ bks) = bt at HBT ⊢
  have t94 : (op.toList == [94]) = true := by rw [h94]; rfl
  obtain ⟨r0, hsz, b3⟩ := three_at w (.cells #[.int .i64 73, .int .i64 nm, .string tx, .int .i64 kk, .int .i64 pl, .slice so sl sc, .bool kb] 59) (.cells #[.int .i64 73, .int .i64 mn, .string mx, .int .i64 mk, .int .i64 mp, .slice uo ul uc, .bool vb] 59)
  have HSZ : Hid _ := hsz
  have HR0 : Hid _ := r0
  have hN := leaf_any 73 0 (tx ++ mx) (by decide) (((w.alloc (.cells #[.int .i64 73, .int .i64 nm, .string tx, .int .i64 kk, .int .i64 pl, .slice so sl sc, .bool kb] 59)).alloc (.cells #[.int .i64 73, .int .i64 mn, .string mx, .int .i64 mk, .int .i64 mp, .slice uo ul uc, .bool vb] 59)).alloc (.cells #[.int .i64 0, .int .i64 0, .string ⟨#[]⟩, .int .i64 0, .int .i64 0, .slice none 0 0, .bool false] 59))
  have hsv : ∀ s : Sl3, (sv (leafT 73 0 (tx ++ mx)) s).toArray = #[.int .i64 73, .int .i64 0, .string (tx ++ mx), .int .i64 0, .int .i64 0, .slice s.1 s.2.1 s.2.2, .bool true] := by
    intro s
    rw [← kn73 (tx ++ mx)]
    rfl
  simp only [hsv] at hN
  clear hsv r0 hsz h94
  go_enter Tryz.func66, Tryz.ntmps66
  go_wp2_with (go_at_call 67; refine hN.mono ?_)
  rintro e w3 ⟨⟨qo, ql, qc⟩, hs0, rfl, hb3⟩
  simp only at hs0
  subst hs0
  have r3 := (hb3.block (w.heap.size + 1 + 1) (by rw [HSZ.out]; omega)).trans HR0.out
  have hbb := Below.step b3 hb3
  have hf := seven_fin (leafT 73 0 (tx ++ mx)) (qo, 0, qc) r3 hbb (by omega)
  rw [kn73] at hf
  obtain ⟨f, d0, d1, d2, d3, d4, d5, d6⟩ := zero7 r3
  have f0 := f 0
  have f1 := f 1
  have f2 := f 2
  have f3 := f 3
  have f4 := f 4
  have f5 := f 5
  have f6 := f 6
  have l1 : w.heap.size + 1 + 1 < w3.heap.size := lt_of_cell d0
  have HF : Hid (Row7 (((((((w3.setCell ⟨w.heap.size + 1 + 1, 0, none⟩ (.int .i64 73)).setCell ⟨w.heap.size + 1 + 1, 1, none⟩ (.int .i64 0)).setCell ⟨w.heap.size + 1 + 1, 2, none⟩ (.string (tx ++ mx))).setCell ⟨w.heap.size + 1 + 1, 3, none⟩ (.int .i64 0)).setCell ⟨w.heap.size + 1 + 1, 4, none⟩ (.int .i64 0)).setCell ⟨w.heap.size + 1 + 1, 5, none⟩ (.slice qo 0 qc)).setCell ⟨w.heap.size + 1 + 1, 6, none⟩ (.bool true)) (w.heap.size + 1 + 1) 0 (leafT 73 0 (tx ++ mx)) (qo, 0, qc) ∧ Below w.heap.size w (((((((w3.setCell ⟨w.heap.size + 1 + 1, 0, none⟩ (.int .i64 73)).setCell ⟨w.heap.size + 1 + 1, 1, none⟩ (.int .i64 0)).setCell ⟨w.heap.size + 1 + 1, 2, none⟩ (.string (tx ++ mx))).setCell ⟨w.heap.size + 1 + 1, 3, none⟩ (.int .i64 0)).setCell ⟨w.heap.size + 1 + 1, 4, none⟩ (.int .i64 0)).setCell ⟨w.heap.size + 1 + 1, 5, none⟩ (.slice qo 0 qc)).setCell ⟨w.heap.size + 1 + 1, 6, none⟩ (.bool true))) := hf
  clear hN hf r3 hb3 hbb b3 f
  go_wp2
  refine bodyPost_ret (results_cell7b rfl _ (w.heap.size + 1 + 1) rfl _ _ _ HF.out.1 (.bool (decide ((tx.size : Int) + (mx.size : Int) ≤ 1000))) rfl) rfl ?_
  refine ⟨HF.out.2, leafT 73 0 (tx ++ mx), (qo, 0, qc), ?_, ?_⟩
  · have h5 : bt.isSome = decide ((tx.size : Int) + (mx.size : Int) ≤ 1000) := by
      by_cases h9 : tx.size + mx.size ≤ 1000
      · rw [HBT.out.1 h9, decide_eq_true (by omega)]
        rfl
      · rw [HBT.out.2 h9, decide_eq_false (by omega)]
        rfl
    rw [h5]
  · intro R hR
    by_cases h9 : tx.size + mx.size ≤ 1000
    · rw [HBT.out.1 h9] at hR
      cases hR
      exact ⟨rfl, rfl, rfl⟩
    · rw [HBT.out.2 h9] at hR
      cases hR
end Go.Proofs.YtedlofpgddjpgaaGreat

namespace Go.Proofs.YtedlofpgddjpgaaGreat
open Go.RowKit
def nineB : List ByteArray := [⟨#[43]⟩, ⟨#[45]⟩, ⟨#[42]⟩, ⟨#[60]⟩, ⟨#[60, 61]⟩, ⟨#[62]⟩, ⟨#[62, 61]⟩, ⟨#[47]⟩, ⟨#[37]⟩]
theorem of_toList {op : ByteArray} {l : List UInt8} (h : op.toList = l) : op = ⟨l.toArray⟩ := by
  rw [Lib.toList_data] at h
  subst h
  cases op
  rfl
theorem nine_any (s : ByteArray) : (nineB.any fun o => o.toList == s.toList) = ([[43], [45], [42], [60], [60, 61], [62], [62, 61], [47], [37]] : List (List UInt8)).any (fun o => o == s.toList) := by
  have e : ([[43], [45], [42], [60], [60, 61], [62], [62, 61], [47], [37]] : List (List UInt8)) = nineB.map ByteArray.toList := by kernel_rfl
  rw [e, List.any_map]
  rfl
theorem ar_none {s : ByteArray} (h : (nineB.any fun o => o.toList == s.toList) = false) (a b : Int) : arithT s.toList a b = none := by
  rw [nine_any] at h
  generalize s.toList = l at h ⊢
  simp at h
  obtain ⟨h1, h2, h3, h4, h5, h6, h7, h8, h9⟩ := h
  unfold arithT
  rw [if_neg (fun e => h1 e.symm), if_neg (fun e => h2 e.symm), if_neg (fun e => h3 e.symm), if_neg (fun e => h4 e.symm), if_neg (fun e => h5 e.symm), if_neg (fun e => h6 e.symm), if_neg (fun e => h7 e.symm), if_neg (fun e => h8 e.symm), if_neg (fun e => h9 e.symm)]
theorem nine_hop {s : ByteArray} (h : (nineB.any fun o => o.toList == s.toList) = true) (a b : Int) (ha : -9223372036854775808 ≤ a ∧ a ≤ 9223372036854775807) (w : World) :
    Calls Tryz.prog 98 #[.agg (mach (none, 0, 0) 0 0), .string s, .int .i64 a, .int .i64 b] w fun e w' => ∃ k nm tx st, MachRes w k nm tx st e w' ∧ ArOk s.toList a b k nm tx st := by
  rw [nine_any] at h
  simp at h
  refine arith_any s s.toList ?_ a b ha w
  rcases h with h | h | h | h | h | h | h | h | h
  · exact .inl ⟨of_toList h.symm, h.symm⟩
  · exact .inr (.inl ⟨of_toList h.symm, h.symm⟩)
  · exact .inr (.inr (.inl ⟨of_toList h.symm, h.symm⟩))
  · exact .inr (.inr (.inr (.inl ⟨of_toList h.symm, h.symm⟩)))
  · exact .inr (.inr (.inr (.inr (.inl ⟨of_toList h.symm, h.symm⟩))))
  · exact .inr (.inr (.inr (.inr (.inr (.inl ⟨of_toList h.symm, h.symm⟩)))))
  · exact .inr (.inr (.inr (.inr (.inr (.inr (.inl ⟨of_toList h.symm, h.symm⟩))))))
  · exact .inr (.inr (.inr (.inr (.inr (.inr (.inr (.inl ⟨of_toList h.symm, h.symm⟩)))))))
  · exact .inr (.inr (.inr (.inr (.inr (.inr (.inr (.inr ⟨of_toList h.symm, h.symm⟩)))))))
theorem nine_strs (w : World) : Strs (w.alloc (.cells #[.string ⟨#[43]⟩, .string ⟨#[45]⟩, .string ⟨#[42]⟩, .string ⟨#[60]⟩, .string ⟨#[60, 61]⟩, .string ⟨#[62]⟩, .string ⟨#[62, 61]⟩, .string ⟨#[47]⟩, .string ⟨#[37]⟩] 9)) (some ⟨w.heap.size, 0, none⟩) nineB := by
  intro i h
  refine ⟨_, _, rfl, ?_⟩
  rw [cell_of_row _ _ _ _ _ _ (heap_alloc_new w _)]
  have h9 : i < 9 := h
  rcases (by omega : i = 0 ∨ i = 1 ∨ i = 2 ∨ i = 3 ∨ i = 4 ∨ i = 5 ∨ i = 6 ∨ i = 7 ∨ i = 8) with rfl | rfl | rfl | rfl | rfl | rfl | rfl | rfl | rfl <;> rfl
theorem bin_refuse2 (w : World) (A : Tre) (s : Sl3) (X Y V : Obj) :
    Row7 ((((w.alloc X).alloc Y).alloc (.cells #[.int .i64 A.nd.kind, .int .i64 A.nd.num, .string A.nd.text, .int .i64 A.nd.kids, .int .i64 A.nd.place, .slice s.1 s.2.1 s.2.2, .bool (knT A)] 59)).alloc V) (w.heap.size + 1 + 1) 0 A s ∧ Below w.heap.size w ((((w.alloc X).alloc Y).alloc (.cells #[.int .i64 A.nd.kind, .int .i64 A.nd.num, .string A.nd.text, .int .i64 A.nd.kids, .int .i64 A.nd.place, .slice s.1 s.2.1 s.2.2, .bool (knT A)] 59)).alloc V) := by
  obtain ⟨h1, h2⟩ := bin_refuse w A s X Y
  exact ⟨h1.but (But.ofBelow (S := fun _ => False) ((Below.refl _ _).alloc (Nat.le_refl _) V)) (fun h => h), h2.alloc h2.size V⟩
end Go.Proofs.YtedlofpgddjpgaaGreat
