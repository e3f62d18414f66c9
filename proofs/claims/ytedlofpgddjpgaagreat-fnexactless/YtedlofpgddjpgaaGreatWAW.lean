import Derived.Test.YtedlofpgddjpgaaGreatWAV
import Derived.Deep.RegionHeld3
namespace Go.Proofs.YtedlofpgddjpgaaGreat
open Go.RowKit
def ArOk (op : List UInt8) (a b : Int) (k nm : Int) (tx : ByteArray) (st : Int) : Prop :=
  (st = 1 ∧ arithT op a b = none) ∨ (st = 0 ∧ k = 1 ∧ arithT op a b = some (leafT 72 nm ⟨#[]⟩)) ∨ (st = 0 ∧ k = 4 ∧ ∃ t : Bool, tx = boolT t ∧ arithT op a b = some (truthT t))
theorem arith_two (w : World) : ((w.alloc (.cells #[.slice none 0 0, .slice none 0 0, .slice none 0 0, .slice none 0 0, .int .i64 0, .int .i64 0, .int .i64 0, .string ⟨#[]⟩] 131)).alloc (.cells #[.slice none 0 0, .slice none 0 0, .slice none 0 0, .slice none 0 0, .int .i64 0, .int .i64 0, .int .i64 0, .string ⟨#[]⟩] 131)).heap[w.heap.size + 1]? = some (.cells #[.slice none 0 0, .slice none 0 0, .slice none 0 0, .slice none 0 0, .int .i64 0, .int .i64 0, .int .i64 0, .string ⟨#[]⟩] 131 (0, 0)) ∧ ((w.alloc (.cells #[.slice none 0 0, .slice none 0 0, .slice none 0 0, .slice none 0 0, .int .i64 0, .int .i64 0, .int .i64 0, .string ⟨#[]⟩] 131)).alloc (.cells #[.slice none 0 0, .slice none 0 0, .slice none 0 0, .slice none 0 0, .int .i64 0, .int .i64 0, .int .i64 0, .string ⟨#[]⟩] 131)).heap.size = w.heap.size + 1 + 1 ∧ Below w.heap.size w ((w.alloc (.cells #[.slice none 0 0, .slice none 0 0, .slice none 0 0, .slice none 0 0, .int .i64 0, .int .i64 0, .int .i64 0, .string ⟨#[]⟩] 131)).alloc (.cells #[.slice none 0 0, .slice none 0 0, .slice none 0 0, .slice none 0 0, .int .i64 0, .int .i64 0, .int .i64 0, .string ⟨#[]⟩] 131)) := by
  have b1 := (Below.refl w.heap.size w).alloc (Nat.le_refl _) (.cells #[.slice none 0 0, .slice none 0 0, .slice none 0 0, .slice none 0 0, .int .i64 0, .int .i64 0, .int .i64 0, .string ⟨#[]⟩] 131)
  have b2 := b1.alloc b1.size (.cells #[.slice none 0 0, .slice none 0 0, .slice none 0 0, .slice none 0 0, .int .i64 0, .int .i64 0, .int .i64 0, .string ⟨#[]⟩] 131)
  refine ⟨?_, by simp, b2⟩
  have h9 := heap_alloc_new (w.alloc (.cells #[.slice none 0 0, .slice none 0 0, .slice none 0 0, .slice none 0 0, .int .i64 0, .int .i64 0, .int .i64 0, .string ⟨#[]⟩] 131)) (.cells #[.slice none 0 0, .slice none 0 0, .slice none 0 0, .slice none 0 0, .int .i64 0, .int .i64 0, .int .i64 0, .string ⟨#[]⟩] 131)
  rw [World.size_alloc] at h9
  exact h9
theorem wr64 (x : Int) : IntKind.i64.wrap x = wrap64 x := by
  unfold wrap64
  simp only [IntKind.wrap, IntKind.signed, IntKind.bits]
  simp
  split <;> omega
theorem ar_add (a b : Int) : arithT [43] a b = some (leafT 72 (wrap64 (a + b)) ⟨#[]⟩) := by simp [arithT, wr64]
theorem ar_sub (a b : Int) : arithT [45] a b = some (leafT 72 (wrap64 (a - b)) ⟨#[]⟩) := by simp [arithT, wr64]
theorem ar_mul (a b : Int) : arithT [42] a b = some (leafT 72 (wrap64 (a * b)) ⟨#[]⟩) := by simp [arithT, wr64]
theorem ar_lt (a b : Int) : arithT [60] a b = some (truthT (decide (a < b))) := by simp [arithT]
theorem ar_le (a b : Int) : arithT [60, 61] a b = some (truthT (decide (a ≤ b))) := by simp [arithT]
theorem ar_gt (a b : Int) : arithT [62] a b = some (truthT (decide (b < a))) := by simp [arithT]
theorem ar_ge (a b : Int) : arithT [62, 61] a b = some (truthT (decide (b ≤ a))) := by simp [arithT]
set_option hygiene false in
macro "ar_tail" st:term:max ar:term:max : tactic => `(tactic| (
  rintro e w3 ⟨g, c, rfl, hc, c0, c1, c2, hg, hb3⟩
  have r3 := (hb3.block (w.heap.size + 1) (by rw [HSZ.out]; omega)).trans HR1.out
  have hbb := Below.step b2 hb3
  rw [HSZ.out] at hg
  obtain ⟨hf, hWF⟩ := mach_fin (c := c) $st r3 hbb (by omega) (by omega) c0 c1 c2
  obtain ⟨f, d0, d1, d2, d3, d4, d5, d6, d7⟩ := zero8 r3
  have f0 := f 0
  have f1 := f 1
  have f2 := f 2
  have f3 := f 3
  have f4 := f 4
  have f5 := f 5
  have f6 := f 6
  have f7 := f 7
  have HF : Hid _ := hf
  have HW : Hid _ := hWF
  have l1 : w.heap.size + 1 < w3.heap.size := lt_of_cell d0
  clear hN hf hWF r3 hb3 hbb b2 c0 c1 c2 f
  go_wp2
  have h9 := HF.out
  refine bodyPost_ret (results_mach rfl _ (w.heap.size + 1) rfl _ (some ⟨g, 0, none⟩, 1, c) $st 0 h9 _ rfl) rfl ?_
  exact ⟨_, _, _, _, ⟨g, c, rfl, hc, HW.out.1, HW.out.2.1, HW.out.2.2.1, by omega, HW.out.2.2.2⟩, $ar⟩))
set_option maxRecDepth 20000 in
set_option maxHeartbeats 4000000 in
theorem arith_add (a b : Int) (w : World) :
    Calls Tryz.prog 98 #[.agg (mach (none, 0, 0) 0 0), .string ⟨#[43]⟩, .int .i64 a, .int .i64 b] w fun e w' => ∃ k nm tx st, MachRes w k nm tx st e w' ∧ ArOk [43] a b k nm tx st := by
  obtain ⟨r1, hsz, b2⟩ := arith_two w
  have HR1 : Hid _ := r1
  have HSZ : Hid _ := hsz
  have hN := number_any (wrap64 (a + b)) ((w.alloc (.cells #[.slice none 0 0, .slice none 0 0, .slice none 0 0, .slice none 0 0, .int .i64 0, .int .i64 0, .int .i64 0, .string ⟨#[]⟩] 131)).alloc (.cells #[.slice none 0 0, .slice none 0 0, .slice none 0 0, .slice none 0 0, .int .i64 0, .int .i64 0, .int .i64 0, .string ⟨#[]⟩] 131))
  unfold MachRes mach at hN
  unfold mach
  simp only at hN ⊢
  clear r1 hsz
  go_enter Tryz.func98, Tryz.ntmps98
  go_wp2_with fail
  refine hN.mono ?_
  ar_tail 0 (.inr (.inl ⟨rfl, rfl, ar_add a b⟩))
set_option maxRecDepth 20000 in
set_option maxHeartbeats 4000000 in
theorem arith_sub (a b : Int) (w : World) :
    Calls Tryz.prog 98 #[.agg (mach (none, 0, 0) 0 0), .string ⟨#[45]⟩, .int .i64 a, .int .i64 b] w fun e w' => ∃ k nm tx st, MachRes w k nm tx st e w' ∧ ArOk [45] a b k nm tx st := by
  obtain ⟨r1, hsz, b2⟩ := arith_two w
  have HR1 : Hid _ := r1
  have HSZ : Hid _ := hsz
  have hN := number_any (wrap64 (a - b)) ((w.alloc (.cells #[.slice none 0 0, .slice none 0 0, .slice none 0 0, .slice none 0 0, .int .i64 0, .int .i64 0, .int .i64 0, .string ⟨#[]⟩] 131)).alloc (.cells #[.slice none 0 0, .slice none 0 0, .slice none 0 0, .slice none 0 0, .int .i64 0, .int .i64 0, .int .i64 0, .string ⟨#[]⟩] 131))
  unfold MachRes mach at hN
  unfold mach
  simp only at hN ⊢
  clear r1 hsz
  go_enter Tryz.func98, Tryz.ntmps98
  go_wp2_with fail
  refine hN.mono ?_
  ar_tail 0 (.inr (.inl ⟨rfl, rfl, ar_sub a b⟩))
set_option maxRecDepth 20000 in
set_option maxHeartbeats 4000000 in
theorem arith_mul (a b : Int) (w : World) :
    Calls Tryz.prog 98 #[.agg (mach (none, 0, 0) 0 0), .string ⟨#[42]⟩, .int .i64 a, .int .i64 b] w fun e w' => ∃ k nm tx st, MachRes w k nm tx st e w' ∧ ArOk [42] a b k nm tx st := by
  obtain ⟨r1, hsz, b2⟩ := arith_two w
  have HR1 : Hid _ := r1
  have HSZ : Hid _ := hsz
  have hN := number_any (wrap64 (a * b)) ((w.alloc (.cells #[.slice none 0 0, .slice none 0 0, .slice none 0 0, .slice none 0 0, .int .i64 0, .int .i64 0, .int .i64 0, .string ⟨#[]⟩] 131)).alloc (.cells #[.slice none 0 0, .slice none 0 0, .slice none 0 0, .slice none 0 0, .int .i64 0, .int .i64 0, .int .i64 0, .string ⟨#[]⟩] 131))
  unfold MachRes mach at hN
  unfold mach
  simp only at hN ⊢
  clear r1 hsz
  go_enter Tryz.func98, Tryz.ntmps98
  go_wp2_with fail
  refine hN.mono ?_
  ar_tail 0 (.inr (.inl ⟨rfl, rfl, ar_mul a b⟩))
set_option maxRecDepth 20000 in
set_option maxHeartbeats 4000000 in
theorem arith_lt (a b : Int) (w : World) :
    Calls Tryz.prog 98 #[.agg (mach (none, 0, 0) 0 0), .string ⟨#[60]⟩, .int .i64 a, .int .i64 b] w fun e w' => ∃ k nm tx st, MachRes w k nm tx st e w' ∧ ArOk [60] a b k nm tx st := by
  obtain ⟨r1, hsz, b2⟩ := arith_two w
  have HR1 : Hid _ := r1
  have HSZ : Hid _ := hsz
  have hN := bool13_any (decide (a < b)) ((w.alloc (.cells #[.slice none 0 0, .slice none 0 0, .slice none 0 0, .slice none 0 0, .int .i64 0, .int .i64 0, .int .i64 0, .string ⟨#[]⟩] 131)).alloc (.cells #[.slice none 0 0, .slice none 0 0, .slice none 0 0, .slice none 0 0, .int .i64 0, .int .i64 0, .int .i64 0, .string ⟨#[]⟩] 131))
  unfold MachRes mach at hN
  unfold mach
  simp only at hN ⊢
  clear r1 hsz
  go_enter Tryz.func98, Tryz.ntmps98
  go_wp2_with fail
  refine hN.mono ?_
  ar_tail 0 (.inr (.inr ⟨rfl, rfl, _, rfl, ar_lt a b⟩))
set_option maxRecDepth 20000 in
set_option maxHeartbeats 4000000 in
theorem arith_le (a b : Int) (w : World) :
    Calls Tryz.prog 98 #[.agg (mach (none, 0, 0) 0 0), .string ⟨#[60, 61]⟩, .int .i64 a, .int .i64 b] w fun e w' => ∃ k nm tx st, MachRes w k nm tx st e w' ∧ ArOk [60, 61] a b k nm tx st := by
  obtain ⟨r1, hsz, b2⟩ := arith_two w
  have HR1 : Hid _ := r1
  have HSZ : Hid _ := hsz
  have hN := bool13_any (decide (a ≤ b)) ((w.alloc (.cells #[.slice none 0 0, .slice none 0 0, .slice none 0 0, .slice none 0 0, .int .i64 0, .int .i64 0, .int .i64 0, .string ⟨#[]⟩] 131)).alloc (.cells #[.slice none 0 0, .slice none 0 0, .slice none 0 0, .slice none 0 0, .int .i64 0, .int .i64 0, .int .i64 0, .string ⟨#[]⟩] 131))
  unfold MachRes mach at hN
  unfold mach
  simp only at hN ⊢
  clear r1 hsz
  go_enter Tryz.func98, Tryz.ntmps98
  go_wp2_with fail
  refine hN.mono ?_
  ar_tail 0 (.inr (.inr ⟨rfl, rfl, _, rfl, ar_le a b⟩))
set_option maxRecDepth 20000 in
set_option maxHeartbeats 4000000 in
theorem arith_gt (a b : Int) (w : World) :
    Calls Tryz.prog 98 #[.agg (mach (none, 0, 0) 0 0), .string ⟨#[62]⟩, .int .i64 a, .int .i64 b] w fun e w' => ∃ k nm tx st, MachRes w k nm tx st e w' ∧ ArOk [62] a b k nm tx st := by
  obtain ⟨r1, hsz, b2⟩ := arith_two w
  have HR1 : Hid _ := r1
  have HSZ : Hid _ := hsz
  have hN := bool13_any (decide (b < a)) ((w.alloc (.cells #[.slice none 0 0, .slice none 0 0, .slice none 0 0, .slice none 0 0, .int .i64 0, .int .i64 0, .int .i64 0, .string ⟨#[]⟩] 131)).alloc (.cells #[.slice none 0 0, .slice none 0 0, .slice none 0 0, .slice none 0 0, .int .i64 0, .int .i64 0, .int .i64 0, .string ⟨#[]⟩] 131))
  unfold MachRes mach at hN
  unfold mach
  simp only at hN ⊢
  clear r1 hsz
  go_enter Tryz.func98, Tryz.ntmps98
  go_wp2_with fail
  refine hN.mono ?_
  ar_tail 0 (.inr (.inr ⟨rfl, rfl, _, rfl, ar_gt a b⟩))
set_option maxRecDepth 20000 in
set_option maxHeartbeats 4000000 in
theorem arith_ge (a b : Int) (w : World) :
    Calls Tryz.prog 98 #[.agg (mach (none, 0, 0) 0 0), .string ⟨#[62, 61]⟩, .int .i64 a, .int .i64 b] w fun e w' => ∃ k nm tx st, MachRes w k nm tx st e w' ∧ ArOk [62, 61] a b k nm tx st := by
  obtain ⟨r1, hsz, b2⟩ := arith_two w
  have HR1 : Hid _ := r1
  have HSZ : Hid _ := hsz
  have hN := bool13_any (decide (b ≤ a)) ((w.alloc (.cells #[.slice none 0 0, .slice none 0 0, .slice none 0 0, .slice none 0 0, .int .i64 0, .int .i64 0, .int .i64 0, .string ⟨#[]⟩] 131)).alloc (.cells #[.slice none 0 0, .slice none 0 0, .slice none 0 0, .slice none 0 0, .int .i64 0, .int .i64 0, .int .i64 0, .string ⟨#[]⟩] 131))
  unfold MachRes mach at hN
  unfold mach
  simp only at hN ⊢
  clear r1 hsz
  go_enter Tryz.func98, Tryz.ntmps98
  go_wp2_with fail
  refine hN.mono ?_
  ar_tail 0 (.inr (.inr ⟨rfl, rfl, _, rfl, ar_ge a b⟩))
theorem ar_quo (a b : Int) (h : b ≠ 0) : arithT [47] a b = some (leafT 72 (wrap64 (a.tdiv b)) ⟨#[]⟩) := by simp [arithT, wr64, h]
theorem ar_rem (a b : Int) (h : b ≠ 0) : arithT [37] a b = some (leafT 72 (wrap64 (a.tmod b)) ⟨#[]⟩) := by simp [arithT, wr64, h]
theorem ar_qn (a : Int) : arithT [47] a (-1) = some (leafT 72 (wrap64 (-a)) ⟨#[]⟩) := by rw [ar_quo a (-1) (by omega)]; simp [Int.tdiv_neg]
theorem ar_rn (a : Int) : arithT [37] a (-1) = some (leafT 72 0 ⟨#[]⟩) := by rw [ar_rem a (-1) (by omega)]; simp [Int.tmod_neg, wrap64]
set_option maxRecDepth 20000 in
set_option maxHeartbeats 4000000 in
theorem arith_qz (a : Int) (w : World) :
    Calls Tryz.prog 98 #[.agg (mach (none, 0, 0) 0 0), .string ⟨#[47]⟩, .int .i64 a, .int .i64 0] w fun e w' => ∃ k nm tx st, MachRes w k nm tx st e w' ∧ ArOk [47] a 0 k nm tx st := by
  obtain ⟨r1, hsz, b2⟩ := arith_two w
  have HR1 : Hid _ := r1
  have HSZ : Hid _ := hsz
  have hN := raise13_any ⟨#[68, 105, 118]⟩ ((w.alloc (.cells #[.slice none 0 0, .slice none 0 0, .slice none 0 0, .slice none 0 0, .int .i64 0, .int .i64 0, .int .i64 0, .string ⟨#[]⟩] 131)).alloc (.cells #[.slice none 0 0, .slice none 0 0, .slice none 0 0, .slice none 0 0, .int .i64 0, .int .i64 0, .int .i64 0, .string ⟨#[]⟩] 131))
  unfold MachRes mach at hN
  unfold mach
  simp only at hN ⊢
  clear r1 hsz
  go_enter Tryz.func98, Tryz.ntmps98
  go_wp2_with fail
  refine hN.mono ?_
  ar_tail 1 (.inl ⟨rfl, by simp [arithT]⟩)
set_option maxRecDepth 20000 in
set_option maxHeartbeats 4000000 in
theorem arith_rz (a : Int) (w : World) :
    Calls Tryz.prog 98 #[.agg (mach (none, 0, 0) 0 0), .string ⟨#[37]⟩, .int .i64 a, .int .i64 0] w fun e w' => ∃ k nm tx st, MachRes w k nm tx st e w' ∧ ArOk [37] a 0 k nm tx st := by
  obtain ⟨r1, hsz, b2⟩ := arith_two w
  have HR1 : Hid _ := r1
  have HSZ : Hid _ := hsz
  have hN := raise13_any ⟨#[68, 105, 118]⟩ ((w.alloc (.cells #[.slice none 0 0, .slice none 0 0, .slice none 0 0, .slice none 0 0, .int .i64 0, .int .i64 0, .int .i64 0, .string ⟨#[]⟩] 131)).alloc (.cells #[.slice none 0 0, .slice none 0 0, .slice none 0 0, .slice none 0 0, .int .i64 0, .int .i64 0, .int .i64 0, .string ⟨#[]⟩] 131))
  unfold MachRes mach at hN
  unfold mach
  simp only at hN ⊢
  clear r1 hsz
  go_enter Tryz.func98, Tryz.ntmps98
  go_wp2_with fail
  refine hN.mono ?_
  ar_tail 1 (.inl ⟨rfl, by simp [arithT]⟩)
set_option maxRecDepth 20000 in
set_option maxHeartbeats 4000000 in
theorem arith_qn (a : Int) (w : World) :
    Calls Tryz.prog 98 #[.agg (mach (none, 0, 0) 0 0), .string ⟨#[47]⟩, .int .i64 a, .int .i64 (-1)] w fun e w' => ∃ k nm tx st, MachRes w k nm tx st e w' ∧ ArOk [47] a (-1) k nm tx st := by
  obtain ⟨r1, hsz, b2⟩ := arith_two w
  have HR1 : Hid _ := r1
  have HSZ : Hid _ := hsz
  have hN := number_any (wrap64 (-a)) ((w.alloc (.cells #[.slice none 0 0, .slice none 0 0, .slice none 0 0, .slice none 0 0, .int .i64 0, .int .i64 0, .int .i64 0, .string ⟨#[]⟩] 131)).alloc (.cells #[.slice none 0 0, .slice none 0 0, .slice none 0 0, .slice none 0 0, .int .i64 0, .int .i64 0, .int .i64 0, .string ⟨#[]⟩] 131))
  unfold MachRes mach at hN
  unfold mach
  simp only at hN ⊢
  clear r1 hsz
  go_enter Tryz.func98, Tryz.ntmps98
  go_wp2_with fail
  refine hN.mono ?_
  ar_tail 0 (.inr (.inl ⟨rfl, rfl, ar_qn a⟩))
set_option maxRecDepth 20000 in
set_option maxHeartbeats 4000000 in
theorem arith_rn (a : Int) (w : World) :
    Calls Tryz.prog 98 #[.agg (mach (none, 0, 0) 0 0), .string ⟨#[37]⟩, .int .i64 a, .int .i64 (-1)] w fun e w' => ∃ k nm tx st, MachRes w k nm tx st e w' ∧ ArOk [37] a (-1) k nm tx st := by
  obtain ⟨r1, hsz, b2⟩ := arith_two w
  have HR1 : Hid _ := r1
  have HSZ : Hid _ := hsz
  have hN := number_any 0 ((w.alloc (.cells #[.slice none 0 0, .slice none 0 0, .slice none 0 0, .slice none 0 0, .int .i64 0, .int .i64 0, .int .i64 0, .string ⟨#[]⟩] 131)).alloc (.cells #[.slice none 0 0, .slice none 0 0, .slice none 0 0, .slice none 0 0, .int .i64 0, .int .i64 0, .int .i64 0, .string ⟨#[]⟩] 131))
  unfold MachRes mach at hN
  unfold mach
  simp only at hN ⊢
  clear r1 hsz
  go_enter Tryz.func98, Tryz.ntmps98
  go_wp2_with fail
  refine hN.mono ?_
  ar_tail 0 (.inr (.inl ⟨rfl, rfl, ar_rn a⟩))
end Go.Proofs.YtedlofpgddjpgaaGreat

namespace Go.Proofs.YtedlofpgddjpgaaGreat
open Go.RowKit
theorem ar_quo' (a b : Int) (h : b ≠ 0) : arithT [47] a b = some (leafT 72 (IntKind.i64.wrap (a.tdiv b)) ⟨#[]⟩) := by simp [arithT, h]
theorem tmod_in (a b : Int) (ha : -9223372036854775808 ≤ a ∧ a ≤ 9223372036854775807) : -9223372036854775808 ≤ a.tmod b ∧ a.tmod b ≤ 9223372036854775807 := by
  have h1 : (a.tmod b).natAbs ≤ a.natAbs := by rw [Int.natAbs_tmod]; exact Nat.mod_le _ _
  by_cases h : 0 ≤ a
  · have := Int.tmod_nonneg b h
    omega
  · have h2 : 0 ≤ (-a).tmod b := Int.tmod_nonneg b (by omega)
    rw [Int.neg_tmod] at h2
    omega
theorem ar_rem' (a b : Int) (ha : -9223372036854775808 ≤ a ∧ a ≤ 9223372036854775807) (h : b ≠ 0) : arithT [37] a b = some (leafT 72 (a.tmod b) ⟨#[]⟩) := by
  have h1 := tmod_in a b ha
  have h2 : wrap64 (a.tmod b) = a.tmod b := by unfold wrap64; omega
  rw [ar_rem a b h, h2]
set_option maxRecDepth 20000 in
set_option maxHeartbeats 4000000 in
theorem arith_quo (a b : Int) (h0 : b ≠ 0) (h1 : b ≠ -1) (w : World) :
    Calls Tryz.prog 98 #[.agg (mach (none, 0, 0) 0 0), .string ⟨#[47]⟩, .int .i64 a, .int .i64 b] w fun e w' => ∃ k nm tx st, MachRes w k nm tx st e w' ∧ ArOk [47] a b k nm tx st := by
  obtain ⟨r1, hsz, b2⟩ := arith_two w
  have HR1 : Hid _ := r1
  have HSZ : Hid _ := hsz
  have t0 : (b == 0) = false := by simpa using h0
  have t1 : (b == -1) = false := by simpa using h1
  have HCC : Hid (∀ W, Calls Tryz.prog 117 #[.agg #[.slice none 0 0, .slice none 0 0, .slice none 0 0, .slice none 0 0, .int .i64 0, .int .i64 0, .int .i64 0, .string ⟨#[]⟩], .int .i64 (IntKind.i64.wrap (a.tdiv b))] W fun e w' => ∃ g c, e = .returned (.tuple #[.agg #[.slice none 0 0, .slice none 0 0, .slice (some ⟨g, 0, none⟩) 1 c, .slice none 0 0, .int .i64 0, .int .i64 0, .int .i64 0, .string ⟨#[]⟩], .int .i64 0]) ∧ 1 ≤ c ∧ w'.cell? ⟨g, 0, none⟩ = some (.int .i64 1) ∧ w'.cell? ⟨g, 1, none⟩ = some (.int .i64 (IntKind.i64.wrap (a.tdiv b))) ∧ V2 w' g ⟨#[]⟩ ∧ W.heap.size ≤ g ∧ Below W.heap.size W w') := fun W => number_any _ W
  unfold mach
  simp only
  clear r1 hsz
  go_enter Tryz.func98, Tryz.ntmps98
  go_wp2
  have r0 : ((w.alloc (.cells #[.slice none 0 0, .slice none 0 0, .slice none 0 0, .slice none 0 0, .int .i64 0, .int .i64 0, .int .i64 0, .string ⟨#[]⟩] 131)).alloc (.cells #[.slice none 0 0, .slice none 0 0, .slice none 0 0, .slice none 0 0, .int .i64 0, .int .i64 0, .int .i64 0, .string ⟨#[]⟩] 131)).heap[w.heap.size]? = some (.cells #[.slice none 0 0, .slice none 0 0, .slice none 0 0, .slice none 0 0, .int .i64 0, .int .i64 0, .int .i64 0, .string ⟨#[]⟩] 131 (0, 0)) := (Below.heap_alloc _ _ _ (by simp)).trans (heap_alloc_new _ _)
  have r1 := HR1.out
  have hsz := HSZ.out
  clear HR1 HSZ
  generalize ((w.alloc (.cells #[.slice none 0 0, .slice none 0 0, .slice none 0 0, .slice none 0 0, .int .i64 0, .int .i64 0, .int .i64 0, .string ⟨#[]⟩] 131)).alloc (.cells #[.slice none 0 0, .slice none 0 0, .slice none 0 0, .slice none 0 0, .int .i64 0, .int .i64 0, .int .i64 0, .string ⟨#[]⟩] 131)) = W1 at r0 r1 hsz b2 ⊢
  have l0 : w.heap.size < W1.heap.size := by omega
  have HCE : Hid (∀ W, Below W1.heap.size W1 W → W.cell? ⟨w.heap.size, 0, none⟩ = some (.slice none 0 0) ∧ W.cell? ⟨w.heap.size, 1, none⟩ = some (.slice none 0 0) ∧ W.cell? ⟨w.heap.size, 2, none⟩ = some (.slice none 0 0) ∧ W.cell? ⟨w.heap.size, 3, none⟩ = some (.slice none 0 0) ∧ W.cell? ⟨w.heap.size, 4, none⟩ = some (.int .i64 0) ∧ W.cell? ⟨w.heap.size, 5, none⟩ = some (.int .i64 0) ∧ W.cell? ⟨w.heap.size, 6, none⟩ = some (.int .i64 0) ∧ W.cell? ⟨w.heap.size, 7, none⟩ = some (.string ⟨#[]⟩)) := by
    intro W hW
    have q := (hW.block w.heap.size l0).trans r0
    refine ⟨?_, ?_, ?_, ?_, ?_, ?_, ?_, ?_⟩ <;> (rw [cell_of_row _ _ _ _ _ _ q]; rfl)
  have HR1 : Hid _ := r1
  have HSZ : Hid _ := hsz
  have hbD := (Below.refl W1.heap.size W1).drew
  clear r0 r1 hsz
  go_region_held3 (fun w' => w'.cell? ⟨w.heap.size, 0, none⟩ = some (.slice none 0 0) ∧ w'.cell? ⟨w.heap.size, 1, none⟩ = some (.slice none 0 0) ∧ w'.cell? ⟨w.heap.size, 2, none⟩ = some (.slice none 0 0) ∧ w'.cell? ⟨w.heap.size, 3, none⟩ = some (.slice none 0 0) ∧ w'.cell? ⟨w.heap.size, 4, none⟩ = some (.int .i64 0) ∧ w'.cell? ⟨w.heap.size, 5, none⟩ = some (.int .i64 0) ∧ w'.cell? ⟨w.heap.size, 6, none⟩ = some (.int .i64 0) ∧ w'.cell? ⟨w.heap.size, 7, none⟩ = some (.string ⟨#[]⟩)) (first | with_reducible exact HCE.out _ hbD | go_keep) ((go_at_call 117; refine (HCC.out _).mono ?_; rintro e w3 ⟨g, c, rfl, hc, c0, c1, c2, hg, hb3⟩; have hb4 := Below.step hbD hb3; obtain ⟨e0, e1, e2, e3, e4, e5, e6, e7⟩ := HCE.out _ hb4; have n1 : w.heap.size + 1 ≠ w.heap.size := (by omega); have l9 : w.heap.size < w3.heap.size := lt_of_cell e0; have r3 := (hb4.block (w.heap.size + 1) (by have := HSZ.out; omega)).trans HR1.out; have hbb := Below.step b2 hb4; obtain ⟨hf, hWF⟩ := mach_fin (c := c) 0 r3 hbb (by omega) (by have := hbD.size; have := HSZ.out; omega) c0 c1 c2; obtain ⟨f, d0, d1, d2, d3, d4, d5, d6, d7⟩ := zero8 r3; have f0 := f 0; have f1 := f 1; have f2 := f 2; have f3 := f 3; have f4 := f 4; have f5 := f 5; have f6 := f 6; have f7 := f 7; have HF : Hid _ := hf; have HW : Hid _ := hWF; have HG : Hid (w.heap.size ≤ g) := (by show w.heap.size ≤ g; have := hbD.size; have := HSZ.out; omega); have l1 : w.heap.size + 1 < w3.heap.size := lt_of_cell d0; clear hf hWF r3 hb3 hb4 hbb c0 c1 c2 f hg))
  clear e0 e1 e2 e3 e4 e5 e6 e7 HCE HCC f0 f1 f2 f3 f4 f5 f6 f7 d0 d1 d2 d3 d4 d5 d6 d7
  generalize hn : IntKind.i64.wrap (a.tdiv b) = n at HW ⊢
  generalize ((((((((w3.setCell ⟨w.heap.size + 1, 0, none⟩ (.slice none 0 0)).setCell ⟨w.heap.size + 1, 1, none⟩ (.slice none 0 0)).setCell ⟨w.heap.size + 1, 2, none⟩ (.slice (some ⟨g, 0, none⟩) 1 c)).setCell ⟨w.heap.size + 1, 3, none⟩ (.slice none 0 0)).setCell ⟨w.heap.size + 1, 4, none⟩ (.int .i64 0)).setCell ⟨w.heap.size + 1, 5, none⟩ (.int .i64 0)).setCell ⟨w.heap.size + 1, 6, none⟩ (.int .i64 0)).setCell ⟨w.heap.size + 1, 7, none⟩ (.string ⟨#[]⟩)) = WF at HF HW ⊢
  have HN : Hid _ := hn
  clear hn
  go_wp2
  have h9 := HF.out
  refine bodyPost_ret (results_mach rfl _ (w.heap.size + 1) rfl _ (some ⟨g, 0, none⟩, 1, c) 0 0 h9 _ rfl) rfl ?_
  exact ⟨_, _, _, _, ⟨g, c, rfl, hc, HW.out.1, HW.out.2.1, HW.out.2.2.1, HG.out, HW.out.2.2.2⟩, .inr (.inl ⟨rfl, rfl, by rw [← HN.out]; exact ar_quo' a b h0⟩)⟩
set_option maxRecDepth 20000 in
set_option maxHeartbeats 4000000 in
theorem arith_rem (a b : Int) (ha : -9223372036854775808 ≤ a ∧ a ≤ 9223372036854775807) (h0 : b ≠ 0) (h1 : b ≠ -1) (w : World) :
    Calls Tryz.prog 98 #[.agg (mach (none, 0, 0) 0 0), .string ⟨#[37]⟩, .int .i64 a, .int .i64 b] w fun e w' => ∃ k nm tx st, MachRes w k nm tx st e w' ∧ ArOk [37] a b k nm tx st := by
  obtain ⟨r1, hsz, b2⟩ := arith_two w
  have HR1 : Hid _ := r1
  have HSZ : Hid _ := hsz
  have t0 : (b == 0) = false := by simpa using h0
  have t1 : (b == -1) = false := by simpa using h1
  have HCC : Hid (∀ W, Calls Tryz.prog 117 #[.agg #[.slice none 0 0, .slice none 0 0, .slice none 0 0, .slice none 0 0, .int .i64 0, .int .i64 0, .int .i64 0, .string ⟨#[]⟩], .int .i64 (a.tmod b)] W fun e w' => ∃ g c, e = .returned (.tuple #[.agg #[.slice none 0 0, .slice none 0 0, .slice (some ⟨g, 0, none⟩) 1 c, .slice none 0 0, .int .i64 0, .int .i64 0, .int .i64 0, .string ⟨#[]⟩], .int .i64 0]) ∧ 1 ≤ c ∧ w'.cell? ⟨g, 0, none⟩ = some (.int .i64 1) ∧ w'.cell? ⟨g, 1, none⟩ = some (.int .i64 (a.tmod b)) ∧ V2 w' g ⟨#[]⟩ ∧ W.heap.size ≤ g ∧ Below W.heap.size W w') := fun W => number_any _ W
  unfold mach
  simp only
  clear r1 hsz
  go_enter Tryz.func98, Tryz.ntmps98
  go_wp2
  have r0 : ((w.alloc (.cells #[.slice none 0 0, .slice none 0 0, .slice none 0 0, .slice none 0 0, .int .i64 0, .int .i64 0, .int .i64 0, .string ⟨#[]⟩] 131)).alloc (.cells #[.slice none 0 0, .slice none 0 0, .slice none 0 0, .slice none 0 0, .int .i64 0, .int .i64 0, .int .i64 0, .string ⟨#[]⟩] 131)).heap[w.heap.size]? = some (.cells #[.slice none 0 0, .slice none 0 0, .slice none 0 0, .slice none 0 0, .int .i64 0, .int .i64 0, .int .i64 0, .string ⟨#[]⟩] 131 (0, 0)) := (Below.heap_alloc _ _ _ (by simp)).trans (heap_alloc_new _ _)
  have r1 := HR1.out
  have hsz := HSZ.out
  clear HR1 HSZ
  generalize ((w.alloc (.cells #[.slice none 0 0, .slice none 0 0, .slice none 0 0, .slice none 0 0, .int .i64 0, .int .i64 0, .int .i64 0, .string ⟨#[]⟩] 131)).alloc (.cells #[.slice none 0 0, .slice none 0 0, .slice none 0 0, .slice none 0 0, .int .i64 0, .int .i64 0, .int .i64 0, .string ⟨#[]⟩] 131)) = W1 at r0 r1 hsz b2 ⊢
  have l0 : w.heap.size < W1.heap.size := by omega
  have HCE : Hid (∀ W, Below W1.heap.size W1 W → W.cell? ⟨w.heap.size, 0, none⟩ = some (.slice none 0 0) ∧ W.cell? ⟨w.heap.size, 1, none⟩ = some (.slice none 0 0) ∧ W.cell? ⟨w.heap.size, 2, none⟩ = some (.slice none 0 0) ∧ W.cell? ⟨w.heap.size, 3, none⟩ = some (.slice none 0 0) ∧ W.cell? ⟨w.heap.size, 4, none⟩ = some (.int .i64 0) ∧ W.cell? ⟨w.heap.size, 5, none⟩ = some (.int .i64 0) ∧ W.cell? ⟨w.heap.size, 6, none⟩ = some (.int .i64 0) ∧ W.cell? ⟨w.heap.size, 7, none⟩ = some (.string ⟨#[]⟩)) := by
    intro W hW
    have q := (hW.block w.heap.size l0).trans r0
    refine ⟨?_, ?_, ?_, ?_, ?_, ?_, ?_, ?_⟩ <;> (rw [cell_of_row _ _ _ _ _ _ q]; rfl)
  have HR1 : Hid _ := r1
  have HSZ : Hid _ := hsz
  have hbD := (Below.refl W1.heap.size W1).drew
  clear r0 r1 hsz
  go_region_held3 (fun w' => w'.cell? ⟨w.heap.size, 0, none⟩ = some (.slice none 0 0) ∧ w'.cell? ⟨w.heap.size, 1, none⟩ = some (.slice none 0 0) ∧ w'.cell? ⟨w.heap.size, 2, none⟩ = some (.slice none 0 0) ∧ w'.cell? ⟨w.heap.size, 3, none⟩ = some (.slice none 0 0) ∧ w'.cell? ⟨w.heap.size, 4, none⟩ = some (.int .i64 0) ∧ w'.cell? ⟨w.heap.size, 5, none⟩ = some (.int .i64 0) ∧ w'.cell? ⟨w.heap.size, 6, none⟩ = some (.int .i64 0) ∧ w'.cell? ⟨w.heap.size, 7, none⟩ = some (.string ⟨#[]⟩)) (first | with_reducible exact HCE.out _ hbD | go_keep) ((go_at_call 117; refine (HCC.out _).mono ?_; rintro e w3 ⟨g, c, rfl, hc, c0, c1, c2, hg, hb3⟩; have hb4 := Below.step hbD hb3; obtain ⟨e0, e1, e2, e3, e4, e5, e6, e7⟩ := HCE.out _ hb4; have n1 : w.heap.size + 1 ≠ w.heap.size := (by omega); have l9 : w.heap.size < w3.heap.size := lt_of_cell e0; have r3 := (hb4.block (w.heap.size + 1) (by have := HSZ.out; omega)).trans HR1.out; have hbb := Below.step b2 hb4; obtain ⟨hf, hWF⟩ := mach_fin (c := c) 0 r3 hbb (by omega) (by have := hbD.size; have := HSZ.out; omega) c0 c1 c2; obtain ⟨f, d0, d1, d2, d3, d4, d5, d6, d7⟩ := zero8 r3; have f0 := f 0; have f1 := f 1; have f2 := f 2; have f3 := f 3; have f4 := f 4; have f5 := f 5; have f6 := f 6; have f7 := f 7; have HF : Hid _ := hf; have HW : Hid _ := hWF; have HG : Hid (w.heap.size ≤ g) := (by show w.heap.size ≤ g; have := hbD.size; have := HSZ.out; omega); have l1 : w.heap.size + 1 < w3.heap.size := lt_of_cell d0; clear hf hWF r3 hb3 hb4 hbb c0 c1 c2 f hg))
  clear e0 e1 e2 e3 e4 e5 e6 e7 HCE HCC f0 f1 f2 f3 f4 f5 f6 f7 d0 d1 d2 d3 d4 d5 d6 d7
  generalize hn : a.tmod b = n at HW ⊢
  generalize ((((((((w3.setCell ⟨w.heap.size + 1, 0, none⟩ (.slice none 0 0)).setCell ⟨w.heap.size + 1, 1, none⟩ (.slice none 0 0)).setCell ⟨w.heap.size + 1, 2, none⟩ (.slice (some ⟨g, 0, none⟩) 1 c)).setCell ⟨w.heap.size + 1, 3, none⟩ (.slice none 0 0)).setCell ⟨w.heap.size + 1, 4, none⟩ (.int .i64 0)).setCell ⟨w.heap.size + 1, 5, none⟩ (.int .i64 0)).setCell ⟨w.heap.size + 1, 6, none⟩ (.int .i64 0)).setCell ⟨w.heap.size + 1, 7, none⟩ (.string ⟨#[]⟩)) = WF at HF HW ⊢
  have HN : Hid _ := hn
  clear hn
  go_wp2
  have h9 := HF.out
  refine bodyPost_ret (results_mach rfl _ (w.heap.size + 1) rfl _ (some ⟨g, 0, none⟩, 1, c) 0 0 h9 _ rfl) rfl ?_
  exact ⟨_, _, _, _, ⟨g, c, rfl, hc, HW.out.1, HW.out.2.1, HW.out.2.2.1, HG.out, HW.out.2.2.2⟩, .inr (.inl ⟨rfl, rfl, by rw [← HN.out]; exact ar_rem' a b ha h0⟩)⟩
theorem arith_any (op : ByteArray) (l : List UInt8) (hop : (op = ⟨#[43]⟩ ∧ l = [43]) ∨ (op = ⟨#[45]⟩ ∧ l = [45]) ∨ (op = ⟨#[42]⟩ ∧ l = [42]) ∨ (op = ⟨#[60]⟩ ∧ l = [60]) ∨ (op = ⟨#[60, 61]⟩ ∧ l = [60, 61]) ∨ (op = ⟨#[62]⟩ ∧ l = [62]) ∨ (op = ⟨#[62, 61]⟩ ∧ l = [62, 61]) ∨ (op = ⟨#[47]⟩ ∧ l = [47]) ∨ (op = ⟨#[37]⟩ ∧ l = [37])) (a b : Int) (ha : -9223372036854775808 ≤ a ∧ a ≤ 9223372036854775807) (w : World) :
    Calls Tryz.prog 98 #[.agg (mach (none, 0, 0) 0 0), .string op, .int .i64 a, .int .i64 b] w fun e w' => ∃ k nm tx st, MachRes w k nm tx st e w' ∧ ArOk l a b k nm tx st := by
  rcases hop with ⟨rfl, rfl⟩ | ⟨rfl, rfl⟩ | ⟨rfl, rfl⟩ | ⟨rfl, rfl⟩ | ⟨rfl, rfl⟩ | ⟨rfl, rfl⟩ | ⟨rfl, rfl⟩ | ⟨rfl, rfl⟩ | ⟨rfl, rfl⟩
  · exact arith_add a b w
  · exact arith_sub a b w
  · exact arith_mul a b w
  · exact arith_lt a b w
  · exact arith_le a b w
  · exact arith_gt a b w
  · exact arith_ge a b w
  · by_cases h0 : b = 0
    · subst h0; exact arith_qz a w
    by_cases h1 : b = -1
    · subst h1; exact arith_qn a w
    exact arith_quo a b h0 h1 w
  · by_cases h0 : b = 0
    · subst h0; exact arith_rz a w
    by_cases h1 : b = -1
    · subst h1; exact arith_rn a w
    exact arith_rem a b ha h0 h1 w
end Go.Proofs.YtedlofpgddjpgaaGreat
