import Derived.Test.YtedlofpgddjpgaaGreatLAri
namespace Go.Proofs.YtedlofpgddjpgaaGreat
open Go.RowKit
def ArOk (op : List UInt8) (a b : Int) (k nm : Int) (tx : ByteArray) (st : Int) : Prop :=
  (st = 1 ∧ arithT op a b = none) ∨ (st = 0 ∧ k = 1 ∧ arithT op a b = some (leafT 72 nm ⟨#[]⟩)) ∨ (st = 0 ∧ k = 4 ∧ ∃ t : Bool, tx = boolT t ∧ arithT op a b = some (truthT t))
theorem arith_two (w : World) : ((w.alloc (.cells #[.slice none 0 0, .slice none 0 0, .slice none 0 0, .slice none 0 0, .int .i64 0, .int .i64 0, .int .i64 0, .string ⟨#[]⟩] 131)).alloc (.cells #[.slice none 0 0, .slice none 0 0, .slice none 0 0, .slice none 0 0, .int .i64 0, .int .i64 0, .int .i64 0, .string ⟨#[]⟩] 131)).heap[w.heap.size + 1]? = some (.cells #[.slice none 0 0, .slice none 0 0, .slice none 0 0, .slice none 0 0, .int .i64 0, .int .i64 0, .int .i64 0, .string ⟨#[]⟩] 131 (0, 0)) ∧ ((w.alloc (.cells #[.slice none 0 0, .slice none 0 0, .slice none 0 0, .slice none 0 0, .int .i64 0, .int .i64 0, .int .i64 0, .string ⟨#[]⟩] 131)).alloc (.cells #[.slice none 0 0, .slice none 0 0, .slice none 0 0, .slice none 0 0, .int .i64 0, .int .i64 0, .int .i64 0, .string ⟨#[]⟩] 131)).heap.size = w.heap.size + 1 + 1 ∧ Below w.heap.size w ((w.alloc (.cells #[.slice none 0 0, .slice none 0 0, .slice none 0 0, .slice none 0 0, .int .i64 0, .int .i64 0, .int .i64 0, .string ⟨#[]⟩] 131)).alloc (.cells #[.slice none 0 0, .slice none 0 0, .slice none 0 0, .slice none 0 0, .int .i64 0, .int .i64 0, .int .i64 0, .string ⟨#[]⟩] 131)) := by
  have b1 := (Below.refl w.heap.size w).alloc (Nat.le_refl _) (.cells #[.slice none 0 0, .slice none 0 0, .slice none 0 0, .slice none 0 0, .int .i64 0, .int .i64 0, .int .i64 0, .string ⟨#[]⟩] 131)
  have b2 := b1.alloc b1.size (.cells #[.slice none 0 0, .slice none 0 0, .slice none 0 0, .slice none 0 0, .int .i64 0, .int .i64 0, .int .i64 0, .string ⟨#[]⟩] 131)
  refine ⟨?_, by simp, b2⟩
  have h9 := heap_alloc_new (w.alloc (.cells #[.slice none 0 0, .slice none 0 0, .slice none 0 0, .slice none 0 0, .int .i64 0, .int .i64 0, .int .i64 0, .string ⟨#[]⟩] 131)) (.cells #[.slice none 0 0, .slice none 0 0, .slice none 0 0, .slice none 0 0, .int .i64 0, .int .i64 0, .int .i64 0, .string ⟨#[]⟩] 131)
  rw [World.size_alloc] at h9
  exact h9
theorem wr64 (x : Int) : IntKind.i64.wrap x = wrap64 x := by
  unfold wrap64
  simp only [IntKind.wrap, IntKind.signed, IntKind.bits]
  simp
  split <;> omega
theorem ar_add (a b : Int) : arithT [43] a b = some (leafT 72 (wrap64 (a + b)) ⟨#[]⟩) := by simp [arithT, wr64]
theorem ar_sub (a b : Int) : arithT [45] a b = some (leafT 72 (wrap64 (a - b)) ⟨#[]⟩) := by simp [arithT, wr64]
theorem ar_mul (a b : Int) : arithT [42] a b = some (leafT 72 (wrap64 (a * b)) ⟨#[]⟩) := by simp [arithT, wr64]
theorem ar_lt (a b : Int) : arithT [60] a b = some (truthT (decide (a < b))) := by simp [arithT]
theorem ar_le (a b : Int) : arithT [60, 61] a b = some (truthT (decide (a ≤ b))) := by simp [arithT]
theorem ar_gt (a b : Int) : arithT [62] a b = some (truthT (decide (b < a))) := by simp [arithT]
theorem ar_ge (a b : Int) : arithT [62, 61] a b = some (truthT (decide (b ≤ a))) := by simp [arithT]
set_option maxRecDepth 20000 in
set_option maxHeartbeats 4000000 in
theorem arith_add (a b : Int) (w : World) :
    Calls Tryz.prog 98 #[.agg (mach (none, 0, 0) 0 0), .string ⟨#[43]⟩, .int .i64 a, .int .i64 b] w fun e w' => ∃ k nm tx st, MachRes w k nm tx st e w' ∧ ArOk [43] a b k nm tx st := by
  obtain ⟨r1, hsz, b2⟩ := arith_two w
  have HR1 : Hid _ := r1
  have HSZ : Hid _ := hsz
  have hN := number_any (wrap64 (a + b)) ((w.alloc (.cells #[.slice none 0 0, .slice none 0 0, .slice none 0 0, .slice none 0 0, .int .i64 0, .int .i64 0, .int .i64 0, .string ⟨#[]⟩] 131)).alloc (.cells #[.slice none 0 0, .slice none 0 0, .slice none 0 0, .slice none 0 0, .int .i64 0, .int .i64 0, .int .i64 0, .string ⟨#[]⟩] 131))
  unfold MachRes mach at hN
  unfold mach
  simp only at hN ⊢
  clear r1 hsz
  go_enter Tryz.func98, Tryz.ntmps98
  go_wp2_with fail
  refine hN.mono ?_
  rintro e w3 ⟨g, c, rfl, hc, c0, c1, c2, hg, hb3⟩
  have r3 := (hb3.block (w.heap.size + 1) (by rw [HSZ.out]; omega)).trans HR1.out
  have hbb := Below.step b2 hb3
  rw [HSZ.out] at hg
  obtain ⟨hf, hWF⟩ := mach_fin (c := c) 0 r3 hbb (by omega) (by omega) c0 c1 c2
  obtain ⟨f, d0, d1, d2, d3, d4, d5, d6, d7⟩ := zero8 r3
  have f0 := f 0
  have f1 := f 1
  have f2 := f 2
  have f3 := f 3
  have f4 := f 4
  have f5 := f 5
  have f6 := f 6
  have f7 := f 7
  have HF : Hid _ := hf
  have HW : Hid _ := hWF
  have l1 : w.heap.size + 1 < w3.heap.size := lt_of_cell d0
  clear hN hf hWF r3 hb3 hbb b2 c0 c1 c2 f
  go_wp2
  have h9 := HF.out
  refine bodyPost_ret (results_mach rfl _ (w.heap.size + 1) rfl _ (some ⟨g, 0, none⟩, 1, c) 0 0 h9 _ rfl) rfl ?_
  exact ⟨_, _, _, _, ⟨g, c, rfl, hc, HW.out.1, HW.out.2.1, HW.out.2.2.1, by omega, HW.out.2.2.2⟩, (.inr (.inl ⟨rfl, rfl, ar_add a b⟩))⟩
set_option maxRecDepth 20000 in
set_option maxHeartbeats 4000000 in
theorem arith_sub (a b : Int) (w : World) :
    Calls Tryz.prog 98 #[.agg (mach (none, 0, 0) 0 0), .string ⟨#[45]⟩, .int .i64 a, .int .i64 b] w fun e w' => ∃ k nm tx st, MachRes w k nm tx st e w' ∧ ArOk [45] a b k nm tx st := by
  obtain ⟨r1, hsz, b2⟩ := arith_two w
  have HR1 : Hid _ := r1
  have HSZ : Hid _ := hsz
  have hN := number_any (wrap64 (a - b)) ((w.alloc (.cells #[.slice none 0 0, .slice none 0 0, .slice none 0 0, .slice none 0 0, .int .i64 0, .int .i64 0, .int .i64 0, .string ⟨#[]⟩] 131)).alloc (.cells #[.slice none 0 0, .slice none 0 0, .slice none 0 0, .slice none 0 0, .int .i64 0, .int .i64 0, .int .i64 0, .string ⟨#[]⟩] 131))
  unfold MachRes mach at hN
  unfold mach
  simp only at hN ⊢
  clear r1 hsz
  go_enter Tryz.func98, Tryz.ntmps98
  go_wp2_with fail
  refine hN.mono ?_
  rintro e w3 ⟨g, c, rfl, hc, c0, c1, c2, hg, hb3⟩
  have r3 := (hb3.block (w.heap.size + 1) (by rw [HSZ.out]; omega)).trans HR1.out
  have hbb := Below.step b2 hb3
  rw [HSZ.out] at hg
  obtain ⟨hf, hWF⟩ := mach_fin (c := c) 0 r3 hbb (by omega) (by omega) c0 c1 c2
  obtain ⟨f, d0, d1, d2, d3, d4, d5, d6, d7⟩ := zero8 r3
  have f0 := f 0
  have f1 := f 1
  have f2 := f 2
  have f3 := f 3
  have f4 := f 4
  have f5 := f 5
  have f6 := f 6
  have f7 := f 7
  have HF : Hid _ := hf
  have HW : Hid _ := hWF
  have l1 : w.heap.size + 1 < w3.heap.size := lt_of_cell d0
  clear hN hf hWF r3 hb3 hbb b2 c0 c1 c2 f
  go_wp2
  have h9 := HF.out
  refine bodyPost_ret (results_mach rfl _ (w.heap.size + 1) rfl _ (some ⟨g, 0, none⟩, 1, c) 0 0 h9 _ rfl) rfl ?_
  exact ⟨_, _, _, _, ⟨g, c, rfl, hc, HW.out.1, HW.out.2.1, HW.out.2.2.1, by omega, HW.out.2.2.2⟩, (.inr (.inl ⟨rfl, rfl, ar_sub a b⟩))⟩
set_option maxRecDepth 20000 in
set_option maxHeartbeats 4000000 in
theorem arith_mul (a b : Int) (w : World) :
    Calls Tryz.prog 98 #[.agg (mach (none, 0, 0) 0 0), .string ⟨#[42]⟩, .int .i64 a, .int .i64 b] w fun e w' => ∃ k nm tx st, MachRes w k nm tx st e w' ∧ ArOk [42] a b k nm tx st := by
  obtain ⟨r1, hsz, b2⟩ := arith_two w
  have HR1 : Hid _ := r1
  have HSZ : Hid _ := hsz
  have hN := number_any (wrap64 (a * b)) ((w.alloc (.cells #[.slice none 0 0, .slice none 0 0, .slice none 0 0, .slice none 0 0, .int .i64 0, .int .i64 0, .int .i64 0, .string ⟨#[]⟩] 131)).alloc (.cells #[.slice none 0 0, .slice none 0 0, .slice none 0 0, .slice none 0 0, .int .i64 0, .int .i64 0, .int .i64 0, .string ⟨#[]⟩] 131))
  unfold MachRes mach at hN
  unfold mach
  simp only at hN ⊢
  clear r1 hsz
  go_enter Tryz.func98, Tryz.ntmps98
  go_wp2_with fail
  refine hN.mono ?_
  rintro e w3 ⟨g, c, rfl, hc, c0, c1, c2, hg, hb3⟩
  have r3 := (hb3.block (w.heap.size + 1) (by rw [HSZ.out]; omega)).trans HR1.out
  have hbb := Below.step b2 hb3
  rw [HSZ.out] at hg
  obtain ⟨hf, hWF⟩ := mach_fin (c := c) 0 r3 hbb (by omega) (by omega) c0 c1 c2
  obtain ⟨f, d0, d1, d2, d3, d4, d5, d6, d7⟩ := zero8 r3
  have f0 := f 0
  have f1 := f 1
  have f2 := f 2
  have f3 := f 3
  have f4 := f 4
  have f5 := f 5
  have f6 := f 6
  have f7 := f 7
  have HF : Hid _ := hf
  have HW : Hid _ := hWF
  have l1 : w.heap.size + 1 < w3.heap.size := lt_of_cell d0
  clear hN hf hWF r3 hb3 hbb b2 c0 c1 c2 f
  go_wp2
  have h9 := HF.out
  refine bodyPost_ret (results_mach rfl _ (w.heap.size + 1) rfl _ (some ⟨g, 0, none⟩, 1, c) 0 0 h9 _ rfl) rfl ?_
  exact ⟨_, _, _, _, ⟨g, c, rfl, hc, HW.out.1, HW.out.2.1, HW.out.2.2.1, by omega, HW.out.2.2.2⟩, (.inr (.inl ⟨rfl, rfl, ar_mul a b⟩))⟩
set_option maxRecDepth 20000 in
set_option maxHeartbeats 4000000 in
theorem arith_lt (a b : Int) (w : World) :
    Calls Tryz.prog 98 #[.agg (mach (none, 0, 0) 0 0), .string ⟨#[60]⟩, .int .i64 a, .int .i64 b] w fun e w' => ∃ k nm tx st, MachRes w k nm tx st e w' ∧ ArOk [60] a b k nm tx st := by
  obtain ⟨r1, hsz, b2⟩ := arith_two w
  have HR1 : Hid _ := r1
  have HSZ : Hid _ := hsz
  have hN := bool13_any (decide (a < b)) ((w.alloc (.cells #[.slice none 0 0, .slice none 0 0, .slice none 0 0, .slice none 0 0, .int .i64 0, .int .i64 0, .int .i64 0, .string ⟨#[]⟩] 131)).alloc (.cells #[.slice none 0 0, .slice none 0 0, .slice none 0 0, .slice none 0 0, .int .i64 0, .int .i64 0, .int .i64 0, .string ⟨#[]⟩] 131))
  unfold MachRes mach at hN
  unfold mach
  simp only at hN ⊢
  clear r1 hsz
  go_enter Tryz.func98, Tryz.ntmps98
  go_wp2_with fail
  refine hN.mono ?_
  rintro e w3 ⟨g, c, rfl, hc, c0, c1, c2, hg, hb3⟩
  have r3 := (hb3.block (w.heap.size + 1) (by rw [HSZ.out]; omega)).trans HR1.out
  have hbb := Below.step b2 hb3
  rw [HSZ.out] at hg
  obtain ⟨hf, hWF⟩ := mach_fin (c := c) 0 r3 hbb (by omega) (by omega) c0 c1 c2
  obtain ⟨f, d0, d1, d2, d3, d4, d5, d6, d7⟩ := zero8 r3
  have f0 := f 0
  have f1 := f 1
  have f2 := f 2
  have f3 := f 3
  have f4 := f 4
  have f5 := f 5
  have f6 := f 6
  have f7 := f 7
  have HF : Hid _ := hf
  have HW : Hid _ := hWF
  have l1 : w.heap.size + 1 < w3.heap.size := lt_of_cell d0
  clear hN hf hWF r3 hb3 hbb b2 c0 c1 c2 f
  go_wp2
  have h9 := HF.out
  refine bodyPost_ret (results_mach rfl _ (w.heap.size + 1) rfl _ (some ⟨g, 0, none⟩, 1, c) 0 0 h9 _ rfl) rfl ?_
  exact ⟨_, _, _, _, ⟨g, c, rfl, hc, HW.out.1, HW.out.2.1, HW.out.2.2.1, by omega, HW.out.2.2.2⟩, (.inr (.inr ⟨rfl, rfl, _, rfl, ar_lt a b⟩))⟩
set_option maxRecDepth 20000 in
set_option maxHeartbeats 4000000 in
theorem arith_le (a b : Int) (w : World) :
    Calls Tryz.prog 98 #[.agg (mach (none, 0, 0) 0 0), .string ⟨#[60, 61]⟩, .int .i64 a, .int .i64 b] w fun e w' => ∃ k nm tx st, MachRes w k nm tx st e w' ∧ ArOk [60, 61] a b k nm tx st := by
  obtain ⟨r1, hsz, b2⟩ := arith_two w
  have HR1 : Hid _ := r1
  have HSZ : Hid _ := hsz
  have hN := bool13_any (decide (a ≤ b)) ((w.alloc (.cells #[.slice none 0 0, .slice none 0 0, .slice none 0 0, .slice none 0 0, .int .i64 0, .int .i64 0, .int .i64 0, .string ⟨#[]⟩] 131)).alloc (.cells #[.slice none 0 0, .slice none 0 0, .slice none 0 0, .slice none 0 0, .int .i64 0, .int .i64 0, .int .i64 0, .string ⟨#[]⟩] 131))
  unfold MachRes mach at hN
  unfold mach
  simp only at hN ⊢
  clear r1 hsz
  go_enter Tryz.func98, Tryz.ntmps98
  go_wp2_with fail
  refine hN.mono ?_
  rintro e w3 ⟨g, c, rfl, hc, c0, c1, c2, hg, hb3⟩
  have r3 := (hb3.block (w.heap.size + 1) (by rw [HSZ.out]; omega)).trans HR1.out
  have hbb := Below.step b2 hb3
  rw [HSZ.out] at hg
  obtain ⟨hf, hWF⟩ := mach_fin (c := c) 0 r3 hbb (by omega) (by omega) c0 c1 c2
  obtain ⟨f, d0, d1, d2, d3, d4, d5, d6, d7⟩ := zero8 r3
  have f0 := f 0
  have f1 := f 1
  have f2 := f 2
  have f3 := f 3
  have f4 := f 4
  have f5 := f 5
  have f6 := f 6
  have f7 := f 7
  have HF : Hid _ := hf
  have HW : Hid _ := hWF
  have l1 : w.heap.size + 1 < w3.heap.size := lt_of_cell d0
  clear hN hf hWF r3 hb3 hbb b2 c0 c1 c2 f
  go_wp2
  have h9 := HF.out
  refine bodyPost_ret (results_mach rfl _ (w.heap.size + 1) rfl _ (some ⟨g, 0, none⟩, 1, c) 0 0 h9 _ rfl) rfl ?_
  exact ⟨_, _, _, _, ⟨g, c, rfl, hc, HW.out.1, HW.out.2.1, HW.out.2.2.1, by omega, HW.out.2.2.2⟩, (.inr (.inr ⟨rfl, rfl, _, rfl, ar_le a b⟩))⟩
set_option maxRecDepth 20000 in
set_option maxHeartbeats 4000000 in
theorem arith_gt (a b : Int) (w : World) :
    Calls Tryz.prog 98 #[.agg (mach (none, 0, 0) 0 0), .string ⟨#[62]⟩, .int .i64 a, .int .i64 b] w fun e w' => ∃ k nm tx st, MachRes w k nm tx st e w' ∧ ArOk [62] a b k nm tx st := by
  obtain ⟨r1, hsz, b2⟩ := arith_two w
  have HR1 : Hid _ := r1
  have HSZ : Hid _ := hsz
  have hN := bool13_any (decide (b < a)) ((w.alloc (.cells #[.slice none 0 0, .slice none 0 0, .slice none 0 0, .slice none 0 0, .int .i64 0, .int .i64 0, .int .i64 0, .string ⟨#[]⟩] 131)).alloc (.cells #[.slice none 0 0, .slice none 0 0, .slice none 0 0, .slice none 0 0, .int .i64 0, .int .i64 0, .int .i64 0, .string ⟨#[]⟩] 131))
  unfold MachRes mach at hN
  unfold mach
  simp only at hN ⊢
  clear r1 hsz
  go_enter Tryz.func98, Tryz.ntmps98
  go_wp2_with fail
  refine hN.mono ?_
  rintro e w3 ⟨g, c, rfl, hc, c0, c1, c2, hg, hb3⟩
  have r3 := (hb3.block (w.heap.size + 1) (by rw [HSZ.out]; omega)).trans HR1.out
  have hbb := Below.step b2 hb3
  rw [HSZ.out] at hg
  obtain ⟨hf, hWF⟩ := mach_fin (c := c) 0 r3 hbb (by omega) (by omega) c0 c1 c2
  obtain ⟨f, d0, d1, d2, d3, d4, d5, d6, d7⟩ := zero8 r3
  have f0 := f 0
  have f1 := f 1
  have f2 := f 2
  have f3 := f 3
  have f4 := f 4
  have f5 := f 5
  have f6 := f 6
  have f7 := f 7
  have HF : Hid _ := hf
  have HW : Hid _ := hWF
  have l1 : w.heap.size + 1 < w3.heap.size := lt_of_cell d0
  clear hN hf hWF r3 hb3 hbb b2 c0 c1 c2 f
  go_wp2
  have h9 := HF.out
  refine bodyPost_ret (results_mach rfl _ (w.heap.size + 1) rfl _ (some ⟨g, 0, none⟩, 1, c) 0 0 h9 _ rfl) rfl ?_
  exact ⟨_, _, _, _, ⟨g, c, rfl, hc, HW.out.1, HW.out.2.1, HW.out.2.2.1, by omega, HW.out.2.2.2⟩, (.inr (.inr ⟨rfl, rfl, _, rfl, ar_gt a b⟩))⟩
set_option maxRecDepth 20000 in
set_option maxHeartbeats 4000000 in
theorem arith_ge (a b : Int) (w : World) :
    Calls Tryz.prog 98 #[.agg (mach (none, 0, 0) 0 0), .string ⟨#[62, 61]⟩, .int .i64 a, .int .i64 b] w fun e w' => ∃ k nm tx st, MachRes w k nm tx st e w' ∧ ArOk [62, 61] a b k nm tx st := by
  obtain ⟨r1, hsz, b2⟩ := arith_two w
  have HR1 : Hid _ := r1
  have HSZ : Hid _ := hsz
  have hN := bool13_any (decide (b ≤ a)) ((w.alloc (.cells #[.slice none 0 0, .slice none 0 0, .slice none 0 0, .slice none 0 0, .int .i64 0, .int .i64 0, .int .i64 0, .string ⟨#[]⟩] 131)).alloc (.cells #[.slice none 0 0, .slice none 0 0, .slice none 0 0, .slice none 0 0, .int .i64 0, .int .i64 0, .int .i64 0, .string ⟨#[]⟩] 131))
  unfold MachRes mach at hN
  unfold mach
  simp only at hN ⊢
  clear r1 hsz
  go_enter Tryz.func98, Tryz.ntmps98
  go_wp2_with fail
  refine hN.mono ?_
  rintro e w3 ⟨g, c, rfl, hc, c0, c1, c2, hg, hb3⟩
  have r3 := (hb3.block (w.heap.size + 1) (by rw [HSZ.out]; omega)).trans HR1.out
  have hbb := Below.step b2 hb3
  rw [HSZ.out] at hg
  obtain ⟨hf, hWF⟩ := mach_fin (c := c) 0 r3 hbb (by omega) (by omega) c0 c1 c2
  obtain ⟨f, d0, d1, d2, d3, d4, d5, d6, d7⟩ := zero8 r3
  have f0 := f 0
  have f1 := f 1
  have f2 := f 2
  have f3 := f 3
  have f4 := f 4
  have f5 := f 5
  have f6 := f 6
  have f7 := f 7
  have HF : Hid _ := hf
  have HW : Hid _ := hWF
  have l1 : w.heap.size + 1 < w3.heap.size := lt_of_cell d0
  clear hN hf hWF r3 hb3 hbb b2 c0 c1 c2 f
  go_wp2
  have h9 := HF.out
  refine bodyPost_ret (results_mach rfl _ (w.heap.size + 1) rfl _ (some ⟨g, 0, none⟩, 1, c) 0 0 h9 _ rfl) rfl ?_
  exact ⟨_, _, _, _, ⟨g, c, rfl, hc, HW.out.1, HW.out.2.1, HW.out.2.2.1, by omega, HW.out.2.2.2⟩, (.inr (.inr ⟨rfl, rfl, _, rfl, ar_ge a b⟩))⟩
theorem ar_quo (a b : Int) (h : b ≠ 0) : arithT [47] a b = some (leafT 72 (wrap64 (a.tdiv b)) ⟨#[]⟩) := by simp [arithT, wr64, h]
theorem ar_rem (a b : Int) (h : b ≠ 0) : arithT [37] a b = some (leafT 72 (wrap64 (a.tmod b)) ⟨#[]⟩) := by simp [arithT, wr64, h]
theorem ar_qn (a : Int) : arithT [47] a (-1) = some (leafT 72 (wrap64 (-a)) ⟨#[]⟩) := by rw [ar_quo a (-1) (by omega)]; simp [Int.tdiv_neg]
theorem ar_rn (a : Int) : arithT [37] a (-1) = some (leafT 72 0 ⟨#[]⟩) := by rw [ar_rem a (-1) (by omega)]; simp [Int.tmod_neg, wrap64]
set_option maxRecDepth 20000 in
set_option maxHeartbeats 4000000 in
theorem arith_qz (a : Int) (w : World) :
    Calls Tryz.prog 98 #[.agg (mach (none, 0, 0) 0 0), .string ⟨#[47]⟩, .int .i64 a, .int .i64 0] w fun e w' => ∃ k nm tx st, MachRes w k nm tx st e w' ∧ ArOk [47] a 0 k nm tx st := by
  obtain ⟨r1, hsz, b2⟩ := arith_two w
  have HR1 : Hid _ := r1
  have HSZ : Hid _ := hsz
  have hN := raise13_any ⟨#[68, 105, 118]⟩ ((w.alloc (.cells #[.slice none 0 0, .slice none 0 0, .slice none 0 0, .slice none 0 0, .int .i64 0, .int .i64 0, .int .i64 0, .string ⟨#[]⟩] 131)).alloc (.cells #[.slice none 0 0, .slice none 0 0, .slice none 0 0, .slice none 0 0, .int .i64 0, .int .i64 0, .int .i64 0, .string ⟨#[]⟩] 131))
  unfold MachRes mach at hN
  unfold mach
  simp only at hN ⊢
  clear r1 hsz
  go_enter Tryz.func98, Tryz.ntmps98
  go_wp2_with fail
  refine hN.mono ?_
  rintro e w3 ⟨g, c, rfl, hc, c0, c1, c2, hg, hb3⟩
  have r3 := (hb3.block (w.heap.size + 1) (by rw [HSZ.out]; omega)).trans HR1.out
  have hbb := Below.step b2 hb3
  rw [HSZ.out] at hg
  obtain ⟨hf, hWF⟩ := mach_fin (c := c) 1 r3 hbb (by omega) (by omega) c0 c1 c2
  obtain ⟨f, d0, d1, d2, d3, d4, d5, d6, d7⟩ := zero8 r3
  have f0 := f 0
  have f1 := f 1
  have f2 := f 2
  have f3 := f 3
  have f4 := f 4
  have f5 := f 5
  have f6 := f 6
  have f7 := f 7
  have HF : Hid _ := hf
  have HW : Hid _ := hWF
  have l1 : w.heap.size + 1 < w3.heap.size := lt_of_cell d0
  clear hN hf hWF r3 hb3 hbb b2 c0 c1 c2 f
  go_wp2
  have h9 := HF.out
  refine bodyPost_ret (results_mach rfl _ (w.heap.size + 1) rfl _ (some ⟨g, 0, none⟩, 1, c) 1 0 h9 _ rfl) rfl ?_
  exact ⟨_, _, _, _, ⟨g, c, rfl, hc, HW.out.1, HW.out.2.1, HW.out.2.2.1, by omega, HW.out.2.2.2⟩, (.inl ⟨rfl, by simp [arithT]⟩)⟩
set_option maxRecDepth 20000 in
set_option maxHeartbeats 4000000 in
theorem arith_rz (a : Int) (w : World) :
    Calls Tryz.prog 98 #[.agg (mach (none, 0, 0) 0 0), .string ⟨#[37]⟩, .int .i64 a, .int .i64 0] w fun e w' => ∃ k nm tx st, MachRes w k nm tx st e w' ∧ ArOk [37] a 0 k nm tx st := by
  obtain ⟨r1, hsz, b2⟩ := arith_two w
  have HR1 : Hid _ := r1
  have HSZ : Hid _ := hsz
  have hN := raise13_any ⟨#[68, 105, 118]⟩ ((w.alloc (.cells #[.slice none 0 0, .slice none 0 0, .slice none 0 0, .slice none 0 0, .int .i64 0, .int .i64 0, .int .i64 0, .string ⟨#[]⟩] 131)).alloc (.cells #[.slice none 0 0, .slice none 0 0, .slice none 0 0, .slice none 0 0, .int .i64 0, .int .i64 0, .int .i64 0, .string ⟨#[]⟩] 131))
  unfold MachRes mach at hN
  unfold mach
  simp only at hN ⊢
  clear r1 hsz
  go_enter Tryz.func98, Tryz.ntmps98
  go_wp2_with fail
  refine hN.mono ?_
  rintro e w3 ⟨g, c, rfl, hc, c0, c1, c2, hg, hb3⟩
  have r3 := (hb3.block (w.heap.size + 1) (by rw [HSZ.out]; omega)).trans HR1.out
  have hbb := Below.step b2 hb3
  rw [HSZ.out] at hg
  obtain ⟨hf, hWF⟩ := mach_fin (c := c) 1 r3 hbb (by omega) (by omega) c0 c1 c2
  obtain ⟨f, d0, d1, d2, d3, d4, d5, d6, d7⟩ := zero8 r3
  have f0 := f 0
  have f1 := f 1
  have f2 := f 2
  have f3 := f 3
  have f4 := f 4
  have f5 := f 5
  have f6 := f 6
  have f7 := f 7
  have HF : Hid _ := hf
  have HW : Hid _ := hWF
  have l1 : w.heap.size + 1 < w3.heap.size := lt_of_cell d0
  clear hN hf hWF r3 hb3 hbb b2 c0 c1 c2 f
  go_wp2
  have h9 := HF.out
  refine bodyPost_ret (results_mach rfl _ (w.heap.size + 1) rfl _ (some ⟨g, 0, none⟩, 1, c) 1 0 h9 _ rfl) rfl ?_
  exact ⟨_, _, _, _, ⟨g, c, rfl, hc, HW.out.1, HW.out.2.1, HW.out.2.2.1, by omega, HW.out.2.2.2⟩, (.inl ⟨rfl, by simp [arithT]⟩)⟩
set_option maxRecDepth 20000 in
set_option maxHeartbeats 4000000 in
theorem arith_qn (a : Int) (w : World) :
    Calls Tryz.prog 98 #[.agg (mach (none, 0, 0) 0 0), .string ⟨#[47]⟩, .int .i64 a, .int .i64 (-1)] w fun e w' => ∃ k nm tx st, MachRes w k nm tx st e w' ∧ ArOk [47] a (-1) k nm tx st := by
  obtain ⟨r1, hsz, b2⟩ := arith_two w
  have HR1 : Hid _ := r1
  have HSZ : Hid _ := hsz
  have hN := number_any (wrap64 (-a)) ((w.alloc (.cells #[.slice none 0 0, .slice none 0 0, .slice none 0 0, .slice none 0 0, .int .i64 0, .int .i64 0, .int .i64 0, .string ⟨#[]⟩] 131)).alloc (.cells #[.slice none 0 0, .slice none 0 0, .slice none 0 0, .slice none 0 0, .int .i64 0, .int .i64 0, .int .i64 0, .string ⟨#[]⟩] 131))
  unfold MachRes mach at hN
  unfold mach
  simp only at hN ⊢
  clear r1 hsz
  go_enter Tryz.func98, Tryz.ntmps98
  go_wp2_with fail
  refine hN.mono ?_
  rintro e w3 ⟨g, c, rfl, hc, c0, c1, c2, hg, hb3⟩
  have r3 := (hb3.block (w.heap.size + 1) (by rw [HSZ.out]; omega)).trans HR1.out
  have hbb := Below.step b2 hb3
  rw [HSZ.out] at hg
  obtain ⟨hf, hWF⟩ := mach_fin (c := c) 0 r3 hbb (by omega) (by omega) c0 c1 c2
  obtain ⟨f, d0, d1, d2, d3, d4, d5, d6, d7⟩ := zero8 r3
  have f0 := f 0
  have f1 := f 1
  have f2 := f 2
  have f3 := f 3
  have f4 := f 4
  have f5 := f 5
  have f6 := f 6
  have f7 := f 7
  have HF : Hid _ := hf
  have HW : Hid _ := hWF
  have l1 : w.heap.size + 1 < w3.heap.size := lt_of_cell d0
  clear hN hf hWF r3 hb3 hbb b2 c0 c1 c2 f
  go_wp2
  have h9 := HF.out
  refine bodyPost_ret (results_mach rfl _ (w.heap.size + 1) rfl _ (some ⟨g, 0, none⟩, 1, c) 0 0 h9 _ rfl) rfl ?_
  exact ⟨_, _, _, _, ⟨g, c, rfl, hc, HW.out.1, HW.out.2.1, HW.out.2.2.1, by omega, HW.out.2.2.2⟩, (.inr (.inl ⟨rfl, rfl, ar_qn a⟩))⟩
set_option maxRecDepth 20000 in
set_option maxHeartbeats 4000000 in
theorem arith_rn (a : Int) (w : World) :
    Calls Tryz.prog 98 #[.agg (mach (none, 0, 0) 0 0), .string ⟨#[37]⟩, .int .i64 a, .int .i64 (-1)] w fun e w' => ∃ k nm tx st, MachRes w k nm tx st e w' ∧ ArOk [37] a (-1) k nm tx st := by
  obtain ⟨r1, hsz, b2⟩ := arith_two w
  have HR1 : Hid _ := r1
  have HSZ : Hid _ := hsz
  have hN := number_any 0 ((w.alloc (.cells #[.slice none 0 0, .slice none 0 0, .slice none 0 0, .slice none 0 0, .int .i64 0, .int .i64 0, .int .i64 0, .string ⟨#[]⟩] 131)).alloc (.cells #[.slice none 0 0, .slice none 0 0, .slice none 0 0, .slice none 0 0, .int .i64 0, .int .i64 0, .int .i64 0, .string ⟨#[]⟩] 131))
  unfold MachRes mach at hN
  unfold mach
  simp only at hN ⊢
  clear r1 hsz
  go_enter Tryz.func98, Tryz.ntmps98
  go_wp2_with fail
  refine hN.mono ?_
  rintro e w3 ⟨g, c, rfl, hc, c0, c1, c2, hg, hb3⟩
  have r3 := (hb3.block (w.heap.size + 1) (by rw [HSZ.out]; omega)).trans HR1.out
  have hbb := Below.step b2 hb3
  rw [HSZ.out] at hg
  obtain ⟨hf, hWF⟩ := mach_fin (c := c) 0 r3 hbb (by omega) (by omega) c0 c1 c2
  obtain ⟨f, d0, d1, d2, d3, d4, d5, d6, d7⟩ := zero8 r3
  have f0 := f 0
  have f1 := f 1
  have f2 := f 2
  have f3 := f 3
  have f4 := f 4
  have f5 := f 5
  have f6 := f 6
  have f7 := f 7
  have HF : Hid _ := hf
  have HW : Hid _ := hWF
  have l1 : w.heap.size + 1 < w3.heap.size := lt_of_cell d0
  clear hN hf hWF r3 hb3 hbb b2 c0 c1 c2 f
  go_wp2
  have h9 := HF.out
  refine bodyPost_ret (results_mach rfl _ (w.heap.size + 1) rfl _ (some ⟨g, 0, none⟩, 1, c) 0 0 h9 _ rfl) rfl ?_
  exact ⟨_, _, _, _, ⟨g, c, rfl, hc, HW.out.1, HW.out.2.1, HW.out.2.2.1, by omega, HW.out.2.2.2⟩, (.inr (.inl ⟨rfl, rfl, ar_rn a⟩))⟩
end Go.Proofs.YtedlofpgddjpgaaGreat
