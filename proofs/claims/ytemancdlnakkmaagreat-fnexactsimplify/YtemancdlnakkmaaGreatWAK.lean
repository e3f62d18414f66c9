import Derived.Test.YtemancdlnakkmaaGreatLAr9
import Derived.Deep.RegionHeld3
namespace Go.Proofs.YtemancdlnakkmaaGreat
open Go.RowKit
theorem ar_quo' (a b : Int) (h : b ≠ 0) : arithT [47] a b = some (leafT 72 (IntKind.i64.wrap (a.tdiv b)) ⟨#[]⟩) := by simp [arithT, h]
theorem tmod_in (a b : Int) (ha : -9223372036854775808 ≤ a ∧ a ≤ 9223372036854775807) : -9223372036854775808 ≤ a.tmod b ∧ a.tmod b ≤ 9223372036854775807 := by
  have h1 : (a.tmod b).natAbs ≤ a.natAbs := by rw [Int.natAbs_tmod]; exact Nat.mod_le _ _
  by_cases h : 0 ≤ a
  · have := Int.tmod_nonneg b h
    omega
  · have h2 : 0 ≤ (-a).tmod b := Int.tmod_nonneg b (by omega)
    rw [Int.neg_tmod] at h2
    omega
theorem ar_rem' (a b : Int) (ha : -9223372036854775808 ≤ a ∧ a ≤ 9223372036854775807) (h : b ≠ 0) : arithT [37] a b = some (leafT 72 (a.tmod b) ⟨#[]⟩) := by
  have h1 := tmod_in a b ha
  have h2 : wrap64 (a.tmod b) = a.tmod b := by unfold wrap64; omega
  rw [ar_rem a b h, h2]
set_option maxRecDepth 20000 in
set_option maxHeartbeats 4000000 in
theorem arith_quo (a b : Int) (h0 : b ≠ 0) (h1 : b ≠ -1) (w : World) :
    Calls Tryz.prog 90 #[.agg (mach (none, 0, 0) 0 0), .string ⟨#[47]⟩, .int .i64 a, .int .i64 b] w fun e w' => ∃ k nm tx st, MachRes w k nm tx st e w' ∧ ArOk [47] a b k nm tx st := by
  obtain ⟨r1, hsz, b2⟩ := arith_two w
  have HR1 : Hid _ := r1
  have HSZ : Hid _ := hsz
  have t0 : (b == 0) = false := by simpa using h0
  have t1 : (b == -1) = false := by simpa using h1
  have HCC : Hid (∀ W, Calls Tryz.prog 107 #[.agg #[.slice none 0 0, .slice none 0 0, .slice none 0 0, .slice none 0 0, .int .i64 0, .int .i64 0, .int .i64 0, .string ⟨#[]⟩], .int .i64 (IntKind.i64.wrap (a.tdiv b))] W fun e w' => ∃ g c, e = .returned (.tuple #[.agg #[.slice none 0 0, .slice none 0 0, .slice (some ⟨g, 0, none⟩) 1 c, .slice none 0 0, .int .i64 0, .int .i64 0, .int .i64 0, .string ⟨#[]⟩], .int .i64 0]) ∧ 1 ≤ c ∧ w'.cell? ⟨g, 0, none⟩ = some (.int .i64 1) ∧ w'.cell? ⟨g, 1, none⟩ = some (.int .i64 (IntKind.i64.wrap (a.tdiv b))) ∧ V2 w' g ⟨#[]⟩ ∧ W.heap.size ≤ g ∧ Below W.heap.size W w') := fun W => number_any _ W
  unfold mach
  simp only
  clear r1 hsz
  go_enter Tryz.func90, Tryz.ntmps90
  go_wp2
  have r0 : ((w.alloc (.cells #[.slice none 0 0, .slice none 0 0, .slice none 0 0, .slice none 0 0, .int .i64 0, .int .i64 0, .int .i64 0, .string ⟨#[]⟩] 119)).alloc (.cells #[.slice none 0 0, .slice none 0 0, .slice none 0 0, .slice none 0 0, .int .i64 0, .int .i64 0, .int .i64 0, .string ⟨#[]⟩] 119)).heap[w.heap.size]? = some (.cells #[.slice none 0 0, .slice none 0 0, .slice none 0 0, .slice none 0 0, .int .i64 0, .int .i64 0, .int .i64 0, .string ⟨#[]⟩] 119 (0, 0)) := (Below.heap_alloc _ _ _ (by simp)).trans (heap_alloc_new _ _)
  have r1 := HR1.out
  have hsz := HSZ.out
  clear HR1 HSZ
  generalize ((w.alloc (.cells #[.slice none 0 0, .slice none 0 0, .slice none 0 0, .slice none 0 0, .int .i64 0, .int .i64 0, .int .i64 0, .string ⟨#[]⟩] 119)).alloc (.cells #[.slice none 0 0, .slice none 0 0, .slice none 0 0, .slice none 0 0, .int .i64 0, .int .i64 0, .int .i64 0, .string ⟨#[]⟩] 119)) = W1 at r0 r1 hsz b2 ⊢
  have l0 : w.heap.size < W1.heap.size := by omega
  have HCE : Hid (∀ W, Below W1.heap.size W1 W → W.cell? ⟨w.heap.size, 0, none⟩ = some (.slice none 0 0) ∧ W.cell? ⟨w.heap.size, 1, none⟩ = some (.slice none 0 0) ∧ W.cell? ⟨w.heap.size, 2, none⟩ = some (.slice none 0 0) ∧ W.cell? ⟨w.heap.size, 3, none⟩ = some (.slice none 0 0) ∧ W.cell? ⟨w.heap.size, 4, none⟩ = some (.int .i64 0) ∧ W.cell? ⟨w.heap.size, 5, none⟩ = some (.int .i64 0) ∧ W.cell? ⟨w.heap.size, 6, none⟩ = some (.int .i64 0) ∧ W.cell? ⟨w.heap.size, 7, none⟩ = some (.string ⟨#[]⟩)) := by
    intro W hW
    have q := (hW.block w.heap.size l0).trans r0
    refine ⟨?_, ?_, ?_, ?_, ?_, ?_, ?_, ?_⟩ <;> (rw [cell_of_row _ _ _ _ _ _ q]; rfl)
  have HR1 : Hid _ := r1
  have HSZ : Hid _ := hsz
  have hbD := (Below.refl W1.heap.size W1).drew
  clear r0 r1 hsz
  go_region_held3 (fun w' => w'.cell? ⟨w.heap.size, 0, none⟩ = some (.slice none 0 0) ∧ w'.cell? ⟨w.heap.size, 1, none⟩ = some (.slice none 0 0) ∧ w'.cell? ⟨w.heap.size, 2, none⟩ = some (.slice none 0 0) ∧ w'.cell? ⟨w.heap.size, 3, none⟩ = some (.slice none 0 0) ∧ w'.cell? ⟨w.heap.size, 4, none⟩ = some (.int .i64 0) ∧ w'.cell? ⟨w.heap.size, 5, none⟩ = some (.int .i64 0) ∧ w'.cell? ⟨w.heap.size, 6, none⟩ = some (.int .i64 0) ∧ w'.cell? ⟨w.heap.size, 7, none⟩ = some (.string ⟨#[]⟩)) (first | with_reducible exact HCE.out _ hbD | go_keep) ((go_at_call 107; refine (HCC.out _).mono ?_; rintro e w3 ⟨g, c, rfl, hc, c0, c1, c2, hg, hb3⟩; have hb4 := Below.step hbD hb3; obtain ⟨e0, e1, e2, e3, e4, e5, e6, e7⟩ := HCE.out _ hb4; have n1 : w.heap.size + 1 ≠ w.heap.size := (by omega); have l9 : w.heap.size < w3.heap.size := lt_of_cell e0; have r3 := (hb4.block (w.heap.size + 1) (by have := HSZ.out; omega)).trans HR1.out; have hbb := Below.step b2 hb4; obtain ⟨hf, hWF⟩ := mach_fin (c := c) 0 r3 hbb (by omega) (by have := hbD.size; have := HSZ.out; omega) c0 c1 c2; obtain ⟨f, d0, d1, d2, d3, d4, d5, d6, d7⟩ := zero8 r3; have f0 := f 0; have f1 := f 1; have f2 := f 2; have f3 := f 3; have f4 := f 4; have f5 := f 5; have f6 := f 6; have f7 := f 7; have HF : Hid _ := hf; have HW : Hid _ := hWF; have HG : Hid (w.heap.size ≤ g) := (by show w.heap.size ≤ g; have := hbD.size; have := HSZ.out; omega); have l1 : w.heap.size + 1 < w3.heap.size := lt_of_cell d0; clear hf hWF r3 hb3 hb4 hbb c0 c1 c2 f hg))
  clear e0 e1 e2 e3 e4 e5 e6 e7 HCE HCC f0 f1 f2 f3 f4 f5 f6 f7 d0 d1 d2 d3 d4 d5 d6 d7
  generalize hn : IntKind.i64.wrap (a.tdiv b) = n at HW ⊢
  generalize ((((((((w3.setCell ⟨w.heap.size + 1, 0, none⟩ (.slice none 0 0)).setCell ⟨w.heap.size + 1, 1, none⟩ (.slice none 0 0)).setCell ⟨w.heap.size + 1, 2, none⟩ (.slice (some ⟨g, 0, none⟩) 1 c)).setCell ⟨w.heap.size + 1, 3, none⟩ (.slice none 0 0)).setCell ⟨w.heap.size + 1, 4, none⟩ (.int .i64 0)).setCell ⟨w.heap.size + 1, 5, none⟩ (.int .i64 0)).setCell ⟨w.heap.size + 1, 6, none⟩ (.int .i64 0)).setCell ⟨w.heap.size + 1, 7, none⟩ (.string ⟨#[]⟩)) = WF at HF HW ⊢
  have HN : Hid _ := hn
  clear hn
  go_wp2
  have h9 := HF.out
  refine bodyPost_ret (results_mach rfl _ (w.heap.size + 1) rfl _ (some ⟨g, 0, none⟩, 1, c) 0 0 h9 _ rfl) rfl ?_
  exact ⟨_, _, _, _, ⟨g, c, rfl, hc, HW.out.1, HW.out.2.1, HW.out.2.2.1, HG.out, HW.out.2.2.2⟩, .inr (.inl ⟨rfl, rfl, by rw [← HN.out]; exact ar_quo' a b h0⟩)⟩
set_option maxRecDepth 20000 in
set_option maxHeartbeats 4000000 in
theorem arith_rem (a b : Int) (ha : -9223372036854775808 ≤ a ∧ a ≤ 9223372036854775807) (h0 : b ≠ 0) (h1 : b ≠ -1) (w : World) :
    Calls Tryz.prog 90 #[.agg (mach (none, 0, 0) 0 0), .string ⟨#[37]⟩, .int .i64 a, .int .i64 b] w fun e w' => ∃ k nm tx st, MachRes w k nm tx st e w' ∧ ArOk [37] a b k nm tx st := by
  obtain ⟨r1, hsz, b2⟩ := arith_two w
  have HR1 : Hid _ := r1
  have HSZ : Hid _ := hsz
  have t0 : (b == 0) = false := by simpa using h0
  have t1 : (b == -1) = false := by simpa using h1
  have HCC : Hid (∀ W, Calls Tryz.prog 107 #[.agg #[.slice none 0 0, .slice none 0 0, .slice none 0 0, .slice none 0 0, .int .i64 0, .int .i64 0, .int .i64 0, .string ⟨#[]⟩], .int .i64 (a.tmod b)] W fun e w' => ∃ g c, e = .returned (.tuple #[.agg #[.slice none 0 0, .slice none 0 0, .slice (some ⟨g, 0, none⟩) 1 c, .slice none 0 0, .int .i64 0, .int .i64 0, .int .i64 0, .string ⟨#[]⟩], .int .i64 0]) ∧ 1 ≤ c ∧ w'.cell? ⟨g, 0, none⟩ = some (.int .i64 1) ∧ w'.cell? ⟨g, 1, none⟩ = some (.int .i64 (a.tmod b)) ∧ V2 w' g ⟨#[]⟩ ∧ W.heap.size ≤ g ∧ Below W.heap.size W w') := fun W => number_any _ W
  unfold mach
  simp only
  clear r1 hsz
  go_enter Tryz.func90, Tryz.ntmps90
  go_wp2
  have r0 : ((w.alloc (.cells #[.slice none 0 0, .slice none 0 0, .slice none 0 0, .slice none 0 0, .int .i64 0, .int .i64 0, .int .i64 0, .string ⟨#[]⟩] 119)).alloc (.cells #[.slice none 0 0, .slice none 0 0, .slice none 0 0, .slice none 0 0, .int .i64 0, .int .i64 0, .int .i64 0, .string ⟨#[]⟩] 119)).heap[w.heap.size]? = some (.cells #[.slice none 0 0, .slice none 0 0, .slice none 0 0, .slice none 0 0, .int .i64 0, .int .i64 0, .int .i64 0, .string ⟨#[]⟩] 119 (0, 0)) := (Below.heap_alloc _ _ _ (by simp)).trans (heap_alloc_new _ _)
  have r1 := HR1.out
  have hsz := HSZ.out
  clear HR1 HSZ
  generalize ((w.alloc (.cells #[.slice none 0 0, .slice none 0 0, .slice none 0 0, .slice none 0 0, .int .i64 0, .int .i64 0, .int .i64 0, .string ⟨#[]⟩] 119)).alloc (.cells #[.slice none 0 0, .slice none 0 0, .slice none 0 0, .slice none 0 0, .int .i64 0, .int .i64 0, .int .i64 0, .string ⟨#[]⟩] 119)) = W1 at r0 r1 hsz b2 ⊢
  have l0 : w.heap.size < W1.heap.size := by omega
  have HCE : Hid (∀ W, Below W1.heap.size W1 W → W.cell? ⟨w.heap.size, 0, none⟩ = some (.slice none 0 0) ∧ W.cell? ⟨w.heap.size, 1, none⟩ = some (.slice none 0 0) ∧ W.cell? ⟨w.heap.size, 2, none⟩ = some (.slice none 0 0) ∧ W.cell? ⟨w.heap.size, 3, none⟩ = some (.slice none 0 0) ∧ W.cell? ⟨w.heap.size, 4, none⟩ = some (.int .i64 0) ∧ W.cell? ⟨w.heap.size, 5, none⟩ = some (.int .i64 0) ∧ W.cell? ⟨w.heap.size, 6, none⟩ = some (.int .i64 0) ∧ W.cell? ⟨w.heap.size, 7, none⟩ = some (.string ⟨#[]⟩)) := by
    intro W hW
    have q := (hW.block w.heap.size l0).trans r0
    refine ⟨?_, ?_, ?_, ?_, ?_, ?_, ?_, ?_⟩ <;> (rw [cell_of_row _ _ _ _ _ _ q]; rfl)
  have HR1 : Hid _ := r1
  have HSZ : Hid _ := hsz
  have hbD := (Below.refl W1.heap.size W1).drew
  clear r0 r1 hsz
  go_region_held3 (fun w' => w'.cell? ⟨w.heap.size, 0, none⟩ = some (.slice none 0 0) ∧ w'.cell? ⟨w.heap.size, 1, none⟩ = some (.slice none 0 0) ∧ w'.cell? ⟨w.heap.size, 2, none⟩ = some (.slice none 0 0) ∧ w'.cell? ⟨w.heap.size, 3, none⟩ = some (.slice none 0 0) ∧ w'.cell? ⟨w.heap.size, 4, none⟩ = some (.int .i64 0) ∧ w'.cell? ⟨w.heap.size, 5, none⟩ = some (.int .i64 0) ∧ w'.cell? ⟨w.heap.size, 6, none⟩ = some (.int .i64 0) ∧ w'.cell? ⟨w.heap.size, 7, none⟩ = some (.string ⟨#[]⟩)) (first | with_reducible exact HCE.out _ hbD | go_keep) ((go_at_call 107; refine (HCC.out _).mono ?_; rintro e w3 ⟨g, c, rfl, hc, c0, c1, c2, hg, hb3⟩; have hb4 := Below.step hbD hb3; obtain ⟨e0, e1, e2, e3, e4, e5, e6, e7⟩ := HCE.out _ hb4; have n1 : w.heap.size + 1 ≠ w.heap.size := (by omega); have l9 : w.heap.size < w3.heap.size := lt_of_cell e0; have r3 := (hb4.block (w.heap.size + 1) (by have := HSZ.out; omega)).trans HR1.out; have hbb := Below.step b2 hb4; obtain ⟨hf, hWF⟩ := mach_fin (c := c) 0 r3 hbb (by omega) (by have := hbD.size; have := HSZ.out; omega) c0 c1 c2; obtain ⟨f, d0, d1, d2, d3, d4, d5, d6, d7⟩ := zero8 r3; have f0 := f 0; have f1 := f 1; have f2 := f 2; have f3 := f 3; have f4 := f 4; have f5 := f 5; have f6 := f 6; have f7 := f 7; have HF : Hid _ := hf; have HW : Hid _ := hWF; have HG : Hid (w.heap.size ≤ g) := (by show w.heap.size ≤ g; have := hbD.size; have := HSZ.out; omega); have l1 : w.heap.size + 1 < w3.heap.size := lt_of_cell d0; clear hf hWF r3 hb3 hb4 hbb c0 c1 c2 f hg))
  clear e0 e1 e2 e3 e4 e5 e6 e7 HCE HCC f0 f1 f2 f3 f4 f5 f6 f7 d0 d1 d2 d3 d4 d5 d6 d7
  generalize hn : a.tmod b = n at HW ⊢
  generalize ((((((((w3.setCell ⟨w.heap.size + 1, 0, none⟩ (.slice none 0 0)).setCell ⟨w.heap.size + 1, 1, none⟩ (.slice none 0 0)).setCell ⟨w.heap.size + 1, 2, none⟩ (.slice (some ⟨g, 0, none⟩) 1 c)).setCell ⟨w.heap.size + 1, 3, none⟩ (.slice none 0 0)).setCell ⟨w.heap.size + 1, 4, none⟩ (.int .i64 0)).setCell ⟨w.heap.size + 1, 5, none⟩ (.int .i64 0)).setCell ⟨w.heap.size + 1, 6, none⟩ (.int .i64 0)).setCell ⟨w.heap.size + 1, 7, none⟩ (.string ⟨#[]⟩)) = WF at HF HW ⊢
  have HN : Hid _ := hn
  clear hn
  go_wp2
  have h9 := HF.out
  refine bodyPost_ret (results_mach rfl _ (w.heap.size + 1) rfl _ (some ⟨g, 0, none⟩, 1, c) 0 0 h9 _ rfl) rfl ?_
  exact ⟨_, _, _, _, ⟨g, c, rfl, hc, HW.out.1, HW.out.2.1, HW.out.2.2.1, HG.out, HW.out.2.2.2⟩, .inr (.inl ⟨rfl, rfl, by rw [← HN.out]; exact ar_rem' a b ha h0⟩)⟩
theorem arith_any (op : ByteArray) (l : List UInt8) (hop : (op = ⟨#[43]⟩ ∧ l = [43]) ∨ (op = ⟨#[45]⟩ ∧ l = [45]) ∨ (op = ⟨#[42]⟩ ∧ l = [42]) ∨ (op = ⟨#[60]⟩ ∧ l = [60]) ∨ (op = ⟨#[60, 61]⟩ ∧ l = [60, 61]) ∨ (op = ⟨#[62]⟩ ∧ l = [62]) ∨ (op = ⟨#[62, 61]⟩ ∧ l = [62, 61]) ∨ (op = ⟨#[47]⟩ ∧ l = [47]) ∨ (op = ⟨#[37]⟩ ∧ l = [37])) (a b : Int) (ha : -9223372036854775808 ≤ a ∧ a ≤ 9223372036854775807) (w : World) :
    Calls Tryz.prog 90 #[.agg (mach (none, 0, 0) 0 0), .string op, .int .i64 a, .int .i64 b] w fun e w' => ∃ k nm tx st, MachRes w k nm tx st e w' ∧ ArOk l a b k nm tx st := by
  rcases hop with ⟨rfl, rfl⟩ | ⟨rfl, rfl⟩ | ⟨rfl, rfl⟩ | ⟨rfl, rfl⟩ | ⟨rfl, rfl⟩ | ⟨rfl, rfl⟩ | ⟨rfl, rfl⟩ | ⟨rfl, rfl⟩ | ⟨rfl, rfl⟩
  · exact arith_add a b w
  · exact arith_sub a b w
  · exact arith_mul a b w
  · exact arith_lt a b w
  · exact arith_le a b w
  · exact arith_gt a b w
  · exact arith_ge a b w
  · by_cases h0 : b = 0
    · subst h0; exact arith_qz a w
    by_cases h1 : b = -1
    · subst h1; exact arith_qn a w
    exact arith_quo a b h0 h1 w
  · by_cases h0 : b = 0
    · subst h0; exact arith_rz a w
    by_cases h1 : b = -1
    · subst h1; exact arith_rn a w
    exact arith_rem a b ha h0 h1 w
theorem seven_fin {w w3 : World} {b : Nat} {x0 x1 x2 x3 x4 x5 x6 : Value} (T : Tre) (s : Sl3) (hr : w3.heap[b]? = some (.cells #[x0, x1, x2, x3, x4, x5, x6] 51 (0, 0))) (hb : Below w.heap.size w w3) (hwb : w.heap.size ≤ b) :
    Row7 (((((((w3.setCell ⟨b, 0, none⟩ (.int .i64 T.nd.kind)).setCell ⟨b, 1, none⟩ (.int .i64 T.nd.num)).setCell ⟨b, 2, none⟩ (.string T.nd.text)).setCell ⟨b, 3, none⟩ (.int .i64 T.nd.kids)).setCell ⟨b, 4, none⟩ (.int .i64 T.nd.place)).setCell ⟨b, 5, none⟩ (.slice s.1 s.2.1 s.2.2)).setCell ⟨b, 6, none⟩ (.bool (knT T))) b 0 T s ∧ Below w.heap.size w (((((((w3.setCell ⟨b, 0, none⟩ (.int .i64 T.nd.kind)).setCell ⟨b, 1, none⟩ (.int .i64 T.nd.num)).setCell ⟨b, 2, none⟩ (.string T.nd.text)).setCell ⟨b, 3, none⟩ (.int .i64 T.nd.kids)).setCell ⟨b, 4, none⟩ (.int .i64 T.nd.place)).setCell ⟨b, 5, none⟩ (.slice s.1 s.2.1 s.2.2)).setCell ⟨b, 6, none⟩ (.bool (knT T))) :=
  ⟨row7_of (set7 hr _ _ _ _ _ _ _), set7_below hb hwb _ _ _ _ _ _ _⟩
theorem zero7 {w3 : World} {b : Nat} (r : w3.heap[b]? = some (.cells #[.int .i64 0, .int .i64 0, .string ⟨#[]⟩, .int .i64 0, .int .i64 0, .slice none 0 0, .bool false] 51 (0, 0))) : (∀ j, w3.frozen? ⟨b, j, none⟩ = false) ∧ w3.cell? ⟨b, 0, none⟩ = some (.int .i64 0) ∧ w3.cell? ⟨b, 1, none⟩ = some (.int .i64 0) ∧ w3.cell? ⟨b, 2, none⟩ = some (.string ⟨#[]⟩) ∧ w3.cell? ⟨b, 3, none⟩ = some (.int .i64 0) ∧ w3.cell? ⟨b, 4, none⟩ = some (.int .i64 0) ∧ w3.cell? ⟨b, 5, none⟩ = some (.slice none 0 0) ∧ w3.cell? ⟨b, 6, none⟩ = some (.bool false) := by
  refine ⟨fun j => frozen_of_row _ _ _ _ _ r, ?_, ?_, ?_, ?_, ?_, ?_, ?_⟩ <;> (rw [cell_of_row _ _ _ _ _ _ r]; rfl)
set_option maxRecDepth 20000 in
set_option maxHeartbeats 2000000 in
theorem leaf_any (kd nm : Int) (tx : ByteArray) (h : kd ≠ 77) (w : World) :
    Calls Tryz.prog 61 #[.int .i64 kd, .int .i64 nm, .string tx] w fun e w' => ∃ s : Sl3, s.2.1 = 0 ∧ e = .returned (.agg (sv (leafT kd nm tx) s).toArray) ∧ Below w.heap.size w w' := by
  have b1 := (Below.refl w.heap.size w).alloc (Nat.le_refl _) (.cells #[.int .i64 0, .int .i64 0, .string ⟨#[]⟩, .int .i64 0, .int .i64 0, .slice none 0 0, .bool false] 51)
  have b2 := b1.alloc b1.size (.cells #[] 51)
  have r0 : ((w.alloc (.cells #[.int .i64 0, .int .i64 0, .string ⟨#[]⟩, .int .i64 0, .int .i64 0, .slice none 0 0, .bool false] 51)).alloc (.cells #[] 51)).heap[w.heap.size]? = some (.cells #[.int .i64 0, .int .i64 0, .string ⟨#[]⟩, .int .i64 0, .int .i64 0, .slice none 0 0, .bool false] 51 (0, 0)) := (Below.heap_alloc _ _ _ (by simp)).trans (heap_alloc_new _ _)
  have hN := make_any ⟨kd, nm, tx, 0, 0⟩ [] (some ⟨w.heap.size + 1, 0, none⟩, 0, 0) (fun _ => True) ((w.alloc (.cells #[.int .i64 0, .int .i64 0, .string ⟨#[]⟩, .int .i64 0, .int .i64 0, .slice none 0 0, .bool false] 51)).alloc (.cells #[] 51)) ⟨rfl, Nat.le_refl _, by simp, fun j h => by simp at h⟩ (fun h9 => absurd h9 h)
  have hsz : ((w.alloc (.cells #[.int .i64 0, .int .i64 0, .string ⟨#[]⟩, .int .i64 0, .int .i64 0, .slice none 0 0, .bool false] 51)).alloc (.cells #[] 51)).heap.size = w.heap.size + 1 + 1 := by simp
  have HSZ : Hid _ := hsz
  have HR0 : Hid _ := r0
  obtain ⟨kb, hkb⟩ : ∃ kb, knT (leafT kd nm tx) = kb := ⟨_, rfl⟩
  have HKB : Hid (knT (leafT kd nm tx) = kb) := hkb
  have hsv : ∀ s : Sl3, (sv (leafT kd nm tx) s).toArray = #[.int .i64 kd, .int .i64 nm, .string tx, .int .i64 0, .int .i64 0, .slice s.1 s.2.1 s.2.2, .bool kb] := by
    intro s
    rw [← hkb]
    rfl
  have hl : mkT ⟨kd, nm, tx, 0, 0⟩ [] = leafT kd nm tx := rfl
  rw [hl, hsv] at hN
  simp only at hN
  clear r0 hsz b1 hsv hl hkb
  go_enter Tryz.func61, Tryz.ntmps61
  go_wp2_with fail
  refine hN.mono ?_
  rintro e w3 ⟨rfl, hb3⟩
  have r3 := (hb3.block w.heap.size (by rw [HSZ.out]; omega)).trans HR0.out
  have hbb := Below.step b2 hb3
  have hf := seven_fin (leafT kd nm tx) (some ⟨w.heap.size + 1, 0, none⟩, 0, 0) r3 hbb (Nat.le_refl _)
  rw [HKB.out] at hf
  obtain ⟨f, d0, d1, d2, d3, d4, d5, d6⟩ := zero7 r3
  have f0 := f 0
  have f1 := f 1
  have f2 := f 2
  have f3 := f 3
  have f4 := f 4
  have f5 := f 5
  have f6 := f 6
  have l1 : w.heap.size < w3.heap.size := lt_of_cell d0
  have HF : Hid (Row7 (((((((w3.setCell ⟨w.heap.size, 0, none⟩ (.int .i64 kd)).setCell ⟨w.heap.size, 1, none⟩ (.int .i64 nm)).setCell ⟨w.heap.size, 2, none⟩ (.string tx)).setCell ⟨w.heap.size, 3, none⟩ (.int .i64 0)).setCell ⟨w.heap.size, 4, none⟩ (.int .i64 0)).setCell ⟨w.heap.size, 5, none⟩ (.slice (some ⟨w.heap.size + 1, 0, none⟩) 0 0)).setCell ⟨w.heap.size, 6, none⟩ (.bool kb)) w.heap.size 0 (leafT kd nm tx) (some ⟨w.heap.size + 1, 0, none⟩, 0, 0) ∧ Below w.heap.size w (((((((w3.setCell ⟨w.heap.size, 0, none⟩ (.int .i64 kd)).setCell ⟨w.heap.size, 1, none⟩ (.int .i64 nm)).setCell ⟨w.heap.size, 2, none⟩ (.string tx)).setCell ⟨w.heap.size, 3, none⟩ (.int .i64 0)).setCell ⟨w.heap.size, 4, none⟩ (.int .i64 0)).setCell ⟨w.heap.size, 5, none⟩ (.slice (some ⟨w.heap.size + 1, 0, none⟩) 0 0)).setCell ⟨w.heap.size, 6, none⟩ (.bool kb))) := hf
  clear hN hf r3 hb3 hbb b2 f
  go_wp2
  refine bodyPost_ret (results_cell7 rfl _ w.heap.size rfl _ _ _ HF.out.1) rfl ?_
  exact ⟨_, rfl, rfl, HF.out.2⟩
theorem truth_leaf (b : Bool) : truthT b = leafT 74 0 (boolT b) := rfl
theorem kn74 (tx : ByteArray) : knT (leafT 74 0 tx) = true := by
  rw [leafT, mkT, knT_eq]
  simp [knStep]
set_option maxRecDepth 20000 in
set_option maxHeartbeats 2000000 in
theorem truth_any (b : Bool) (w : World) :
    Calls Tryz.prog 91 #[.bool b] w fun e w' => ∃ s : Sl3, s.2.1 = 0 ∧ e = .returned (.agg (sv (truthT b) s).toArray) ∧ Below w.heap.size w w' := by
  have b1 := (Below.refl w.heap.size w).alloc (Nat.le_refl _) (.cells #[.int .i64 0, .int .i64 0, .string ⟨#[]⟩, .int .i64 0, .int .i64 0, .slice none 0 0, .bool false] 51)
  have r0 : (w.alloc (.cells #[.int .i64 0, .int .i64 0, .string ⟨#[]⟩, .int .i64 0, .int .i64 0, .slice none 0 0, .bool false] 51)).heap[w.heap.size]? = some (.cells #[.int .i64 0, .int .i64 0, .string ⟨#[]⟩, .int .i64 0, .int .i64 0, .slice none 0 0, .bool false] 51 (0, 0)) := heap_alloc_new _ _
  have hN := leaf_any 74 0 (boolT b) (by decide) (w.alloc (.cells #[.int .i64 0, .int .i64 0, .string ⟨#[]⟩, .int .i64 0, .int .i64 0, .slice none 0 0, .bool false] 51))
  have hsz : (w.alloc (.cells #[.int .i64 0, .int .i64 0, .string ⟨#[]⟩, .int .i64 0, .int .i64 0, .slice none 0 0, .bool false] 51)).heap.size = w.heap.size + 1 := by simp
  have HSZ : Hid _ := hsz
  have HR0 : Hid _ := r0
  rw [truth_leaf]
  have hsv : ∀ s : Sl3, (sv (leafT 74 0 (boolT b)) s).toArray = #[.int .i64 74, .int .i64 0, .string (boolT b), .int .i64 0, .int .i64 0, .slice s.1 s.2.1 s.2.2, .bool true] := by
    intro s
    rw [← kn74 (boolT b)]
    rfl
  simp only [hsv] at hN
  clear r0 hsz hsv
  cases b
  rotate_left
  · simp only [boolT, if_true] at hN ⊢
    go_enter Tryz.func91, Tryz.ntmps91
    go_wp2_with fail
    refine hN.mono ?_
    rintro e w3 ⟨⟨so, sl, sc⟩, hs0, rfl, hb3⟩
    simp only at hs0
    subst hs0
    have r3 := (hb3.block w.heap.size (by rw [HSZ.out]; omega)).trans HR0.out
    have hbb := Below.step b1 hb3
    have hf := seven_fin (leafT 74 0 ⟨#[116, 114, 117, 101]⟩) (so, 0, sc) r3 hbb (Nat.le_refl _)
    rw [kn74] at hf
    obtain ⟨f, d0, d1, d2, d3, d4, d5, d6⟩ := zero7 r3
    have f0 := f 0
    have f1 := f 1
    have f2 := f 2
    have f3 := f 3
    have f4 := f 4
    have f5 := f 5
    have f6 := f 6
    have l1 : w.heap.size < w3.heap.size := lt_of_cell d0
    have HF : Hid (Row7 (((((((w3.setCell ⟨w.heap.size, 0, none⟩ (.int .i64 74)).setCell ⟨w.heap.size, 1, none⟩ (.int .i64 0)).setCell ⟨w.heap.size, 2, none⟩ (.string ⟨#[116, 114, 117, 101]⟩)).setCell ⟨w.heap.size, 3, none⟩ (.int .i64 0)).setCell ⟨w.heap.size, 4, none⟩ (.int .i64 0)).setCell ⟨w.heap.size, 5, none⟩ (.slice so 0 sc)).setCell ⟨w.heap.size, 6, none⟩ (.bool true)) w.heap.size 0 (leafT 74 0 ⟨#[116, 114, 117, 101]⟩) (so, 0, sc) ∧ Below w.heap.size w (((((((w3.setCell ⟨w.heap.size, 0, none⟩ (.int .i64 74)).setCell ⟨w.heap.size, 1, none⟩ (.int .i64 0)).setCell ⟨w.heap.size, 2, none⟩ (.string ⟨#[116, 114, 117, 101]⟩)).setCell ⟨w.heap.size, 3, none⟩ (.int .i64 0)).setCell ⟨w.heap.size, 4, none⟩ (.int .i64 0)).setCell ⟨w.heap.size, 5, none⟩ (.slice so 0 sc)).setCell ⟨w.heap.size, 6, none⟩ (.bool true))) := hf
    clear hN hf r3 hb3 hbb b1 f
    go_wp2
    refine bodyPost_ret (results_cell7 rfl _ w.heap.size rfl _ _ _ HF.out.1) rfl ?_
    exact ⟨_, rfl, rfl, HF.out.2⟩
  · simp only [boolT, Bool.false_eq_true, if_false] at hN ⊢
    go_enter Tryz.func91, Tryz.ntmps91
    go_wp2_with fail
    refine hN.mono ?_
    rintro e w3 ⟨⟨so, sl, sc⟩, hs0, rfl, hb3⟩
    simp only at hs0
    subst hs0
    have r3 := (hb3.block w.heap.size (by rw [HSZ.out]; omega)).trans HR0.out
    have hbb := Below.step b1 hb3
    have hf := seven_fin (leafT 74 0 ⟨#[102, 97, 108, 115, 101]⟩) (so, 0, sc) r3 hbb (Nat.le_refl _)
    rw [kn74] at hf
    obtain ⟨f, d0, d1, d2, d3, d4, d5, d6⟩ := zero7 r3
    have f0 := f 0
    have f1 := f 1
    have f2 := f 2
    have f3 := f 3
    have f4 := f 4
    have f5 := f 5
    have f6 := f 6
    have l1 : w.heap.size < w3.heap.size := lt_of_cell d0
    have HF : Hid (Row7 (((((((w3.setCell ⟨w.heap.size, 0, none⟩ (.int .i64 74)).setCell ⟨w.heap.size, 1, none⟩ (.int .i64 0)).setCell ⟨w.heap.size, 2, none⟩ (.string ⟨#[102, 97, 108, 115, 101]⟩)).setCell ⟨w.heap.size, 3, none⟩ (.int .i64 0)).setCell ⟨w.heap.size, 4, none⟩ (.int .i64 0)).setCell ⟨w.heap.size, 5, none⟩ (.slice so 0 sc)).setCell ⟨w.heap.size, 6, none⟩ (.bool true)) w.heap.size 0 (leafT 74 0 ⟨#[102, 97, 108, 115, 101]⟩) (so, 0, sc) ∧ Below w.heap.size w (((((((w3.setCell ⟨w.heap.size, 0, none⟩ (.int .i64 74)).setCell ⟨w.heap.size, 1, none⟩ (.int .i64 0)).setCell ⟨w.heap.size, 2, none⟩ (.string ⟨#[102, 97, 108, 115, 101]⟩)).setCell ⟨w.heap.size, 3, none⟩ (.int .i64 0)).setCell ⟨w.heap.size, 4, none⟩ (.int .i64 0)).setCell ⟨w.heap.size, 5, none⟩ (.slice so 0 sc)).setCell ⟨w.heap.size, 6, none⟩ (.bool true))) := hf
    clear hN hf r3 hb3 hbb b1 f
    go_wp2
    refine bodyPost_ret (results_cell7 rfl _ w.heap.size rfl _ _ _ HF.out.1) rfl ?_
    exact ⟨_, rfl, rfl, HF.out.2⟩
def xv (x0 x1 x2 x3 x4 x5 : Sl3) : Value := .agg #[.slice x0.1 x0.2.1 x0.2.2, .slice x1.1 x1.2.1 x1.2.2, .slice x2.1 x2.2.1 x2.2.2, .slice x3.1 x3.2.1 x3.2.2, .slice x4.1 x4.2.1 x4.2.2, .slice x5.1 x5.2.1 x5.2.2]
def CntS (w : World) (x : Sl3) (f : Int → Nat) : Prop :=
  ∃ b, x.1 = some ⟨b, 0, none⟩ ∧ x.2.1 = 200001 ∧ ∀ n : Nat, n ≤ 200000 → w.cell? ⟨b, n, none⟩ = some (.int .i64 (f n : Int))
theorem CntS.under {w w' : World} {x : Sl3} {f : Int → Nat} (h : CntS w x f) (hb : Below w.heap.size w w') : CntS w' x f := by
  obtain ⟨b, h1, h2, h3⟩ := h
  refine ⟨b, h1, h2, fun n hn => ?_⟩
  have h4 := hb.block b (lt_of_cell (h3 n hn))
  have h5 := h3 n hn
  simp only [World.cell?, h4] at h5 ⊢
  exact h5
set_option maxRecDepth 20000 in
set_option maxHeartbeats 2000000 in
theorem single_any (bd : Int → Nat) (x0 x1 x2 x3 x4 x5 : Sl3) (num : Int) (w : World) (hx : CntS w x2 bd) (h1 : 1 ≤ num) :
    Calls Tryz.prog 42 #[xv x0 x1 x2 x3 x4 x5, .int .i64 num] w fun e w' => e = .returned (.bool (singleT bd num)) ∧ Below w.heap.size w w' := by
  have bW := (Below.refl w.heap.size w).alloc (Nat.le_refl _) (.cells #[.slice x0.1 x0.2.1 x0.2.2, .slice x1.1 x1.2.1 x1.2.2, .slice x2.1 x2.2.1 x2.2.2, .slice x3.1 x3.2.1 x3.2.2, .slice x4.1 x4.2.1 x4.2.2, .slice x5.1 x5.2.1 x5.2.2] 48)
  have HB : Hid _ := bW
  obtain ⟨b, e1, e2, hc⟩ := hx.under bW
  clear hx
  obtain ⟨xo, xl, xc⟩ := x2
  simp only at e1 e2 hc HB
  subst e1
  subst e2
  unfold xv
  simp only
  have t1 : decide (1 ≤ num) = true := by simpa using h1
  by_cases h2 : num ≤ 200000
  · have t2 : decide (num ≤ 200000) = true := by simpa using h2
    obtain ⟨k, rfl⟩ : ∃ k : Nat, num = (k : Int) := ⟨num.toNat, by omega⟩
    have c1 := hc k (by omega)
    have hk : (k : Int) < 200001 := by omega
    have hk0 : (0 : Int) ≤ (k : Int) := by omega
    have HK : Hid (singleT bd (k : Int) = ((bd (k : Int) : Int) == 1)) := by
      show _ = _
      unfold singleT
      rw [t2]
      by_cases h9 : bd (k : Int) = 1
      · rw [h9]
        rfl
      · have h8 : (bd (k : Int) == 1) = false := beq_eq_false_iff_ne.2 h9
        have h7 : ((bd (k : Int) : Int) == 1) = false := beq_eq_false_iff_ne.2 (by omega)
        rw [h8, h7]
        rfl
    clear bW hc
    go_enter Tryz.func42, Tryz.ntmps42
    go_wp2
    go_ret
    exact ⟨by rw [HK.out]; rfl, HB.out⟩
  · have t2 : decide (num ≤ 200000) = false := by simpa using h2
    have HK : Hid (singleT bd num = false) := by show _ = _; unfold singleT; rw [t2]; rfl
    clear bW hc
    go_enter Tryz.func42, Tryz.ntmps42
    go_wp2
    go_ret
    exact ⟨by rw [HK.out]; rfl, HB.out⟩
set_option maxRecDepth 20000 in
set_option maxHeartbeats 2000000 in
theorem atom_any (bd : Int → Nat) (x0 x1 x2 x3 x4 x5 : Sl3) (n : Nd) (w : World) (hx : CntS w x2 bd) (h1 : n.kind = 70 → 1 ≤ n.num) :
    Calls Tryz.prog 43 #[xv x0 x1 x2 x3 x4 x5, .agg #[.int .i64 n.kind, .int .i64 n.num, .string n.text, .int .i64 n.kids, .int .i64 n.place]] w fun e w' => e = .returned (.bool (atomT bd n)) ∧ Below w.heap.size w w' := by
  obtain ⟨kd, nm, tx, kk, pl⟩ := n
  simp only at h1 ⊢
  have bW := (Below.refl w.heap.size w).alloc (Nat.le_refl _) (.cells #[.slice x0.1 x0.2.1 x0.2.2, .slice x1.1 x1.2.1 x1.2.2, .slice x2.1 x2.2.1 x2.2.2, .slice x3.1 x3.2.1 x3.2.2, .slice x4.1 x4.2.1 x4.2.2, .slice x5.1 x5.2.1 x5.2.2] 48)
  have bW2 := bW.alloc bW.size (.cells #[.int .i64 kd, .int .i64 nm, .string tx, .int .i64 kk, .int .i64 pl] 34)
  have HB : Hid _ := bW2
  by_cases h70 : kd = 70
  · subst h70
    have hS := single_any bd x0 x1 x2 x3 x4 x5 nm _ (hx.under bW2) (h1 rfl)
    have HK : Hid (atomT bd ⟨70, nm, tx, kk, pl⟩ = singleT bd nm) := by show _ = _; unfold atomT; simp
    unfold xv at hS ⊢
    clear bW bW2 hx h1
    go_enter Tryz.func43, Tryz.ntmps43
    go_wp2_with fail
    refine hS.mono ?_
    rintro e w3 ⟨rfl, hb3⟩
    have hbb := Below.step HB.out hb3
    clear hS hb3
    go_wp2
    go_ret
    exact ⟨by rw [HK.out]; rfl, hbb⟩
  · have t70 : (kd == 70) = false := by simpa using h70
    unfold xv
    have HK : Hid (atomT bd ⟨kd, nm, tx, kk, pl⟩ = (kd == 72 || kd == 73 || kd == 74 || kd == 71)) := by show _ = _; unfold atomT; simp [h70]
    clear bW bW2 hx h1
    by_cases h72 : kd = 72
    · subst h72
      go_enter Tryz.func43, Tryz.ntmps43
      go_wp2
      go_ret
      exact ⟨by rw [HK.out]; rfl, HB.out⟩
    have t72 : (kd == 72) = false := by simpa using h72
    by_cases h73 : kd = 73
    · subst h73
      go_enter Tryz.func43, Tryz.ntmps43
      go_wp2
      go_ret
      exact ⟨by rw [HK.out]; rfl, HB.out⟩
    have t73 : (kd == 73) = false := by simpa using h73
    by_cases h74 : kd = 74
    · subst h74
      go_enter Tryz.func43, Tryz.ntmps43
      go_wp2
      go_ret
      exact ⟨by rw [HK.out]; rfl, HB.out⟩
    have t74 : (kd == 74) = false := by simpa using h74
    rw [t72, t73, t74] at HK
    go_enter Tryz.func43, Tryz.ntmps43
    go_wp2
    go_ret
    exact ⟨by rw [HK.out]; rfl, HB.out⟩
end Go.Proofs.YtemancdlnakkmaaGreat
