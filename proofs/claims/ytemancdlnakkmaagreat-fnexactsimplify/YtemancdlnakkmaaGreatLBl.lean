import Derived.Test.YtemancdlnakkmaaGreatWAL
import Derived.Deep.Cut
namespace Go.Proofs.YtemancdlnakkmaaGreat
open Go.RowKit
theorem four_at (w : World) (x0 x1 x2 x3 x4 x5 x6 : Value) (Y V : Obj) :
    ((((w.alloc (.cells #[x0, x1, x2, x3, x4, x5, x6] 51)).alloc Y).alloc (.cells #[.int .i64 0, .int .i64 0, .string ⟨#[]⟩, .int .i64 0, .int .i64 0, .slice none 0 0, .bool false] 51)).alloc V).heap[w.heap.size]? = some (.cells #[x0, x1, x2, x3, x4, x5, x6] 51 (0, 0)) ∧ ((((w.alloc (.cells #[x0, x1, x2, x3, x4, x5, x6] 51)).alloc Y).alloc (.cells #[.int .i64 0, .int .i64 0, .string ⟨#[]⟩, .int .i64 0, .int .i64 0, .slice none 0 0, .bool false] 51)).alloc V).heap[w.heap.size + 1 + 1]? = some (.cells #[.int .i64 0, .int .i64 0, .string ⟨#[]⟩, .int .i64 0, .int .i64 0, .slice none 0 0, .bool false] 51 (0, 0)) ∧ ((((w.alloc (.cells #[x0, x1, x2, x3, x4, x5, x6] 51)).alloc Y).alloc (.cells #[.int .i64 0, .int .i64 0, .string ⟨#[]⟩, .int .i64 0, .int .i64 0, .slice none 0 0, .bool false] 51)).alloc V).heap.size = w.heap.size + 1 + 1 + 1 + 1 ∧ Below w.heap.size w ((((w.alloc (.cells #[x0, x1, x2, x3, x4, x5, x6] 51)).alloc Y).alloc (.cells #[.int .i64 0, .int .i64 0, .string ⟨#[]⟩, .int .i64 0, .int .i64 0, .slice none 0 0, .bool false] 51)).alloc V) := by
  obtain ⟨h1, h2, h3⟩ := three_at w (.cells #[x0, x1, x2, x3, x4, x5, x6] 51) Y
  refine ⟨?_, (Below.heap_alloc _ _ _ (by rw [h2]; omega)).trans h1, by simp, h3.alloc h3.size V⟩
  exact (Below.heap_alloc _ _ _ (by rw [h2]; omega)).trans ((Below.heap_alloc _ _ _ (by simp; omega)).trans ((Below.heap_alloc _ _ _ (by simp)).trans (heap_alloc_new _ _)))
set_option maxRecDepth 20000 in
set_option maxHeartbeats 4000000 in
theorem bin_is (op : ByteArray) (a b : Tre) (s s' : Sl3) (w : World) (h1 : a.nd.kind = 72 ∧ b.nd.kind = 72) (h2 : (nineB.any fun o => o.toList == op.toList) = true) (ha : -9223372036854775808 ≤ a.nd.num ∧ a.nd.num ≤ 9223372036854775807) :
    Calls Tryz.prog 60 #[.string op, .agg (sv a s).toArray, .agg (sv b s').toArray] w fun e w' => BinRes w (binT op.toList a b) e w' := by
  have hBT : binT op.toList a b = arithT op.toList a.nd.num b.nd.num := by
    unfold binT
    rw [if_neg (by omega), if_pos h1]
  rw [hBT]
  obtain ⟨⟨kd, nm, tx, kk, pl⟩, aks⟩ := a
  obtain ⟨⟨md, mn, mx, mk, mp⟩, bks⟩ := b
  obtain ⟨so, sl, sc⟩ := s
  obtain ⟨uo, ul, uc⟩ := s'
  unfold sv
  simp only [Tre.nd] at h1 ha ⊢
  obtain ⟨rfl, rfl⟩ := h1
  generalize hkb : knT (.mk ⟨72, nm, tx, kk, pl⟩ aks) = kb
  generalize knT (.mk ⟨72, mn, mx, mk, mp⟩ bks) = vb
  have HKB : Hid _ := hkb
  have hS := nine_strs (((w.alloc (.cells #[.int .i64 72, .int .i64 nm, .string tx, .int .i64 kk, .int .i64 pl, .slice so sl sc, .bool kb] 51)).alloc (.cells #[.int .i64 72, .int .i64 mn, .string mx, .int .i64 mk, .int .i64 mp, .slice uo ul uc, .bool vb] 51)).alloc (.cells #[.int .i64 0, .int .i64 0, .string ⟨#[]⟩, .int .i64 0, .int .i64 0, .slice none 0 0, .bool false] 51))
  rw [World.size_alloc, World.size_alloc, World.size_alloc] at hS
  have hI := in_any nineB 9 rfl (by omega) (some ⟨w.heap.size + 1 + 1 + 1, 0, none⟩) 9 op _ hS
  rw [h2] at hI
  have HIN : Hid _ := hI
  have hN := nine_hop h2 nm mn ha ((((w.alloc (.cells #[.int .i64 72, .int .i64 nm, .string tx, .int .i64 kk, .int .i64 pl, .slice so sl sc, .bool kb] 51)).alloc (.cells #[.int .i64 72, .int .i64 mn, .string mx, .int .i64 mk, .int .i64 mp, .slice uo ul uc, .bool vb] 51)).alloc (.cells #[.int .i64 0, .int .i64 0, .string ⟨#[]⟩, .int .i64 0, .int .i64 0, .slice none 0 0, .bool false] 51)).alloc (.cells #[.string ⟨#[43]⟩, .string ⟨#[45]⟩, .string ⟨#[42]⟩, .string ⟨#[60]⟩, .string ⟨#[60, 61]⟩, .string ⟨#[62]⟩, .string ⟨#[62, 61]⟩, .string ⟨#[47]⟩, .string ⟨#[37]⟩] 9))
  unfold MachRes mach at hN
  simp only at hN
  have HN : Hid _ := hN
  obtain ⟨rA, rZ, hsz, b4⟩ := four_at w (.int .i64 72) (.int .i64 nm) (.string tx) (.int .i64 kk) (.int .i64 pl) (.slice so sl sc) (.bool kb) (.cells #[.int .i64 72, .int .i64 mn, .string mx, .int .i64 mk, .int .i64 mp, .slice uo ul uc, .bool vb] 51) (.cells #[.string ⟨#[43]⟩, .string ⟨#[45]⟩, .string ⟨#[42]⟩, .string ⟨#[60]⟩, .string ⟨#[60, 61]⟩, .string ⟨#[62]⟩, .string ⟨#[62, 61]⟩, .string ⟨#[47]⟩, .string ⟨#[37]⟩] 9)
  have HRA : Hid _ := rA
  have HRZ : Hid _ := rZ
  have HSZ : Hid _ := hsz
  have HB4 : Hid _ := b4
  clear hI hS h2 hBT hN hkb rA rZ hsz b4 ha
  obtain ⟨ob, hob⟩ : ∃ ob, (op.toList == [94]) = ob := ⟨_, rfl⟩
  cases ob
  · go_enter Tryz.func60, Tryz.ntmps60
    go_wp2_with fail
    refine Calls.mono HIN.out ?_
    rintro e w2 ⟨rfl, rfl⟩
    go_wp2_with fail
    refine Calls.mono HN.out ?_
    rintro e w3 ⟨k, rn, rt, st, ⟨g, c, rfl, hc, c0, c1, ⟨c2, c3, c4, c5⟩, hg, hb3⟩, hok⟩
    have qA := (hb3.block w.heap.size (by rw [HSZ.out]; omega)).trans HRA.out
    have qZ := (hb3.block (w.heap.size + 1 + 1) (by rw [HSZ.out]; omega)).trans HRZ.out
    have hbb := Below.step HB4.out hb3
    rw [HSZ.out] at hg
    have l1 : w.heap.size + 1 + 1 < w3.heap.size := (Array.getElem?_eq_some_iff.1 qZ).1
    have l0 : w.heap.size < w3.heap.size := by omega
    have lg : g < w3.heap.size := lt_of_cell c0
    clear hb3 HN HIN HRA HRZ HB4 HSZ hob
    rcases hok with ⟨rfl, hn⟩ | ⟨rfl, rfl, hn⟩ | ⟨rfl, rfl, t, rfl, hn⟩
    · go_upto_region 7 with fail
      have r5 := (Below.heap_alloc w3 (.cells #[.slice none 0 0, .slice none 0 0, .slice (some ⟨g, 0, none⟩) 1 c, .slice none 0 0, .int .i64 0, .int .i64 1, .int .i64 0, .string ⟨#[]⟩] 119) _ l1).trans qZ
      have s5 := (Below.heap_alloc w3 (.cells #[.slice none 0 0, .slice none 0 0, .slice (some ⟨g, 0, none⟩) 1 c, .slice none 0 0, .int .i64 0, .int .i64 1, .int .i64 0, .string ⟨#[]⟩] 119) _ l0).trans qA
      have M5 := heap_alloc_new w3 (.cells #[.slice none 0 0, .slice none 0 0, .slice (some ⟨g, 0, none⟩) 1 c, .slice none 0 0, .int .i64 0, .int .i64 1, .int .i64 0, .string ⟨#[]⟩] 119)
      have b5 := hbb.alloc hbb.size (.cells #[.slice none 0 0, .slice none 0 0, .slice (some ⟨g, 0, none⟩) 1 c, .slice none 0 0, .int .i64 0, .int .i64 1, .int .i64 0, .string ⟨#[]⟩] 119)
      have v5 : ∀ j x, w3.cell? ⟨g, j, none⟩ = some x → (w3.alloc (.cells #[.slice none 0 0, .slice none 0 0, .slice (some ⟨g, 0, none⟩) 1 c, .slice none 0 0, .int .i64 0, .int .i64 1, .int .i64 0, .string ⟨#[]⟩] 119)).cell? ⟨g, j, none⟩ = some x := fun j x h => by rw [← h]; simp only [World.cell?]; rw [Below.heap_alloc w3 (.cells #[.slice none 0 0, .slice none 0 0, .slice (some ⟨g, 0, none⟩) 1 c, .slice none 0 0, .int .i64 0, .int .i64 1, .int .i64 0, .string ⟨#[]⟩] 119) g lg]
      have z5 : (w3.alloc (.cells #[.slice none 0 0, .slice none 0 0, .slice (some ⟨g, 0, none⟩) 1 c, .slice none 0 0, .int .i64 0, .int .i64 1, .int .i64 0, .string ⟨#[]⟩] 119)).heap.size = w3.heap.size + 1 := by rw [World.size_alloc]
      have c0 := v5 _ _ c0
      have c1 := v5 _ _ c1
      have c2 := v5 _ _ c2
      have c3 := v5 _ _ c3
      have c4 := v5 _ _ c4
      have c5 := v5 _ _ c5
      generalize w3.alloc (.cells #[.slice none 0 0, .slice none 0 0, .slice (some ⟨g, 0, none⟩) 1 c, .slice none 0 0, .int .i64 0, .int .i64 1, .int .i64 0, .string ⟨#[]⟩] 119) = W5 at r5 s5 M5 b5 v5 z5 c0 c1 c2 c3 c4 c5 ⊢
      obtain ⟨z3, hz3⟩ : ∃ z, w3.heap.size = z := ⟨_, rfl⟩
      rw [hz3] at M5 z5 l0 l1 lg ⊢
      clear qA qZ hbb hz3
      obtain ⟨f, d0, d1, d2, d3, d4, d5, d6⟩ := zero7 r5
      have f0 := f 0
      have f1 := f 1
      have f2 := f 2
      have f3 := f 3
      have f4 := f 4
      have f5 := f 5
      have f6 := f 6
      have L1 : w.heap.size + 1 + 1 < W5.heap.size := lt_of_cell d0
      have LG : g < W5.heap.size := lt_of_cell c0
      have LM : z3 < W5.heap.size := by omega
      have m0 : W5.cell? ⟨z3, 0, none⟩ = some (.slice none 0 0) := by rw [cell_of_row _ _ _ _ _ _ M5]; rfl
      have m1 : W5.cell? ⟨z3, 1, none⟩ = some (.slice none 0 0) := by rw [cell_of_row _ _ _ _ _ _ M5]; rfl
      have m2 : W5.cell? ⟨z3, 2, none⟩ = some (.slice (some ⟨g, 0, none⟩) 1 c) := by rw [cell_of_row _ _ _ _ _ _ M5]; rfl
      have m3 : W5.cell? ⟨z3, 3, none⟩ = some (.slice none 0 0) := by rw [cell_of_row _ _ _ _ _ _ M5]; rfl
      have m4 : W5.cell? ⟨z3, 4, none⟩ = some (.int .i64 0) := by rw [cell_of_row _ _ _ _ _ _ M5]; rfl
      have m5 : W5.cell? ⟨z3, 5, none⟩ = some (.int .i64 1) := by rw [cell_of_row _ _ _ _ _ _ M5]; rfl
      have m6 : W5.cell? ⟨z3, 6, none⟩ = some (.int .i64 0) := by rw [cell_of_row _ _ _ _ _ _ M5]; rfl
      have m7 : W5.cell? ⟨z3, 7, none⟩ = some (.string ⟨#[]⟩) := by rw [cell_of_row _ _ _ _ _ _ M5]; rfl
      have hf := seven_fin (.mk ⟨72, nm, tx, kk, pl⟩ aks) (so, sl, sc) r5 b5 (by omega)
      simp only [Tre.nd] at hf
      rw [HKB.out] at hf
      have a0 : W5.cell? ⟨w.heap.size, 0, none⟩ = some (.int .i64 72) := by rw [cell_of_row _ _ _ _ _ _ s5]; rfl
      have a1 : W5.cell? ⟨w.heap.size, 1, none⟩ = some (.int .i64 nm) := by rw [cell_of_row _ _ _ _ _ _ s5]; rfl
      have a2 : W5.cell? ⟨w.heap.size, 2, none⟩ = some (.string tx) := by rw [cell_of_row _ _ _ _ _ _ s5]; rfl
      have a3 : W5.cell? ⟨w.heap.size, 3, none⟩ = some (.int .i64 kk) := by rw [cell_of_row _ _ _ _ _ _ s5]; rfl
      have a4 : W5.cell? ⟨w.heap.size, 4, none⟩ = some (.int .i64 pl) := by rw [cell_of_row _ _ _ _ _ _ s5]; rfl
      have a5 : W5.cell? ⟨w.heap.size, 5, none⟩ = some (.slice so sl sc) := by rw [cell_of_row _ _ _ _ _ _ s5]; rfl
      have a6 : W5.cell? ⟨w.heap.size, 6, none⟩ = some (.bool kb) := by rw [cell_of_row _ _ _ _ _ _ s5]; rfl
      have L0 : w.heap.size < W5.heap.size := lt_of_cell a0
      have HF : Hid (Row7 (((((((W5.setCell ⟨w.heap.size + 1 + 1, 0, none⟩ (.int .i64 72)).setCell ⟨w.heap.size + 1 + 1, 1, none⟩ (.int .i64 nm)).setCell ⟨w.heap.size + 1 + 1, 2, none⟩ (.string tx)).setCell ⟨w.heap.size + 1 + 1, 3, none⟩ (.int .i64 kk)).setCell ⟨w.heap.size + 1 + 1, 4, none⟩ (.int .i64 pl)).setCell ⟨w.heap.size + 1 + 1, 5, none⟩ (.slice so sl sc)).setCell ⟨w.heap.size + 1 + 1, 6, none⟩ (.bool kb)) (w.heap.size + 1 + 1) 0 (.mk ⟨72, nm, tx, kk, pl⟩ aks) (so, sl, sc) ∧ Below w.heap.size w (((((((W5.setCell ⟨w.heap.size + 1 + 1, 0, none⟩ (.int .i64 72)).setCell ⟨w.heap.size + 1 + 1, 1, none⟩ (.int .i64 nm)).setCell ⟨w.heap.size + 1 + 1, 2, none⟩ (.string tx)).setCell ⟨w.heap.size + 1 + 1, 3, none⟩ (.int .i64 kk)).setCell ⟨w.heap.size + 1 + 1, 4, none⟩ (.int .i64 pl)).setCell ⟨w.heap.size + 1 + 1, 5, none⟩ (.slice so sl sc)).setCell ⟨w.heap.size + 1 + 1, 6, none⟩ (.bool kb))) := hf
      have HNN : Hid _ := hn
      clear hf r5 s5 M5 b5 v5 hn f c0 c1 c2 c3 c4 c5 z5
      go_wp2
      refine bodyPost_ret (results_cell7b rfl _ (w.heap.size + 1 + 1) rfl _ _ _ HF.out.1 _ rfl) rfl ?_
      rw [HNN.out]
      exact ⟨HF.out.2, _, _, rfl, fun R h => by cases h⟩
    · go_upto_region 7 with fail
      have r5 := (Below.heap_alloc w3 (.cells #[.slice none 0 0, .slice none 0 0, .slice (some ⟨g, 0, none⟩) 1 c, .slice none 0 0, .int .i64 0, .int .i64 0, .int .i64 0, .string ⟨#[]⟩] 119) _ l1).trans qZ
      have s5 := (Below.heap_alloc w3 (.cells #[.slice none 0 0, .slice none 0 0, .slice (some ⟨g, 0, none⟩) 1 c, .slice none 0 0, .int .i64 0, .int .i64 0, .int .i64 0, .string ⟨#[]⟩] 119) _ l0).trans qA
      have M5 := heap_alloc_new w3 (.cells #[.slice none 0 0, .slice none 0 0, .slice (some ⟨g, 0, none⟩) 1 c, .slice none 0 0, .int .i64 0, .int .i64 0, .int .i64 0, .string ⟨#[]⟩] 119)
      have b5 := hbb.alloc hbb.size (.cells #[.slice none 0 0, .slice none 0 0, .slice (some ⟨g, 0, none⟩) 1 c, .slice none 0 0, .int .i64 0, .int .i64 0, .int .i64 0, .string ⟨#[]⟩] 119)
      have v5 : ∀ j x, w3.cell? ⟨g, j, none⟩ = some x → (w3.alloc (.cells #[.slice none 0 0, .slice none 0 0, .slice (some ⟨g, 0, none⟩) 1 c, .slice none 0 0, .int .i64 0, .int .i64 0, .int .i64 0, .string ⟨#[]⟩] 119)).cell? ⟨g, j, none⟩ = some x := fun j x h => by rw [← h]; simp only [World.cell?]; rw [Below.heap_alloc w3 (.cells #[.slice none 0 0, .slice none 0 0, .slice (some ⟨g, 0, none⟩) 1 c, .slice none 0 0, .int .i64 0, .int .i64 0, .int .i64 0, .string ⟨#[]⟩] 119) g lg]
      have z5 : (w3.alloc (.cells #[.slice none 0 0, .slice none 0 0, .slice (some ⟨g, 0, none⟩) 1 c, .slice none 0 0, .int .i64 0, .int .i64 0, .int .i64 0, .string ⟨#[]⟩] 119)).heap.size = w3.heap.size + 1 := by rw [World.size_alloc]
      have c0 := v5 _ _ c0
      have c1 := v5 _ _ c1
      have c2 := v5 _ _ c2
      have c3 := v5 _ _ c3
      have c4 := v5 _ _ c4
      have c5 := v5 _ _ c5
      generalize w3.alloc (.cells #[.slice none 0 0, .slice none 0 0, .slice (some ⟨g, 0, none⟩) 1 c, .slice none 0 0, .int .i64 0, .int .i64 0, .int .i64 0, .string ⟨#[]⟩] 119) = W5 at r5 s5 M5 b5 v5 z5 c0 c1 c2 c3 c4 c5 ⊢
      obtain ⟨z3, hz3⟩ : ∃ z, w3.heap.size = z := ⟨_, rfl⟩
      rw [hz3] at M5 z5 l0 l1 lg ⊢
      clear qA qZ hbb hz3
      obtain ⟨f, d0, d1, d2, d3, d4, d5, d6⟩ := zero7 r5
      have f0 := f 0
      have f1 := f 1
      have f2 := f 2
      have f3 := f 3
      have f4 := f 4
      have f5 := f 5
      have f6 := f 6
      have L1 : w.heap.size + 1 + 1 < W5.heap.size := lt_of_cell d0
      have LG : g < W5.heap.size := lt_of_cell c0
      have LM : z3 < W5.heap.size := by omega
      have m0 : W5.cell? ⟨z3, 0, none⟩ = some (.slice none 0 0) := by rw [cell_of_row _ _ _ _ _ _ M5]; rfl
      have m1 : W5.cell? ⟨z3, 1, none⟩ = some (.slice none 0 0) := by rw [cell_of_row _ _ _ _ _ _ M5]; rfl
      have m2 : W5.cell? ⟨z3, 2, none⟩ = some (.slice (some ⟨g, 0, none⟩) 1 c) := by rw [cell_of_row _ _ _ _ _ _ M5]; rfl
      have m3 : W5.cell? ⟨z3, 3, none⟩ = some (.slice none 0 0) := by rw [cell_of_row _ _ _ _ _ _ M5]; rfl
      have m4 : W5.cell? ⟨z3, 4, none⟩ = some (.int .i64 0) := by rw [cell_of_row _ _ _ _ _ _ M5]; rfl
      have m5 : W5.cell? ⟨z3, 5, none⟩ = some (.int .i64 0) := by rw [cell_of_row _ _ _ _ _ _ M5]; rfl
      have m6 : W5.cell? ⟨z3, 6, none⟩ = some (.int .i64 0) := by rw [cell_of_row _ _ _ _ _ _ M5]; rfl
      have m7 : W5.cell? ⟨z3, 7, none⟩ = some (.string ⟨#[]⟩) := by rw [cell_of_row _ _ _ _ _ _ M5]; rfl
      have q6 : (W5.alloc (.cells #[.int .i64 1, .int .i64 rn, .string rt, .slice none 0 0, .int .i64 0, .int .i64 0] 123)).heap[w.heap.size + 1 + 1]? = some (.cells #[.int .i64 0, .int .i64 0, .string ⟨#[]⟩, .int .i64 0, .int .i64 0, .slice none 0 0, .bool false] 51 (0, 0)) := (Below.heap_alloc _ _ _ L1).trans r5
      have b6 := b5.alloc b5.size (.cells #[.int .i64 1, .int .i64 rn, .string rt, .slice none 0 0, .int .i64 0, .int .i64 0] 123)
      have s6 : (W5.alloc (.cells #[.int .i64 1, .int .i64 rn, .string rt, .slice none 0 0, .int .i64 0, .int .i64 0] 123)).heap.size = W5.heap.size + 1 := by simp
      have HNN : Hid _ := hn
      have HQ6 : Hid _ := q6
      have HB6 : Hid _ := b6
      have HS6 : Hid _ := s6
      clear r5 s5 M5 b5 v5 hn f f0 f1 f2 f3 f4 f5 f6 d0 d1 d2 d3 d4 d5 d6 q6 b6 s6
      have hL := leaf_any 72 rn ⟨#[]⟩ (by decide) (W5.alloc (.cells #[.int .i64 1, .int .i64 rn, .string rt, .slice none 0 0, .int .i64 0, .int .i64 0] 123))
      obtain ⟨kb9, hkb9⟩ : ∃ kb, knT (leafT 72 rn ⟨#[]⟩) = kb := ⟨_, rfl⟩
      have HKB9 : Hid _ := hkb9
      have hsv : ∀ s : Sl3, (sv (leafT 72 rn ⟨#[]⟩) s).toArray = #[.int .i64 72, .int .i64 rn, .string ⟨#[]⟩, .int .i64 0, .int .i64 0, .slice s.1 s.2.1 s.2.2, .bool kb9] := by
        intro s
        rw [← hkb9]
        rfl
      simp only [hsv] at hL
      clear hsv hkb9
      go_wp2_with fail
      refine hL.mono ?_
      rintro e w8 ⟨⟨so9, sl9, sc9⟩, hs0, rfl, hb8⟩
      simp only at hs0
      subst hs0
      have q6 := HQ6.out
      have b6 := HB6.out
      rw [HS6.out] at hb8
      have r8 := (hb8.block (w.heap.size + 1 + 1) (by have := HS6.out; omega)).trans q6
      have b8 := Below.step b6 (by rw [HS6.out]; exact hb8)
      have hf := seven_fin (leafT 72 rn ⟨#[]⟩) (so9, 0, sc9) r8 b8 (by omega)
      rw [HKB9.out] at hf
      obtain ⟨f, d0, d1, d2, d3, d4, d5, d6⟩ := zero7 r8
      have f0 := f 0
      have f1 := f 1
      have f2 := f 2
      have f3 := f 3
      have f4 := f 4
      have f5 := f 5
      have f6 := f 6
      have L8 : w.heap.size + 1 + 1 < w8.heap.size := lt_of_cell d0
      have HF : Hid (Row7 (((((((w8.setCell ⟨w.heap.size + 1 + 1, 0, none⟩ (.int .i64 72)).setCell ⟨w.heap.size + 1 + 1, 1, none⟩ (.int .i64 rn)).setCell ⟨w.heap.size + 1 + 1, 2, none⟩ (.string ⟨#[]⟩)).setCell ⟨w.heap.size + 1 + 1, 3, none⟩ (.int .i64 0)).setCell ⟨w.heap.size + 1 + 1, 4, none⟩ (.int .i64 0)).setCell ⟨w.heap.size + 1 + 1, 5, none⟩ (.slice so9 0 sc9)).setCell ⟨w.heap.size + 1 + 1, 6, none⟩ (.bool kb9)) (w.heap.size + 1 + 1) 0 (leafT 72 rn ⟨#[]⟩) (so9, 0, sc9) ∧ Below w.heap.size w (((((((w8.setCell ⟨w.heap.size + 1 + 1, 0, none⟩ (.int .i64 72)).setCell ⟨w.heap.size + 1 + 1, 1, none⟩ (.int .i64 rn)).setCell ⟨w.heap.size + 1 + 1, 2, none⟩ (.string ⟨#[]⟩)).setCell ⟨w.heap.size + 1 + 1, 3, none⟩ (.int .i64 0)).setCell ⟨w.heap.size + 1 + 1, 4, none⟩ (.int .i64 0)).setCell ⟨w.heap.size + 1 + 1, 5, none⟩ (.slice so9 0 sc9)).setCell ⟨w.heap.size + 1 + 1, 6, none⟩ (.bool kb9))) := hf
      clear hf r8 b8 hb8 f hL q6 b6
      go_wp2
      refine bodyPost_ret (results_cell7b rfl _ (w.heap.size + 1 + 1) rfl _ _ _ HF.out.1 _ rfl) rfl ?_
      rw [HNN.out]
      exact ⟨HF.out.2, _, _, rfl, fun R h => by cases h; exact ⟨rfl, rfl, rfl⟩⟩
    · go_upto_region 7 with fail
      have r5 := (Below.heap_alloc w3 (.cells #[.slice none 0 0, .slice none 0 0, .slice (some ⟨g, 0, none⟩) 1 c, .slice none 0 0, .int .i64 0, .int .i64 0, .int .i64 0, .string ⟨#[]⟩] 119) _ l1).trans qZ
      have s5 := (Below.heap_alloc w3 (.cells #[.slice none 0 0, .slice none 0 0, .slice (some ⟨g, 0, none⟩) 1 c, .slice none 0 0, .int .i64 0, .int .i64 0, .int .i64 0, .string ⟨#[]⟩] 119) _ l0).trans qA
      have M5 := heap_alloc_new w3 (.cells #[.slice none 0 0, .slice none 0 0, .slice (some ⟨g, 0, none⟩) 1 c, .slice none 0 0, .int .i64 0, .int .i64 0, .int .i64 0, .string ⟨#[]⟩] 119)
      have b5 := hbb.alloc hbb.size (.cells #[.slice none 0 0, .slice none 0 0, .slice (some ⟨g, 0, none⟩) 1 c, .slice none 0 0, .int .i64 0, .int .i64 0, .int .i64 0, .string ⟨#[]⟩] 119)
      have v5 : ∀ j x, w3.cell? ⟨g, j, none⟩ = some x → (w3.alloc (.cells #[.slice none 0 0, .slice none 0 0, .slice (some ⟨g, 0, none⟩) 1 c, .slice none 0 0, .int .i64 0, .int .i64 0, .int .i64 0, .string ⟨#[]⟩] 119)).cell? ⟨g, j, none⟩ = some x := fun j x h => by rw [← h]; simp only [World.cell?]; rw [Below.heap_alloc w3 (.cells #[.slice none 0 0, .slice none 0 0, .slice (some ⟨g, 0, none⟩) 1 c, .slice none 0 0, .int .i64 0, .int .i64 0, .int .i64 0, .string ⟨#[]⟩] 119) g lg]
      have z5 : (w3.alloc (.cells #[.slice none 0 0, .slice none 0 0, .slice (some ⟨g, 0, none⟩) 1 c, .slice none 0 0, .int .i64 0, .int .i64 0, .int .i64 0, .string ⟨#[]⟩] 119)).heap.size = w3.heap.size + 1 := by rw [World.size_alloc]
      have c0 := v5 _ _ c0
      have c1 := v5 _ _ c1
      have c2 := v5 _ _ c2
      have c3 := v5 _ _ c3
      have c4 := v5 _ _ c4
      have c5 := v5 _ _ c5
      generalize w3.alloc (.cells #[.slice none 0 0, .slice none 0 0, .slice (some ⟨g, 0, none⟩) 1 c, .slice none 0 0, .int .i64 0, .int .i64 0, .int .i64 0, .string ⟨#[]⟩] 119) = W5 at r5 s5 M5 b5 v5 z5 c0 c1 c2 c3 c4 c5 ⊢
      obtain ⟨z3, hz3⟩ : ∃ z, w3.heap.size = z := ⟨_, rfl⟩
      rw [hz3] at M5 z5 l0 l1 lg ⊢
      clear qA qZ hbb hz3
      obtain ⟨f, d0, d1, d2, d3, d4, d5, d6⟩ := zero7 r5
      have f0 := f 0
      have f1 := f 1
      have f2 := f 2
      have f3 := f 3
      have f4 := f 4
      have f5 := f 5
      have f6 := f 6
      have L1 : w.heap.size + 1 + 1 < W5.heap.size := lt_of_cell d0
      have LG : g < W5.heap.size := lt_of_cell c0
      have LM : z3 < W5.heap.size := by omega
      have m0 : W5.cell? ⟨z3, 0, none⟩ = some (.slice none 0 0) := by rw [cell_of_row _ _ _ _ _ _ M5]; rfl
      have m1 : W5.cell? ⟨z3, 1, none⟩ = some (.slice none 0 0) := by rw [cell_of_row _ _ _ _ _ _ M5]; rfl
      have m2 : W5.cell? ⟨z3, 2, none⟩ = some (.slice (some ⟨g, 0, none⟩) 1 c) := by rw [cell_of_row _ _ _ _ _ _ M5]; rfl
      have m3 : W5.cell? ⟨z3, 3, none⟩ = some (.slice none 0 0) := by rw [cell_of_row _ _ _ _ _ _ M5]; rfl
      have m4 : W5.cell? ⟨z3, 4, none⟩ = some (.int .i64 0) := by rw [cell_of_row _ _ _ _ _ _ M5]; rfl
      have m5 : W5.cell? ⟨z3, 5, none⟩ = some (.int .i64 0) := by rw [cell_of_row _ _ _ _ _ _ M5]; rfl
      have m6 : W5.cell? ⟨z3, 6, none⟩ = some (.int .i64 0) := by rw [cell_of_row _ _ _ _ _ _ M5]; rfl
      have m7 : W5.cell? ⟨z3, 7, none⟩ = some (.string ⟨#[]⟩) := by rw [cell_of_row _ _ _ _ _ _ M5]; rfl
      cases t
      · simp only [boolT, Bool.false_eq_true, if_false] at c2
        have q6 : (W5.alloc (.cells #[.int .i64 4, .int .i64 rn, .string ⟨#[102, 97, 108, 115, 101]⟩, .slice none 0 0, .int .i64 0, .int .i64 0] 123)).heap[w.heap.size + 1 + 1]? = some (.cells #[.int .i64 0, .int .i64 0, .string ⟨#[]⟩, .int .i64 0, .int .i64 0, .slice none 0 0, .bool false] 51 (0, 0)) := (Below.heap_alloc _ _ _ L1).trans r5
        have b6 := b5.alloc b5.size (.cells #[.int .i64 4, .int .i64 rn, .string ⟨#[102, 97, 108, 115, 101]⟩, .slice none 0 0, .int .i64 0, .int .i64 0] 123)
        have s6 : (W5.alloc (.cells #[.int .i64 4, .int .i64 rn, .string ⟨#[102, 97, 108, 115, 101]⟩, .slice none 0 0, .int .i64 0, .int .i64 0] 123)).heap.size = W5.heap.size + 1 := by simp
        have HNN : Hid _ := hn
        have HQ6 : Hid _ := q6
        have HB6 : Hid _ := b6
        have HS6 : Hid _ := s6
        clear r5 s5 M5 b5 v5 hn f f0 f1 f2 f3 f4 f5 f6 d0 d1 d2 d3 d4 d5 d6 q6 b6 s6
        have hL := truth_any false (W5.alloc (.cells #[.int .i64 4, .int .i64 rn, .string ⟨#[102, 97, 108, 115, 101]⟩, .slice none 0 0, .int .i64 0, .int .i64 0] 123))
        have hsv : ∀ s : Sl3, (sv (truthT false) s).toArray = #[.int .i64 74, .int .i64 0, .string ⟨#[102, 97, 108, 115, 101]⟩, .int .i64 0, .int .i64 0, .slice s.1 s.2.1 s.2.2, .bool true] := by
          intro s
          rw [truth_leaf]
          unfold sv
          rw [kn74]
          rfl
        simp only [hsv] at hL
        clear hsv
        go_wp2_with fail
        refine hL.mono ?_
        rintro e w8 ⟨⟨so9, sl9, sc9⟩, hs0, rfl, hb8⟩
        simp only at hs0
        subst hs0
        have q6 := HQ6.out
        have b6 := HB6.out
        rw [HS6.out] at hb8
        have r8 := (hb8.block (w.heap.size + 1 + 1) (by have := HS6.out; omega)).trans q6
        have b8 := Below.step b6 (by rw [HS6.out]; exact hb8)
        have hf := seven_fin (truthT false) (so9, 0, sc9) r8 b8 (by omega)
        rw [truth_leaf, kn74] at hf
        obtain ⟨f, d0, d1, d2, d3, d4, d5, d6⟩ := zero7 r8
        have f0 := f 0
        have f1 := f 1
        have f2 := f 2
        have f3 := f 3
        have f4 := f 4
        have f5 := f 5
        have f6 := f 6
        have L8 : w.heap.size + 1 + 1 < w8.heap.size := lt_of_cell d0
        have HF : Hid (Row7 (((((((w8.setCell ⟨w.heap.size + 1 + 1, 0, none⟩ (.int .i64 74)).setCell ⟨w.heap.size + 1 + 1, 1, none⟩ (.int .i64 0)).setCell ⟨w.heap.size + 1 + 1, 2, none⟩ (.string ⟨#[102, 97, 108, 115, 101]⟩)).setCell ⟨w.heap.size + 1 + 1, 3, none⟩ (.int .i64 0)).setCell ⟨w.heap.size + 1 + 1, 4, none⟩ (.int .i64 0)).setCell ⟨w.heap.size + 1 + 1, 5, none⟩ (.slice so9 0 sc9)).setCell ⟨w.heap.size + 1 + 1, 6, none⟩ (.bool true)) (w.heap.size + 1 + 1) 0 (truthT false) (so9, 0, sc9) ∧ Below w.heap.size w (((((((w8.setCell ⟨w.heap.size + 1 + 1, 0, none⟩ (.int .i64 74)).setCell ⟨w.heap.size + 1 + 1, 1, none⟩ (.int .i64 0)).setCell ⟨w.heap.size + 1 + 1, 2, none⟩ (.string ⟨#[102, 97, 108, 115, 101]⟩)).setCell ⟨w.heap.size + 1 + 1, 3, none⟩ (.int .i64 0)).setCell ⟨w.heap.size + 1 + 1, 4, none⟩ (.int .i64 0)).setCell ⟨w.heap.size + 1 + 1, 5, none⟩ (.slice so9 0 sc9)).setCell ⟨w.heap.size + 1 + 1, 6, none⟩ (.bool true))) := hf
        clear hf r8 b8 hb8 f hL q6 b6
        go_wp2
        refine bodyPost_ret (results_cell7b rfl _ (w.heap.size + 1 + 1) rfl _ _ _ HF.out.1 _ rfl) rfl ?_
        rw [HNN.out]
        exact ⟨HF.out.2, _, _, rfl, fun R h => by cases h; exact ⟨rfl, rfl, rfl⟩⟩
      · simp only [boolT, if_true] at c2
        have q6 : (W5.alloc (.cells #[.int .i64 4, .int .i64 rn, .string ⟨#[116, 114, 117, 101]⟩, .slice none 0 0, .int .i64 0, .int .i64 0] 123)).heap[w.heap.size + 1 + 1]? = some (.cells #[.int .i64 0, .int .i64 0, .string ⟨#[]⟩, .int .i64 0, .int .i64 0, .slice none 0 0, .bool false] 51 (0, 0)) := (Below.heap_alloc _ _ _ L1).trans r5
        have b6 := b5.alloc b5.size (.cells #[.int .i64 4, .int .i64 rn, .string ⟨#[116, 114, 117, 101]⟩, .slice none 0 0, .int .i64 0, .int .i64 0] 123)
        have s6 : (W5.alloc (.cells #[.int .i64 4, .int .i64 rn, .string ⟨#[116, 114, 117, 101]⟩, .slice none 0 0, .int .i64 0, .int .i64 0] 123)).heap.size = W5.heap.size + 1 := by simp
        have HNN : Hid _ := hn
        have HQ6 : Hid _ := q6
        have HB6 : Hid _ := b6
        have HS6 : Hid _ := s6
        clear r5 s5 M5 b5 v5 hn f f0 f1 f2 f3 f4 f5 f6 d0 d1 d2 d3 d4 d5 d6 q6 b6 s6
        have hL := truth_any true (W5.alloc (.cells #[.int .i64 4, .int .i64 rn, .string ⟨#[116, 114, 117, 101]⟩, .slice none 0 0, .int .i64 0, .int .i64 0] 123))
        have hsv : ∀ s : Sl3, (sv (truthT true) s).toArray = #[.int .i64 74, .int .i64 0, .string ⟨#[116, 114, 117, 101]⟩, .int .i64 0, .int .i64 0, .slice s.1 s.2.1 s.2.2, .bool true] := by
          intro s
          rw [truth_leaf]
          unfold sv
          rw [kn74]
          rfl
        simp only [hsv] at hL
        clear hsv
        go_wp2_with fail
        refine hL.mono ?_
        rintro e w8 ⟨⟨so9, sl9, sc9⟩, hs0, rfl, hb8⟩
        simp only at hs0
        subst hs0
        have q6 := HQ6.out
        have b6 := HB6.out
        rw [HS6.out] at hb8
        have r8 := (hb8.block (w.heap.size + 1 + 1) (by have := HS6.out; omega)).trans q6
        have b8 := Below.step b6 (by rw [HS6.out]; exact hb8)
        have hf := seven_fin (truthT true) (so9, 0, sc9) r8 b8 (by omega)
        rw [truth_leaf, kn74] at hf
        obtain ⟨f, d0, d1, d2, d3, d4, d5, d6⟩ := zero7 r8
        have f0 := f 0
        have f1 := f 1
        have f2 := f 2
        have f3 := f 3
        have f4 := f 4
        have f5 := f 5
        have f6 := f 6
        have L8 : w.heap.size + 1 + 1 < w8.heap.size := lt_of_cell d0
        have HF : Hid (Row7 (((((((w8.setCell ⟨w.heap.size + 1 + 1, 0, none⟩ (.int .i64 74)).setCell ⟨w.heap.size + 1 + 1, 1, none⟩ (.int .i64 0)).setCell ⟨w.heap.size + 1 + 1, 2, none⟩ (.string ⟨#[116, 114, 117, 101]⟩)).setCell ⟨w.heap.size + 1 + 1, 3, none⟩ (.int .i64 0)).setCell ⟨w.heap.size + 1 + 1, 4, none⟩ (.int .i64 0)).setCell ⟨w.heap.size + 1 + 1, 5, none⟩ (.slice so9 0 sc9)).setCell ⟨w.heap.size + 1 + 1, 6, none⟩ (.bool true)) (w.heap.size + 1 + 1) 0 (truthT true) (so9, 0, sc9) ∧ Below w.heap.size w (((((((w8.setCell ⟨w.heap.size + 1 + 1, 0, none⟩ (.int .i64 74)).setCell ⟨w.heap.size + 1 + 1, 1, none⟩ (.int .i64 0)).setCell ⟨w.heap.size + 1 + 1, 2, none⟩ (.string ⟨#[116, 114, 117, 101]⟩)).setCell ⟨w.heap.size + 1 + 1, 3, none⟩ (.int .i64 0)).setCell ⟨w.heap.size + 1 + 1, 4, none⟩ (.int .i64 0)).setCell ⟨w.heap.size + 1 + 1, 5, none⟩ (.slice so9 0 sc9)).setCell ⟨w.heap.size + 1 + 1, 6, none⟩ (.bool true))) := hf
        clear hf r8 b8 hb8 f hL q6 b6
        go_wp2
        refine bodyPost_ret (results_cell7b rfl _ (w.heap.size + 1 + 1) rfl _ _ _ HF.out.1 _ rfl) rfl ?_
        rw [HNN.out]
        exact ⟨HF.out.2, _, _, rfl, fun R h => by cases h; exact ⟨rfl, rfl, rfl⟩⟩
  · go_enter Tryz.func60, Tryz.ntmps60
    go_wp2_with fail
    refine Calls.mono HIN.out ?_
    rintro e w2 ⟨rfl, rfl⟩
    go_wp2_with fail
    refine Calls.mono HN.out ?_
    rintro e w3 ⟨k, rn, rt, st, ⟨g, c, rfl, hc, c0, c1, ⟨c2, c3, c4, c5⟩, hg, hb3⟩, hok⟩
    have qA := (hb3.block w.heap.size (by rw [HSZ.out]; omega)).trans HRA.out
    have qZ := (hb3.block (w.heap.size + 1 + 1) (by rw [HSZ.out]; omega)).trans HRZ.out
    have hbb := Below.step HB4.out hb3
    rw [HSZ.out] at hg
    have l1 : w.heap.size + 1 + 1 < w3.heap.size := (Array.getElem?_eq_some_iff.1 qZ).1
    have l0 : w.heap.size < w3.heap.size := by omega
    have lg : g < w3.heap.size := lt_of_cell c0
    clear hb3 HN HIN HRA HRZ HB4 HSZ hob
    rcases hok with ⟨rfl, hn⟩ | ⟨rfl, rfl, hn⟩ | ⟨rfl, rfl, t, rfl, hn⟩
    · go_upto_region 7 with fail
      have r5 := (Below.heap_alloc w3 (.cells #[.slice none 0 0, .slice none 0 0, .slice (some ⟨g, 0, none⟩) 1 c, .slice none 0 0, .int .i64 0, .int .i64 1, .int .i64 0, .string ⟨#[]⟩] 119) _ l1).trans qZ
      have s5 := (Below.heap_alloc w3 (.cells #[.slice none 0 0, .slice none 0 0, .slice (some ⟨g, 0, none⟩) 1 c, .slice none 0 0, .int .i64 0, .int .i64 1, .int .i64 0, .string ⟨#[]⟩] 119) _ l0).trans qA
      have M5 := heap_alloc_new w3 (.cells #[.slice none 0 0, .slice none 0 0, .slice (some ⟨g, 0, none⟩) 1 c, .slice none 0 0, .int .i64 0, .int .i64 1, .int .i64 0, .string ⟨#[]⟩] 119)
      have b5 := hbb.alloc hbb.size (.cells #[.slice none 0 0, .slice none 0 0, .slice (some ⟨g, 0, none⟩) 1 c, .slice none 0 0, .int .i64 0, .int .i64 1, .int .i64 0, .string ⟨#[]⟩] 119)
      have v5 : ∀ j x, w3.cell? ⟨g, j, none⟩ = some x → (w3.alloc (.cells #[.slice none 0 0, .slice none 0 0, .slice (some ⟨g, 0, none⟩) 1 c, .slice none 0 0, .int .i64 0, .int .i64 1, .int .i64 0, .string ⟨#[]⟩] 119)).cell? ⟨g, j, none⟩ = some x := fun j x h => by rw [← h]; simp only [World.cell?]; rw [Below.heap_alloc w3 (.cells #[.slice none 0 0, .slice none 0 0, .slice (some ⟨g, 0, none⟩) 1 c, .slice none 0 0, .int .i64 0, .int .i64 1, .int .i64 0, .string ⟨#[]⟩] 119) g lg]
      have z5 : (w3.alloc (.cells #[.slice none 0 0, .slice none 0 0, .slice (some ⟨g, 0, none⟩) 1 c, .slice none 0 0, .int .i64 0, .int .i64 1, .int .i64 0, .string ⟨#[]⟩] 119)).heap.size = w3.heap.size + 1 := by rw [World.size_alloc]
      have c0 := v5 _ _ c0
      have c1 := v5 _ _ c1
      have c2 := v5 _ _ c2
      have c3 := v5 _ _ c3
      have c4 := v5 _ _ c4
      have c5 := v5 _ _ c5
      generalize w3.alloc (.cells #[.slice none 0 0, .slice none 0 0, .slice (some ⟨g, 0, none⟩) 1 c, .slice none 0 0, .int .i64 0, .int .i64 1, .int .i64 0, .string ⟨#[]⟩] 119) = W5 at r5 s5 M5 b5 v5 z5 c0 c1 c2 c3 c4 c5 ⊢
      obtain ⟨z3, hz3⟩ : ∃ z, w3.heap.size = z := ⟨_, rfl⟩
      rw [hz3] at M5 z5 l0 l1 lg ⊢
      clear qA qZ hbb hz3
      obtain ⟨f, d0, d1, d2, d3, d4, d5, d6⟩ := zero7 r5
      have f0 := f 0
      have f1 := f 1
      have f2 := f 2
      have f3 := f 3
      have f4 := f 4
      have f5 := f 5
      have f6 := f 6
      have L1 : w.heap.size + 1 + 1 < W5.heap.size := lt_of_cell d0
      have LG : g < W5.heap.size := lt_of_cell c0
      have LM : z3 < W5.heap.size := by omega
      have m0 : W5.cell? ⟨z3, 0, none⟩ = some (.slice none 0 0) := by rw [cell_of_row _ _ _ _ _ _ M5]; rfl
      have m1 : W5.cell? ⟨z3, 1, none⟩ = some (.slice none 0 0) := by rw [cell_of_row _ _ _ _ _ _ M5]; rfl
      have m2 : W5.cell? ⟨z3, 2, none⟩ = some (.slice (some ⟨g, 0, none⟩) 1 c) := by rw [cell_of_row _ _ _ _ _ _ M5]; rfl
      have m3 : W5.cell? ⟨z3, 3, none⟩ = some (.slice none 0 0) := by rw [cell_of_row _ _ _ _ _ _ M5]; rfl
      have m4 : W5.cell? ⟨z3, 4, none⟩ = some (.int .i64 0) := by rw [cell_of_row _ _ _ _ _ _ M5]; rfl
      have m5 : W5.cell? ⟨z3, 5, none⟩ = some (.int .i64 1) := by rw [cell_of_row _ _ _ _ _ _ M5]; rfl
      have m6 : W5.cell? ⟨z3, 6, none⟩ = some (.int .i64 0) := by rw [cell_of_row _ _ _ _ _ _ M5]; rfl
      have m7 : W5.cell? ⟨z3, 7, none⟩ = some (.string ⟨#[]⟩) := by rw [cell_of_row _ _ _ _ _ _ M5]; rfl
      have hf := seven_fin (.mk ⟨72, nm, tx, kk, pl⟩ aks) (so, sl, sc) r5 b5 (by omega)
      simp only [Tre.nd] at hf
      rw [HKB.out] at hf
      have a0 : W5.cell? ⟨w.heap.size, 0, none⟩ = some (.int .i64 72) := by rw [cell_of_row _ _ _ _ _ _ s5]; rfl
      have a1 : W5.cell? ⟨w.heap.size, 1, none⟩ = some (.int .i64 nm) := by rw [cell_of_row _ _ _ _ _ _ s5]; rfl
      have a2 : W5.cell? ⟨w.heap.size, 2, none⟩ = some (.string tx) := by rw [cell_of_row _ _ _ _ _ _ s5]; rfl
      have a3 : W5.cell? ⟨w.heap.size, 3, none⟩ = some (.int .i64 kk) := by rw [cell_of_row _ _ _ _ _ _ s5]; rfl
      have a4 : W5.cell? ⟨w.heap.size, 4, none⟩ = some (.int .i64 pl) := by rw [cell_of_row _ _ _ _ _ _ s5]; rfl
      have a5 : W5.cell? ⟨w.heap.size, 5, none⟩ = some (.slice so sl sc) := by rw [cell_of_row _ _ _ _ _ _ s5]; rfl
      have a6 : W5.cell? ⟨w.heap.size, 6, none⟩ = some (.bool kb) := by rw [cell_of_row _ _ _ _ _ _ s5]; rfl
      have L0 : w.heap.size < W5.heap.size := lt_of_cell a0
      have HF : Hid (Row7 (((((((W5.setCell ⟨w.heap.size + 1 + 1, 0, none⟩ (.int .i64 72)).setCell ⟨w.heap.size + 1 + 1, 1, none⟩ (.int .i64 nm)).setCell ⟨w.heap.size + 1 + 1, 2, none⟩ (.string tx)).setCell ⟨w.heap.size + 1 + 1, 3, none⟩ (.int .i64 kk)).setCell ⟨w.heap.size + 1 + 1, 4, none⟩ (.int .i64 pl)).setCell ⟨w.heap.size + 1 + 1, 5, none⟩ (.slice so sl sc)).setCell ⟨w.heap.size + 1 + 1, 6, none⟩ (.bool kb)) (w.heap.size + 1 + 1) 0 (.mk ⟨72, nm, tx, kk, pl⟩ aks) (so, sl, sc) ∧ Below w.heap.size w (((((((W5.setCell ⟨w.heap.size + 1 + 1, 0, none⟩ (.int .i64 72)).setCell ⟨w.heap.size + 1 + 1, 1, none⟩ (.int .i64 nm)).setCell ⟨w.heap.size + 1 + 1, 2, none⟩ (.string tx)).setCell ⟨w.heap.size + 1 + 1, 3, none⟩ (.int .i64 kk)).setCell ⟨w.heap.size + 1 + 1, 4, none⟩ (.int .i64 pl)).setCell ⟨w.heap.size + 1 + 1, 5, none⟩ (.slice so sl sc)).setCell ⟨w.heap.size + 1 + 1, 6, none⟩ (.bool kb))) := hf
      have HNN : Hid _ := hn
      clear hf r5 s5 M5 b5 v5 hn f c0 c1 c2 c3 c4 c5 z5
      go_wp2
      refine bodyPost_ret (results_cell7b rfl _ (w.heap.size + 1 + 1) rfl _ _ _ HF.out.1 _ rfl) rfl ?_
      rw [HNN.out]
      exact ⟨HF.out.2, _, _, rfl, fun R h => by cases h⟩
    · go_upto_region 7 with fail
      have r5 := (Below.heap_alloc w3 (.cells #[.slice none 0 0, .slice none 0 0, .slice (some ⟨g, 0, none⟩) 1 c, .slice none 0 0, .int .i64 0, .int .i64 0, .int .i64 0, .string ⟨#[]⟩] 119) _ l1).trans qZ
      have s5 := (Below.heap_alloc w3 (.cells #[.slice none 0 0, .slice none 0 0, .slice (some ⟨g, 0, none⟩) 1 c, .slice none 0 0, .int .i64 0, .int .i64 0, .int .i64 0, .string ⟨#[]⟩] 119) _ l0).trans qA
      have M5 := heap_alloc_new w3 (.cells #[.slice none 0 0, .slice none 0 0, .slice (some ⟨g, 0, none⟩) 1 c, .slice none 0 0, .int .i64 0, .int .i64 0, .int .i64 0, .string ⟨#[]⟩] 119)
      have b5 := hbb.alloc hbb.size (.cells #[.slice none 0 0, .slice none 0 0, .slice (some ⟨g, 0, none⟩) 1 c, .slice none 0 0, .int .i64 0, .int .i64 0, .int .i64 0, .string ⟨#[]⟩] 119)
      have v5 : ∀ j x, w3.cell? ⟨g, j, none⟩ = some x → (w3.alloc (.cells #[.slice none 0 0, .slice none 0 0, .slice (some ⟨g, 0, none⟩) 1 c, .slice none 0 0, .int .i64 0, .int .i64 0, .int .i64 0, .string ⟨#[]⟩] 119)).cell? ⟨g, j, none⟩ = some x := fun j x h => by rw [← h]; simp only [World.cell?]; rw [Below.heap_alloc w3 (.cells #[.slice none 0 0, .slice none 0 0, .slice (some ⟨g, 0, none⟩) 1 c, .slice none 0 0, .int .i64 0, .int .i64 0, .int .i64 0, .string ⟨#[]⟩] 119) g lg]
      have z5 : (w3.alloc (.cells #[.slice none 0 0, .slice none 0 0, .slice (some ⟨g, 0, none⟩) 1 c, .slice none 0 0, .int .i64 0, .int .i64 0, .int .i64 0, .string ⟨#[]⟩] 119)).heap.size = w3.heap.size + 1 := by rw [World.size_alloc]
      have c0 := v5 _ _ c0
      have c1 := v5 _ _ c1
      have c2 := v5 _ _ c2
      have c3 := v5 _ _ c3
      have c4 := v5 _ _ c4
      have c5 := v5 _ _ c5
      generalize w3.alloc (.cells #[.slice none 0 0, .slice none 0 0, .slice (some ⟨g, 0, none⟩) 1 c, .slice none 0 0, .int .i64 0, .int .i64 0, .int .i64 0, .string ⟨#[]⟩] 119) = W5 at r5 s5 M5 b5 v5 z5 c0 c1 c2 c3 c4 c5 ⊢
      obtain ⟨z3, hz3⟩ : ∃ z, w3.heap.size = z := ⟨_, rfl⟩
      rw [hz3] at M5 z5 l0 l1 lg ⊢
      clear qA qZ hbb hz3
      obtain ⟨f, d0, d1, d2, d3, d4, d5, d6⟩ := zero7 r5
      have f0 := f 0
      have f1 := f 1
      have f2 := f 2
      have f3 := f 3
      have f4 := f 4
      have f5 := f 5
      have f6 := f 6
      have L1 : w.heap.size + 1 + 1 < W5.heap.size := lt_of_cell d0
      have LG : g < W5.heap.size := lt_of_cell c0
      have LM : z3 < W5.heap.size := by omega
      have m0 : W5.cell? ⟨z3, 0, none⟩ = some (.slice none 0 0) := by rw [cell_of_row _ _ _ _ _ _ M5]; rfl
      have m1 : W5.cell? ⟨z3, 1, none⟩ = some (.slice none 0 0) := by rw [cell_of_row _ _ _ _ _ _ M5]; rfl
      have m2 : W5.cell? ⟨z3, 2, none⟩ = some (.slice (some ⟨g, 0, none⟩) 1 c) := by rw [cell_of_row _ _ _ _ _ _ M5]; rfl
      have m3 : W5.cell? ⟨z3, 3, none⟩ = some (.slice none 0 0) := by rw [cell_of_row _ _ _ _ _ _ M5]; rfl
      have m4 : W5.cell? ⟨z3, 4, none⟩ = some (.int .i64 0) := by rw [cell_of_row _ _ _ _ _ _ M5]; rfl
      have m5 : W5.cell? ⟨z3, 5, none⟩ = some (.int .i64 0) := by rw [cell_of_row _ _ _ _ _ _ M5]; rfl
      have m6 : W5.cell? ⟨z3, 6, none⟩ = some (.int .i64 0) := by rw [cell_of_row _ _ _ _ _ _ M5]; rfl
      have m7 : W5.cell? ⟨z3, 7, none⟩ = some (.string ⟨#[]⟩) := by rw [cell_of_row _ _ _ _ _ _ M5]; rfl
      have q6 : (W5.alloc (.cells #[.int .i64 1, .int .i64 rn, .string rt, .slice none 0 0, .int .i64 0, .int .i64 0] 123)).heap[w.heap.size + 1 + 1]? = some (.cells #[.int .i64 0, .int .i64 0, .string ⟨#[]⟩, .int .i64 0, .int .i64 0, .slice none 0 0, .bool false] 51 (0, 0)) := (Below.heap_alloc _ _ _ L1).trans r5
      have b6 := b5.alloc b5.size (.cells #[.int .i64 1, .int .i64 rn, .string rt, .slice none 0 0, .int .i64 0, .int .i64 0] 123)
      have s6 : (W5.alloc (.cells #[.int .i64 1, .int .i64 rn, .string rt, .slice none 0 0, .int .i64 0, .int .i64 0] 123)).heap.size = W5.heap.size + 1 := by simp
      have HNN : Hid _ := hn
      have HQ6 : Hid _ := q6
      have HB6 : Hid _ := b6
      have HS6 : Hid _ := s6
      clear r5 s5 M5 b5 v5 hn f f0 f1 f2 f3 f4 f5 f6 d0 d1 d2 d3 d4 d5 d6 q6 b6 s6
      have hL := leaf_any 72 rn ⟨#[]⟩ (by decide) (W5.alloc (.cells #[.int .i64 1, .int .i64 rn, .string rt, .slice none 0 0, .int .i64 0, .int .i64 0] 123))
      obtain ⟨kb9, hkb9⟩ : ∃ kb, knT (leafT 72 rn ⟨#[]⟩) = kb := ⟨_, rfl⟩
      have HKB9 : Hid _ := hkb9
      have hsv : ∀ s : Sl3, (sv (leafT 72 rn ⟨#[]⟩) s).toArray = #[.int .i64 72, .int .i64 rn, .string ⟨#[]⟩, .int .i64 0, .int .i64 0, .slice s.1 s.2.1 s.2.2, .bool kb9] := by
        intro s
        rw [← hkb9]
        rfl
      simp only [hsv] at hL
      clear hsv hkb9
      go_wp2_with fail
      refine hL.mono ?_
      rintro e w8 ⟨⟨so9, sl9, sc9⟩, hs0, rfl, hb8⟩
      simp only at hs0
      subst hs0
      have q6 := HQ6.out
      have b6 := HB6.out
      rw [HS6.out] at hb8
      have r8 := (hb8.block (w.heap.size + 1 + 1) (by have := HS6.out; omega)).trans q6
      have b8 := Below.step b6 (by rw [HS6.out]; exact hb8)
      have hf := seven_fin (leafT 72 rn ⟨#[]⟩) (so9, 0, sc9) r8 b8 (by omega)
      rw [HKB9.out] at hf
      obtain ⟨f, d0, d1, d2, d3, d4, d5, d6⟩ := zero7 r8
      have f0 := f 0
      have f1 := f 1
      have f2 := f 2
      have f3 := f 3
      have f4 := f 4
      have f5 := f 5
      have f6 := f 6
      have L8 : w.heap.size + 1 + 1 < w8.heap.size := lt_of_cell d0
      have HF : Hid (Row7 (((((((w8.setCell ⟨w.heap.size + 1 + 1, 0, none⟩ (.int .i64 72)).setCell ⟨w.heap.size + 1 + 1, 1, none⟩ (.int .i64 rn)).setCell ⟨w.heap.size + 1 + 1, 2, none⟩ (.string ⟨#[]⟩)).setCell ⟨w.heap.size + 1 + 1, 3, none⟩ (.int .i64 0)).setCell ⟨w.heap.size + 1 + 1, 4, none⟩ (.int .i64 0)).setCell ⟨w.heap.size + 1 + 1, 5, none⟩ (.slice so9 0 sc9)).setCell ⟨w.heap.size + 1 + 1, 6, none⟩ (.bool kb9)) (w.heap.size + 1 + 1) 0 (leafT 72 rn ⟨#[]⟩) (so9, 0, sc9) ∧ Below w.heap.size w (((((((w8.setCell ⟨w.heap.size + 1 + 1, 0, none⟩ (.int .i64 72)).setCell ⟨w.heap.size + 1 + 1, 1, none⟩ (.int .i64 rn)).setCell ⟨w.heap.size + 1 + 1, 2, none⟩ (.string ⟨#[]⟩)).setCell ⟨w.heap.size + 1 + 1, 3, none⟩ (.int .i64 0)).setCell ⟨w.heap.size + 1 + 1, 4, none⟩ (.int .i64 0)).setCell ⟨w.heap.size + 1 + 1, 5, none⟩ (.slice so9 0 sc9)).setCell ⟨w.heap.size + 1 + 1, 6, none⟩ (.bool kb9))) := hf
      clear hf r8 b8 hb8 f hL q6 b6
      go_wp2
      refine bodyPost_ret (results_cell7b rfl _ (w.heap.size + 1 + 1) rfl _ _ _ HF.out.1 _ rfl) rfl ?_
      rw [HNN.out]
      exact ⟨HF.out.2, _, _, rfl, fun R h => by cases h; exact ⟨rfl, rfl, rfl⟩⟩
    · go_upto_region 7 with fail
      have r5 := (Below.heap_alloc w3 (.cells #[.slice none 0 0, .slice none 0 0, .slice (some ⟨g, 0, none⟩) 1 c, .slice none 0 0, .int .i64 0, .int .i64 0, .int .i64 0, .string ⟨#[]⟩] 119) _ l1).trans qZ
      have s5 := (Below.heap_alloc w3 (.cells #[.slice none 0 0, .slice none 0 0, .slice (some ⟨g, 0, none⟩) 1 c, .slice none 0 0, .int .i64 0, .int .i64 0, .int .i64 0, .string ⟨#[]⟩] 119) _ l0).trans qA
      have M5 := heap_alloc_new w3 (.cells #[.slice none 0 0, .slice none 0 0, .slice (some ⟨g, 0, none⟩) 1 c, .slice none 0 0, .int .i64 0, .int .i64 0, .int .i64 0, .string ⟨#[]⟩] 119)
      have b5 := hbb.alloc hbb.size (.cells #[.slice none 0 0, .slice none 0 0, .slice (some ⟨g, 0, none⟩) 1 c, .slice none 0 0, .int .i64 0, .int .i64 0, .int .i64 0, .string ⟨#[]⟩] 119)
      have v5 : ∀ j x, w3.cell? ⟨g, j, none⟩ = some x → (w3.alloc (.cells #[.slice none 0 0, .slice none 0 0, .slice (some ⟨g, 0, none⟩) 1 c, .slice none 0 0, .int .i64 0, .int .i64 0, .int .i64 0, .string ⟨#[]⟩] 119)).cell? ⟨g, j, none⟩ = some x := fun j x h => by rw [← h]; simp only [World.cell?]; rw [Below.heap_alloc w3 (.cells #[.slice none 0 0, .slice none 0 0, .slice (some ⟨g, 0, none⟩) 1 c, .slice none 0 0, .int .i64 0, .int .i64 0, .int .i64 0, .string ⟨#[]⟩] 119) g lg]
      have z5 : (w3.alloc (.cells #[.slice none 0 0, .slice none 0 0, .slice (some ⟨g, 0, none⟩) 1 c, .slice none 0 0, .int .i64 0, .int .i64 0, .int .i64 0, .string ⟨#[]⟩] 119)).heap.size = w3.heap.size + 1 := by rw [World.size_alloc]
      have c0 := v5 _ _ c0
      have c1 := v5 _ _ c1
      have c2 := v5 _ _ c2
      have c3 := v5 _ _ c3
      have c4 := v5 _ _ c4
      have c5 := v5 _ _ c5
      generalize w3.alloc (.cells #[.slice none 0 0, .slice none 0 0, .slice (some ⟨g, 0, none⟩) 1 c, .slice none 0 0, .int .i64 0, .int .i64 0, .int .i64 0, .string ⟨#[]⟩] 119) = W5 at r5 s5 M5 b5 v5 z5 c0 c1 c2 c3 c4 c5 ⊢
      obtain ⟨z3, hz3⟩ : ∃ z, w3.heap.size = z := ⟨_, rfl⟩
      rw [hz3] at M5 z5 l0 l1 lg ⊢
      clear qA qZ hbb hz3
      obtain ⟨f, d0, d1, d2, d3, d4, d5, d6⟩ := zero7 r5
      have f0 := f 0
      have f1 := f 1
      have f2 := f 2
      have f3 := f 3
      have f4 := f 4
      have f5 := f 5
      have f6 := f 6
      have L1 : w.heap.size + 1 + 1 < W5.heap.size := lt_of_cell d0
      have LG : g < W5.heap.size := lt_of_cell c0
      have LM : z3 < W5.heap.size := by omega
      have m0 : W5.cell? ⟨z3, 0, none⟩ = some (.slice none 0 0) := by rw [cell_of_row _ _ _ _ _ _ M5]; rfl
      have m1 : W5.cell? ⟨z3, 1, none⟩ = some (.slice none 0 0) := by rw [cell_of_row _ _ _ _ _ _ M5]; rfl
      have m2 : W5.cell? ⟨z3, 2, none⟩ = some (.slice (some ⟨g, 0, none⟩) 1 c) := by rw [cell_of_row _ _ _ _ _ _ M5]; rfl
      have m3 : W5.cell? ⟨z3, 3, none⟩ = some (.slice none 0 0) := by rw [cell_of_row _ _ _ _ _ _ M5]; rfl
      have m4 : W5.cell? ⟨z3, 4, none⟩ = some (.int .i64 0) := by rw [cell_of_row _ _ _ _ _ _ M5]; rfl
      have m5 : W5.cell? ⟨z3, 5, none⟩ = some (.int .i64 0) := by rw [cell_of_row _ _ _ _ _ _ M5]; rfl
      have m6 : W5.cell? ⟨z3, 6, none⟩ = some (.int .i64 0) := by rw [cell_of_row _ _ _ _ _ _ M5]; rfl
      have m7 : W5.cell? ⟨z3, 7, none⟩ = some (.string ⟨#[]⟩) := by rw [cell_of_row _ _ _ _ _ _ M5]; rfl
      cases t
      · simp only [boolT, Bool.false_eq_true, if_false] at c2
        have q6 : (W5.alloc (.cells #[.int .i64 4, .int .i64 rn, .string ⟨#[102, 97, 108, 115, 101]⟩, .slice none 0 0, .int .i64 0, .int .i64 0] 123)).heap[w.heap.size + 1 + 1]? = some (.cells #[.int .i64 0, .int .i64 0, .string ⟨#[]⟩, .int .i64 0, .int .i64 0, .slice none 0 0, .bool false] 51 (0, 0)) := (Below.heap_alloc _ _ _ L1).trans r5
        have b6 := b5.alloc b5.size (.cells #[.int .i64 4, .int .i64 rn, .string ⟨#[102, 97, 108, 115, 101]⟩, .slice none 0 0, .int .i64 0, .int .i64 0] 123)
        have s6 : (W5.alloc (.cells #[.int .i64 4, .int .i64 rn, .string ⟨#[102, 97, 108, 115, 101]⟩, .slice none 0 0, .int .i64 0, .int .i64 0] 123)).heap.size = W5.heap.size + 1 := by simp
        have HNN : Hid _ := hn
        have HQ6 : Hid _ := q6
        have HB6 : Hid _ := b6
        have HS6 : Hid _ := s6
        clear r5 s5 M5 b5 v5 hn f f0 f1 f2 f3 f4 f5 f6 d0 d1 d2 d3 d4 d5 d6 q6 b6 s6
        have hL := truth_any false (W5.alloc (.cells #[.int .i64 4, .int .i64 rn, .string ⟨#[102, 97, 108, 115, 101]⟩, .slice none 0 0, .int .i64 0, .int .i64 0] 123))
        have hsv : ∀ s : Sl3, (sv (truthT false) s).toArray = #[.int .i64 74, .int .i64 0, .string ⟨#[102, 97, 108, 115, 101]⟩, .int .i64 0, .int .i64 0, .slice s.1 s.2.1 s.2.2, .bool true] := by
          intro s
          rw [truth_leaf]
          unfold sv
          rw [kn74]
          rfl
        simp only [hsv] at hL
        clear hsv
        go_wp2_with fail
        refine hL.mono ?_
        rintro e w8 ⟨⟨so9, sl9, sc9⟩, hs0, rfl, hb8⟩
        simp only at hs0
        subst hs0
        have q6 := HQ6.out
        have b6 := HB6.out
        rw [HS6.out] at hb8
        have r8 := (hb8.block (w.heap.size + 1 + 1) (by have := HS6.out; omega)).trans q6
        have b8 := Below.step b6 (by rw [HS6.out]; exact hb8)
        have hf := seven_fin (truthT false) (so9, 0, sc9) r8 b8 (by omega)
        rw [truth_leaf, kn74] at hf
        obtain ⟨f, d0, d1, d2, d3, d4, d5, d6⟩ := zero7 r8
        have f0 := f 0
        have f1 := f 1
        have f2 := f 2
        have f3 := f 3
        have f4 := f 4
        have f5 := f 5
        have f6 := f 6
        have L8 : w.heap.size + 1 + 1 < w8.heap.size := lt_of_cell d0
        have HF : Hid (Row7 (((((((w8.setCell ⟨w.heap.size + 1 + 1, 0, none⟩ (.int .i64 74)).setCell ⟨w.heap.size + 1 + 1, 1, none⟩ (.int .i64 0)).setCell ⟨w.heap.size + 1 + 1, 2, none⟩ (.string ⟨#[102, 97, 108, 115, 101]⟩)).setCell ⟨w.heap.size + 1 + 1, 3, none⟩ (.int .i64 0)).setCell ⟨w.heap.size + 1 + 1, 4, none⟩ (.int .i64 0)).setCell ⟨w.heap.size + 1 + 1, 5, none⟩ (.slice so9 0 sc9)).setCell ⟨w.heap.size + 1 + 1, 6, none⟩ (.bool true)) (w.heap.size + 1 + 1) 0 (truthT false) (so9, 0, sc9) ∧ Below w.heap.size w (((((((w8.setCell ⟨w.heap.size + 1 + 1, 0, none⟩ (.int .i64 74)).setCell ⟨w.heap.size + 1 + 1, 1, none⟩ (.int .i64 0)).setCell ⟨w.heap.size + 1 + 1, 2, none⟩ (.string ⟨#[102, 97, 108, 115, 101]⟩)).setCell ⟨w.heap.size + 1 + 1, 3, none⟩ (.int .i64 0)).setCell ⟨w.heap.size + 1 + 1, 4, none⟩ (.int .i64 0)).setCell ⟨w.heap.size + 1 + 1, 5, none⟩ (.slice so9 0 sc9)).setCell ⟨w.heap.size + 1 + 1, 6, none⟩ (.bool true))) := hf
        clear hf r8 b8 hb8 f hL q6 b6
        go_wp2
        refine bodyPost_ret (results_cell7b rfl _ (w.heap.size + 1 + 1) rfl _ _ _ HF.out.1 _ rfl) rfl ?_
        rw [HNN.out]
        exact ⟨HF.out.2, _, _, rfl, fun R h => by cases h; exact ⟨rfl, rfl, rfl⟩⟩
      · simp only [boolT, if_true] at c2
        have q6 : (W5.alloc (.cells #[.int .i64 4, .int .i64 rn, .string ⟨#[116, 114, 117, 101]⟩, .slice none 0 0, .int .i64 0, .int .i64 0] 123)).heap[w.heap.size + 1 + 1]? = some (.cells #[.int .i64 0, .int .i64 0, .string ⟨#[]⟩, .int .i64 0, .int .i64 0, .slice none 0 0, .bool false] 51 (0, 0)) := (Below.heap_alloc _ _ _ L1).trans r5
        have b6 := b5.alloc b5.size (.cells #[.int .i64 4, .int .i64 rn, .string ⟨#[116, 114, 117, 101]⟩, .slice none 0 0, .int .i64 0, .int .i64 0] 123)
        have s6 : (W5.alloc (.cells #[.int .i64 4, .int .i64 rn, .string ⟨#[116, 114, 117, 101]⟩, .slice none 0 0, .int .i64 0, .int .i64 0] 123)).heap.size = W5.heap.size + 1 := by simp
        have HNN : Hid _ := hn
        have HQ6 : Hid _ := q6
        have HB6 : Hid _ := b6
        have HS6 : Hid _ := s6
        clear r5 s5 M5 b5 v5 hn f f0 f1 f2 f3 f4 f5 f6 d0 d1 d2 d3 d4 d5 d6 q6 b6 s6
        have hL := truth_any true (W5.alloc (.cells #[.int .i64 4, .int .i64 rn, .string ⟨#[116, 114, 117, 101]⟩, .slice none 0 0, .int .i64 0, .int .i64 0] 123))
        have hsv : ∀ s : Sl3, (sv (truthT true) s).toArray = #[.int .i64 74, .int .i64 0, .string ⟨#[116, 114, 117, 101]⟩, .int .i64 0, .int .i64 0, .slice s.1 s.2.1 s.2.2, .bool true] := by
          intro s
          rw [truth_leaf]
          unfold sv
          rw [kn74]
          rfl
        simp only [hsv] at hL
        clear hsv
        go_wp2_with fail
        refine hL.mono ?_
        rintro e w8 ⟨⟨so9, sl9, sc9⟩, hs0, rfl, hb8⟩
        simp only at hs0
        subst hs0
        have q6 := HQ6.out
        have b6 := HB6.out
        rw [HS6.out] at hb8
        have r8 := (hb8.block (w.heap.size + 1 + 1) (by have := HS6.out; omega)).trans q6
        have b8 := Below.step b6 (by rw [HS6.out]; exact hb8)
        have hf := seven_fin (truthT true) (so9, 0, sc9) r8 b8 (by omega)
        rw [truth_leaf, kn74] at hf
        obtain ⟨f, d0, d1, d2, d3, d4, d5, d6⟩ := zero7 r8
        have f0 := f 0
        have f1 := f 1
        have f2 := f 2
        have f3 := f 3
        have f4 := f 4
        have f5 := f 5
        have f6 := f 6
        have L8 : w.heap.size + 1 + 1 < w8.heap.size := lt_of_cell d0
        have HF : Hid (Row7 (((((((w8.setCell ⟨w.heap.size + 1 + 1, 0, none⟩ (.int .i64 74)).setCell ⟨w.heap.size + 1 + 1, 1, none⟩ (.int .i64 0)).setCell ⟨w.heap.size + 1 + 1, 2, none⟩ (.string ⟨#[116, 114, 117, 101]⟩)).setCell ⟨w.heap.size + 1 + 1, 3, none⟩ (.int .i64 0)).setCell ⟨w.heap.size + 1 + 1, 4, none⟩ (.int .i64 0)).setCell ⟨w.heap.size + 1 + 1, 5, none⟩ (.slice so9 0 sc9)).setCell ⟨w.heap.size + 1 + 1, 6, none⟩ (.bool true)) (w.heap.size + 1 + 1) 0 (truthT true) (so9, 0, sc9) ∧ Below w.heap.size w (((((((w8.setCell ⟨w.heap.size + 1 + 1, 0, none⟩ (.int .i64 74)).setCell ⟨w.heap.size + 1 + 1, 1, none⟩ (.int .i64 0)).setCell ⟨w.heap.size + 1 + 1, 2, none⟩ (.string ⟨#[116, 114, 117, 101]⟩)).setCell ⟨w.heap.size + 1 + 1, 3, none⟩ (.int .i64 0)).setCell ⟨w.heap.size + 1 + 1, 4, none⟩ (.int .i64 0)).setCell ⟨w.heap.size + 1 + 1, 5, none⟩ (.slice so9 0 sc9)).setCell ⟨w.heap.size + 1 + 1, 6, none⟩ (.bool true))) := hf
        clear hf r8 b8 hb8 f hL q6 b6
        go_wp2
        refine bodyPost_ret (results_cell7b rfl _ (w.heap.size + 1 + 1) rfl _ _ _ HF.out.1 _ rfl) rfl ?_
        rw [HNN.out]
        exact ⟨HF.out.2, _, _, rfl, fun R h => by cases h; exact ⟨rfl, rfl, rfl⟩⟩
theorem bin_any (op : ByteArray) (a b : Tre) (s s' : Sl3) (w : World) (h2 : a.nd.text.size ≤ 1048576) (h3 : b.nd.text.size ≤ 1048576) (ha : (Lit.int .i64 a.nd.num).wf = true) :
    Calls Tryz.prog 60 #[.string op, .agg (sv a s).toArray, .agg (sv b s').toArray] w fun e w' => BinRes w (binT op.toList a b) e w' := by
  by_cases h : op.toList = [94] ∧ a.nd.kind = 73 ∧ b.nd.kind = 73
  · exact bin_text op a b s s' w h h2 h3
  by_cases h9 : a.nd.kind = 72 ∧ b.nd.kind = 72
  · cases hn : (nineB.any fun o => o.toList == op.toList)
    · exact bin_not op a b s s' w h9 hn
    · refine bin_is op a b s s' w h9 hn ?_
      simp only [Lit.wf, Bool.and_eq_true, decide_eq_true_eq] at ha
      exact ha
  · exact bin_no op a b s s' w h h9
end Go.Proofs.YtemancdlnakkmaaGreat
