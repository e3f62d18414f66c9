import Derived.Test.YtedlofpgddjpgaaGreatWAY
namespace Go.Proofs.YtedlofpgddjpgaaGreat
open Go.RowKit
set_option maxRecDepth 20000 in
set_option maxHeartbeats 2000000 in
theorem bin_not (op : ByteArray) (a b : Tre) (s s' : Sl3) (w : World) (h1 : a.nd.kind = 72 ∧ b.nd.kind = 72) (h2 : (nineB.any fun o => o.toList == op.toList) = false) :
    Calls Tryz.prog 66 #[.string op, .agg (sv a s).toArray, .agg (sv b s').toArray] w fun e w' => BinRes w (binT op.toList a b) e w' := by
  have HBT : binT op.toList a b = none := by
    unfold binT
    rw [if_neg (by omega), if_pos h1]
    exact ar_none h2 _ _
  rw [HBT]
  have HR : Hid _ := bin_refuse2 w a s (.cells (sv a s).toArray 59) (.cells (sv b s').toArray 59) (.cells #[.string ⟨#[43]⟩, .string ⟨#[45]⟩, .string ⟨#[42]⟩, .string ⟨#[60]⟩, .string ⟨#[60, 61]⟩, .string ⟨#[62]⟩, .string ⟨#[62, 61]⟩, .string ⟨#[47]⟩, .string ⟨#[37]⟩] 9)
  obtain ⟨⟨kd, nm, tx, kk, pl⟩, aks⟩ := a
  obtain ⟨⟨md, mn, mx, mk, mp⟩, bks⟩ := b
  obtain ⟨so, sl, sc⟩ := s
  obtain ⟨uo, ul, uc⟩ := s'
  unfold sv at HR ⊢
  simp only [Tre.nd] at h1 HR ⊢
  obtain ⟨rfl, rfl⟩ := h1
  generalize knT (.mk ⟨72, nm, tx, kk, pl⟩ aks) = kb at HR ⊢
  generalize knT (.mk ⟨72, mn, mx, mk, mp⟩ bks) = vb at HR ⊢
  have hS := nine_strs (((w.alloc (.cells #[.int .i64 72, .int .i64 nm, .string tx, .int .i64 kk, .int .i64 pl, .slice so sl sc, .bool kb] 59)).alloc (.cells #[.int .i64 72, .int .i64 mn, .string mx, .int .i64 mk, .int .i64 mp, .slice uo ul uc, .bool vb] 59)).alloc (.cells #[.int .i64 0, .int .i64 0, .string ⟨#[]⟩, .int .i64 0, .int .i64 0, .slice none 0 0, .bool false] 59))
  rw [World.size_alloc, World.size_alloc, World.size_alloc] at hS
  have hI := in_any nineB 9 rfl (by omega) (some ⟨w.heap.size + 1 + 1 + 1, 0, none⟩) 9 op _ hS
  rw [h2] at hI
  have HIN : Hid _ := hI
  clear hI hS h2 HBT
  obtain ⟨ob, hob⟩ : ∃ ob, (op.toList == [94]) = ob := ⟨_, rfl⟩
  cases ob
  · go_enter Tryz.func66, Tryz.ntmps66
    go_wp2_with fail
    refine Calls.mono HIN.out ?_
    rintro e w2 ⟨rfl, rfl⟩
    go_wp2
    refine bodyPost_ret (results_cell7b rfl _ (w.heap.size + 1 + 1) rfl _ _ _ HR.out.1 _ rfl) rfl ?_
    exact ⟨HR.out.2, _, _, rfl, fun R h => by cases h⟩
  · go_enter Tryz.func66, Tryz.ntmps66
    go_wp2_with fail
    refine Calls.mono HIN.out ?_
    rintro e w2 ⟨rfl, rfl⟩
    go_wp2
    refine bodyPost_ret (results_cell7b rfl _ (w.heap.size + 1 + 1) rfl _ _ _ HR.out.1 _ rfl) rfl ?_
    exact ⟨HR.out.2, _, _, rfl, fun R h => by cases h⟩
end Go.Proofs.YtedlofpgddjpgaaGreat
