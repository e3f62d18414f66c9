import Derived.Test.YtfkopelhaghdaaaDoorLaw
namespace Go.Proofs.YtfkopelhaghdaaaDoor
open Go.RowKit Go.Lib

/-- A token in memory. -/
def TokAt (W : World) (p : Nat) (kind : Int) (text : ByteArray) (num at' : Int) : Prop :=
  W.cell? ⟨p, 0, none⟩ = some (.int .i64 kind) ∧ W.cell? ⟨p, 1, none⟩ = some (.string text) ∧ W.cell? ⟨p, 2, none⟩ = some (.int .i64 num) ∧ W.cell? ⟨p, 3, none⟩ = some (.int .i64 at')

theorem TokAt.below {W W' : World} {p : Nat} {kind num at' : Int} {text : ByteArray} (h : TokAt W p kind text num at') (hp : p < W.heap.size) (hb : Below W.heap.size W W') : TokAt W' p kind text num at' :=
  ⟨(hb.cell hp).trans h.1, (hb.cell hp).trans h.2.1, (hb.cell hp).trans h.2.2.1, (hb.cell hp).trans h.2.2.2⟩

theorem TokAt.new (w : World) (kind : Int) (text : ByteArray) (num at' : Int) : TokAt (w.alloc (.cells #[.int .i64 kind, .string text, .int .i64 num, .int .i64 at'] 23)) w.heap.size kind text num at' := by
  refine ⟨?_, ?_, ?_, ?_⟩ <;> (rw [cell_of_row _ w.heap.size _ _ 23 (0, 0) (heap_alloc_new _ _)]; rfl)

set_option maxHeartbeats 1000000 in
theorem lawSpell (kind num at' : Int) (text : ByteArray) (m : Int) (w : World) (hs : text.size ≤ maxLen) (h0 : -9223372036854775808 ≤ num) (h1 : num ≤ 9223372036854775807)
    (htab : TabIs Tryd.prog w "internal/strconv.uint64pow10" .u64 pow10Tab) (hm : w.cell? ⟨0, 0, none⟩ = some (.int .i64 m)) :
    Calls Tryd.prog 3 #[.agg #[.int .i64 kind, .string text, .int .i64 num, .int .i64 at']] w fun e w' => e = .returned (.bool true) ∧ Below w.heap.size w w' := by
  go_enter Tryd.func3, Tryd.ntmps3
  go_wp2_with fail
  have T0 := TokAt.new w kind text num at'
  have B0 : Below w.heap.size w (w.alloc (.cells #[.int .i64 kind, .string text, .int .i64 num, .int .i64 at'] 23)) := (Below.refl _ _).alloc (Nat.le_refl _) _
  have P0 : w.heap.size < (w.alloc (.cells #[.int .i64 kind, .string text, .int .i64 num, .int .i64 at'] 23)).heap.size := by simp
  obtain ⟨W0, hW0⟩ : ∃ W0, W0 = w.alloc (.cells #[.int .i64 kind, .string text, .int .i64 num, .int .i64 at'] 23) := ⟨_, rfl⟩
  rw [← hW0] at T0 B0 P0 ⊢
  clear hW0
  have htab := tab_below htab B0
  have hm := (B0.cell (cell_lt hm)).trans hm
  obtain ⟨p, hp⟩ : ∃ p, w.heap.size = p := ⟨_, rfl⟩
  have HP : Hid (w.heap.size = p) := hp
  rw [hp] at T0 P0 ⊢
  clear hp
  refine (szToken_any kind num at' text W0 hs).mono ?_
  rintro e w1 ⟨rfl, b1⟩
  obtain ⟨c0, c1, c2, c3⟩ := T0.below P0 b1
  by_cases hl : (1048576 : Int) < text.size
  · rw [if_pos hl]
    clear T0 htab hm
    go_wp2
    go_ret
    have e := HP.out
    subst e
    exact ⟨rfl, B0.trans (b1.mono B0.size)⟩
  rw [if_neg hl]
  have hs2 : text.size ≤ 1048576 := by omega
  obtain ⟨r, hr⟩ : ∃ r : Int, (1048576 : Int) - text.size = r := ⟨_, rfl⟩
  have hr0 : 0 ≤ r := by omega
  rw [hr]
  clear hr hl hs
  obtain ⟨S, hS⟩ : ∃ S, spellOf kind text num = S := ⟨_, rfl⟩
  have HS : Hid (spellOf kind text num = S) := hS
  clear hS
  have HT0 : Hid (TokAt W0 p kind text num at') := T0
  have HTab : Hid (TabIs Tryd.prog W0 "internal/strconv.uint64pow10" .u64 pow10Tab) := htab
  have HM : Hid (W0.cell? ⟨0, 0, none⟩ = some (.int .i64 m)) := hm
  clear T0 htab hm
  go_wp2_with fail
  refine (toToken_any kind num at' text w1).mono ?_
  rintro e w2 ⟨rfl, b2⟩
  have b2 := b1.trans (b2.mono b1.size)
  clear b1 c0 c1 c2 c3
  go_wp2_with fail
  refine (specSpell_any kind num at' text w2 hs2 h0 h1).mono ?_
  rintro e w3 ⟨rfl, b3⟩
  rw [HS.out]
  have b3 := b2.trans (b3.mono b2.size)
  obtain ⟨c0, c1, c2, c3⟩ := HT0.out.below P0 b3
  clear b2
  go_wp2_with fail
  refine (toToken_any kind num at' text w3).mono ?_
  rintro e w4 ⟨rfl, b4⟩
  have b4 := b3.trans (b4.mono b3.size)
  clear b3 c0 c1 c2 c3
  go_wp2_with fail
  refine (implSpell_any kind num at' text m w4 hs2 h0 h1 (tab_below HTab.out b4) ((b4.cell (cell_lt HM.out)).trans HM.out)).mono ?_
  rintro e w5 ⟨rfl, b5⟩
  rw [HS.out]
  have b5 := b4.trans (b5.mono b4.size)
  clear b4
  go_wp2
  go_ret
  have e := HP.out
  subst e
  exact ⟨rfl, B0.trans (b5.mono B0.size)⟩

end Go.Proofs.YtfkopelhaghdaaaDoor
