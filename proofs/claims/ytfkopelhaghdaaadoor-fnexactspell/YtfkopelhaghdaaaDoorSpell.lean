import Derived.Test.YtfkopelhaghdaaaDoorByte
namespace Go.Proofs.YtfkopelhaghdaaaDoor
open Go.RowKit Go.Lib

/-- Behind an append of a byte's spelling as a string. -/
theorem pushedS {w wr wq : World} {v v' : Value} {s : ByteArray} {k : Nat} (hk : k < s.size) (hown : OwnB wr w.heap.size v (soFar s k)) (hb : Below w.heap.size w wr)
    {E : ByteArray} (hE : E = ⟨(esc s[k]).toArray⟩)
    (h2 : wq.ownsRow w.heap.size 5 1 v' ((soFar s k).length + E.size) (cellsB (soFar s k) ++ strCells E)) (h3 : wr.grownBy wq v.ownBlock) :
    OwnB wq w.heap.size v' (soFar s (k + 1)) ∧ Below w.heap.size w wq := by
  subst hE
  refine ⟨?_, ?_⟩
  · unfold OwnB
    rw [soFar_step s k hk, List.length_append]
    rw [size_mk] at h2
    have e2 : cellsB (soFar s k ++ esc s[k]) = cellsB (soFar s k) ++ strCells ⟨(esc s[k]).toArray⟩ := by simp [cellsB, strCells]
    rw [e2]
    exact h2
  · exact hb.grown h3 hb.size (fun q hq => (World.ownsRow.lt hown q hq).1)

theorem OwnB.below {w w' : World} {B : Nat} {v : Value} {l : List UInt8} (h : OwnB w B v l) (hb : Below w.heap.size w w') : OwnB w' B v l :=
  World.ownsRow.kept (row := none) h ⟨hb.os, hb.tape, hb.output, hb.size, fun k hk _ => hb.block k hk⟩ (by cases hv : v.ownBlock <;> simp)

set_option maxHeartbeats 1000000 in
theorem spellStr_any (s : ByteArray) (hs : s.size ≤ 1048576) (w : World) (htab : TabIs Tryd.prog w "internal/strconv.uint64pow10" .u64 pow10Tab) :
    Calls Tryd.prog 11 #[.string s] w fun e w' => e = .returned (.string ⟨(soFar s s.size ++ [34]).toArray⟩) ∧ Below w.heap.size w w' := by
  obtain ⟨i0, hi, hzz⟩ := Option.map_eq_some_iff.1 Tryd.infoB
  simp only [Prod.mk.injEq] at hzz
  obtain ⟨hz0, hz1, hz2⟩ := hzz
  go_enter Tryd.func11, Tryd.ntmps11
  go_wp2
  go_loopw [3, 8] (fun v i wr => ∃ (k : Nat), k ≤ s.size ∧ i = .int .i64 k ∧ OwnB wr w.heap.size v (soFar s k) ∧ Below w.heap.size w wr) (fun _ i _ => s.size - (RowKit.intOf i).toNat)
  case atStart => exact ⟨0, Nat.zero_le _, rfl, own_new w [34] 1 rfl (by decide) _ (Nat.le_refl _), (Below.refl _ _).alloc (Nat.le_refl _) _⟩
  case round =>
    obtain ⟨k, hk, rfl, hown, hb⟩ := hrel
    by_cases hlt : k < s.size
    · have HL : Hid ((soFar s k).length ≤ 1 + 4 * k) := soFar_le s k hk
      have hby := byte_any s[k] wr (tab_below htab hb)
      obtain ⟨E, hE⟩ : ∃ E : ByteArray, E = ⟨(esc s[k]).toArray⟩ := ⟨_, rfl⟩
      have hEs : Hid (E.size ≤ 4) := by show E.size ≤ 4; rw [hE, size_mk]; exact esc_le _
      have HE : Hid (E = ⟨(esc s[k]).toArray⟩) := hE
      rw [← hE] at hby
      clear hE htab
      go_wp2_with fail
      refine hby.mono ?_
      rintro e w1 ⟨rfl, b1⟩
      have hown1 := hown.below b1
      have hbb := hb.trans (b1.mono hb.size)
      clear hown hb b1 hby
      go_wp2_with (at_builtin; refine wpList_append_own_string _ rfl _ _ 31 9 rfl w.heap.size 5 i0 Tryd.underlying31 Tryd.underlying9 hi hz0 hz1 hz2 _ _ _ rfl hown1 E rfl ?c3 ?c4 ?c5 ?_)
      case c3 => have := HL.out; have := hEs.out; unfold maxLen; omega
      case c4 => have := HL.out; have := hEs.out; omega
      case c5 => exact hbb.size
      intro v' wq h2 h3 _
      obtain ⟨H2, hb2⟩ := pushedS hlt hown1 hbb HE.out h2 h3
      clear hown1 hbb h2 h3
      go_wp2
      go_roundw
      case rel => exact ⟨k + 1, by omega, by go_num, H2, hb2⟩
      case measure => simp [RowKit.intOf]; omega
    · obtain rfl : k = s.size := by omega
      have HL : Hid ((soFar s s.size).length ≤ 1 + 4 * s.size) := soFar_le s s.size hk
      clear htab
      go_wp2_with (at_builtin; refine wpList_append_own _ rfl _ _ 31 rfl w.heap.size 5 i0 (.int .u8 0) 1 1 Tryd.underlying31 hi hz0 hz1 hz2 rfl (by decide) _ _ _ rfl (World.ownsRow.alloc hown _) ⟨wr.heap.size, 0, none⟩ 1 1 [.int .u8 34] rfl rfl (cells_at wr _) ?c2 ?c3 ?c4 ?c5 ?_)
      case c2 => intro u hu; simp at hu; rw [hu]; rfl
      case c3 => have := HL.out; unfold maxLen; omega
      case c4 => have := HL.out; omega
      case c5 => have := hb.size; simp; omega
      intro v' wq h2 h3 _
      have H2 : OwnB wq w.heap.size v' (soFar s s.size ++ [34]) := by
        unfold OwnB
        have e2 : cellsB (soFar s s.size ++ [34]) = cellsB (soFar s s.size) ++ [.int .u8 34] := by simp [cellsB]
        rw [e2, List.length_append]
        exact h2
      have hbb : Below w.heap.size w wq := (hb.alloc hb.size _).grown h3 (by have := hb.size; simp; omega) (fun q hq => (World.ownsRow.lt hown q hq).1)
      have hcv := own_string H2 (by simp)
      clear hown hb h2 h3 H2 HL
      go_wp2
      go_ret
      exact ⟨rfl, hbb⟩

end Go.Proofs.YtfkopelhaghdaaaDoor
