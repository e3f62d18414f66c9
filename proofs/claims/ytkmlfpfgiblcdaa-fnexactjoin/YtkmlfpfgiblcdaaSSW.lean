
import Derived.Test.YtkmlfpfgiblcdaaSS
import Derived.Test.YtkmlfpfgiblcdaaSz
import Derived.Test.YtkmlfpfgiblcdaaTo
import Derived.Deep.OwnRows
namespace Go.Proofs.Ytkmlfpfgiblcdaa
open Go.RowKit

set_option maxHeartbeats 400000 in
theorem szNodeSS_any (kss : List (List Nd)) (n : Nat) (HN : Hid (kss.length = n)) (ao : Option Addr) (cap : Nat) (left : Int) (w : World) (hx : Lists w ao kss) (hs : ∀ ks ∈ kss, ∀ x ∈ ks, x.text.size ≤ maxLen)
    (hm : ∀ ks ∈ kss, ks.length ≤ 9223372036854775807) (hlen : n ≤ 9223372036854775807) (h0 : 0 ≤ left) (h1 : left ≤ 1048576) :
    Calls Try.prog 17 #[.slice ao n cap, .int .i64 left] w fun e w' =>
      (∃ r : Int, e = .returned (.int .i64 r) ∧ (r = -1 ∨ (0 ≤ r ∧ r ≤ left - n - total kss))) ∧ Below w.heap.size w w' := by
  by_cases hl : left < n
  · clear hx hs hm
    go_enter Try.func17, Try.ntmps17
    go_wp2
    go_ret
    exact ⟨⟨-1, rfl, Or.inl rfl⟩, Below.refl _ _⟩
  · go_enter Try.func17, Try.ntmps17
    go_wp2
    go_loopw [1, 5] (fun l i wr => ∃ (k : Nat) (r : Int), k ≤ n ∧ i = .int .i64 k ∧ l = .int .i64 r ∧ 0 ≤ r ∧ r ≤ left - n - total (kss.take k) ∧ Below w.heap.size w wr) (fun _ i _ => n - (intOf i).toNat)
    case atStart => exact ⟨0, _, Nat.zero_le _, rfl, rfl, by omega, by simp [total], Below.refl _ _⟩
    case round =>
      obtain ⟨k, r, hk, rfl, rfl, hr0, hr1, hb⟩ := hrel
      by_cases hlt : k < n
      · have hltk : k < kss.length := by have := HN.out; omega
        obtain ⟨b, o, ai, ci, rfl, hc, hn⟩ := hx.below hb k hltk
        have hsk := hs kss[k] (List.getElem_mem hltk)
        have hmk := hm kss[k] (List.getElem_mem hltk)
        have HT : Hid (total (kss.take (k + 1)) = total (kss.take k) + kss[k].length) := total_take_succ kss k hltk
        clear hx hs hm
        go_wp2_with fail
        refine (szNodeS_any kss[k] ai ci r wr hn hsk hmk hr0 (by omega)).mono ?_
        rintro e w1 ⟨⟨r', rfl, hr'⟩, hb1⟩
        rcases hr' with hr' | ⟨hr2, hr3⟩
        · subst hr'
          go_wp2
          go_ret
          exact ⟨⟨-1, rfl, Or.inl rfl⟩, Below.step hb hb1⟩
        · have hbb := Below.step hb hb1
          clear hb1 hb hc hn
          go_wp2
          go_roundw
          case rel => exact ⟨k + 1, r', by omega, by go_num, rfl, hr2, by have := HT.out; omega, hbb⟩
          case measure => simp [intOf]; omega
      · have HE : Hid (kss.take k = kss) := List.take_of_length_le (by have := HN.out; omega)
        clear hx hs hm
        go_wp2
        go_ret
        exact ⟨⟨r, rfl, Or.inr ⟨hr0, by have := hr1; rw [HE.out] at this; exact this⟩⟩, hb⟩

theorem Try.infoS : (Try.prog.info? 25).map (fun i => (i.zero, i.size, i.bytes)) = some (some (.slice none 0 0), 1, 24) := by kernel_rfl

theorem make_slices (n : Nat) (h : n ≤ 1048576) (w : World) :
    (Instr.makeSlice 38 (.int .i64 (n : Int)) (.int .i64 (n : Int))).run Try.prog w = .ok (.slice (some ⟨w.heap.size, 0, none⟩) n n) (w.alloc (.cells (madeCells #[.slice none 0 0] n) 25)) :=
  run_make_row' (P := Try.prog) 38 25 (.slice none 0 0) 24 Try.underlying38 Try.infoS rfl .i64 .i64 n (by omega) (by omega) w

theorem made_slices (n : Nat) : (madeCells #[Value.slice none 0 0] n).toList = List.replicate n (Value.slice none 0 0) := by
  apply List.ext_getElem?
  intro j
  by_cases hj : j < n
  · simp only [madeCells, Array.toList_map, List.getElem?_map, Array.toList_range]
    rw [List.getElem?_range hj, List.getElem?_replicate, if_pos hj]
    simp [Nat.mod_one]
  · rw [List.getElem?_eq_none (by simp [madeCells]; omega), List.getElem?_eq_none (by simp; omega)]

set_option maxHeartbeats 400000 in
theorem toNodeSS_any (kss : List (List Nd)) (n : Nat) (HN : Hid (kss.length = n)) (ao : Option Addr) (cap : Nat) (w : World) (hx : Lists w ao kss) (hm : ∀ ks ∈ kss, ks.length ≤ 1048576) (hlen : n ≤ 1048576) :
    Calls Try.prog 20 #[.slice ao n cap] w fun e w' =>
      ∃ g gs, e = .returned (.slice (some ⟨g, 0, none⟩) n n) ∧ w.heap.size ≤ g ∧ (∀ x ∈ gs, w.heap.size ≤ x) ∧ Two w' g gs kss ∧ Below w.heap.size w w' := by
  have hmk := make_slices n hlen
  go_enter Try.func20, Try.ntmps20
  go_wp2
  clear hmk
  go_loopw [4] (fun i wr => ∃ (k : Nat) (gs : List Nat), k ≤ n ∧ i = .int .i64 k ∧ OwnS wr w.heap.size (leads gs (kss.take k) ++ List.replicate (kss.length - k) (.slice none 0 0)) ∧ RowsAt wr gs (kss.take k) ∧ gs.Nodup ∧
    (∀ x ∈ gs, w.heap.size ≤ x ∧ x < wr.heap.size) ∧ Below w.heap.size w wr) (fun i _ => n - (intOf i).toNat)
  case atStart => exact ⟨0, [], Nat.zero_le _, rfl, ⟨_, heap_alloc_new _ _, by rw [made_slices, HN.out]; simp [leads]⟩, ⟨by simp, fun i hi => by simp at hi⟩, by simp, by simp, (Below.refl _ _).alloc (Nat.le_refl _) _⟩
  case round =>
    obtain ⟨k, gs, hk, rfl, hown, hrows, hnd, hgs, hb⟩ := hrel
    by_cases hlt : k < n
    · have hltk : k < kss.length := by have := HN.out; omega
      obtain ⟨b, o, ai, ci, rfl, hc, hn⟩ := hx.below hb k hltk
      have hmk := hm kss[k] (List.getElem_mem hltk)
      have hgl : gs.length = k := by have := hrows.1; simp at this; omega
      clear hx hm
      have HGS : Hid (∀ x ∈ gs, w.heap.size ≤ x ∧ x < wr.heap.size) := hgs
      have HND : Hid gs.Nodup := hnd
      have HGL : Hid (gs.length = k) := hgl
      clear hgs hnd hgl
      go_wp2_with fail
      refine (toNodeS_any kss[k] ai ci wr hn hmk).mono ?_
      rintro e w1 ⟨g', rfl, hg', hrow, hb1⟩
      have o1 := hown.below hb1
      have f0 := o1.frozen k
      obtain ⟨v0, c0⟩ : ∃ v, w1.cell? ⟨w.heap.size, k, none⟩ = some v := by
        have hll : k < (leads gs (kss.take k) ++ List.replicate (kss.length - k) (Value.slice none 0 0)).length := by
          have := HGL.out; simp [leads]; omega
        exact ⟨_, by rw [o1.at k, List.getElem?_eq_getElem hll]⟩
      have r1 := (hrows.below hb1).snoc hltk hrow
      have r2 := r1.put o1 k (.slice (some ⟨g', 0, none⟩) kss[k].length kss[k].length)
      have o2 := o1.set k (.slice (some ⟨g', 0, none⟩) kss[k].length kss[k].length)
      rw [leads_step gs kss k g' hltk HGL.out] at o2
      have hbb := (Below.step hb hb1).setCell (p := ⟨w.heap.size, k, none⟩) (Nat.le_refl _) (.slice (some ⟨g', 0, none⟩) kss[k].length kss[k].length)
      have HG2 : Hid (∀ x ∈ gs ++ [g'], w.heap.size ≤ x ∧ x < (w1.setCell ⟨w.heap.size, k, none⟩ (.slice (some ⟨g', 0, none⟩) kss[k].length kss[k].length)).heap.size) := by
        intro x hx
        rw [size_setCell]
        rcases List.mem_append.1 hx with h | h
        · have := HGS.out x h; have := hb1.size; omega
        · simp at h; subst h; have := hb.size; have := hrow.lt; omega
      have HN2 : Hid (gs ++ [g']).Nodup := by
        refine List.nodup_append.2 ⟨HND.out, by simp, ?_⟩
        intro x hx y hy
        simp at hy
        subst hy
        have := HGS.out x hx
        omega
      clear hrow hown hrows hb hb1 o1 r1 hc hn hg'
      go_wp2
      go_roundw
      case rel => exact ⟨k + 1, gs ++ [g'], by omega, by go_num, o2, r2, HN2.out, HG2.out, hbb⟩
      case measure => simp [intOf]; omega
    · have hke : k = n := by omega
      subst hke
      have HE : Hid (kss.take k = kss) := List.take_of_length_le (by have := HN.out; omega)
      have HT : Hid (Two wr w.heap.size gs kss) := by
        rw [HE.out] at hown hrows
        have e : kss.length - k = 0 := by have := HN.out; omega
        rw [e] at hown
        exact ⟨by simpa using hown, hrows, hnd⟩
      clear hx hm hown hrows hnd
      go_wp2
      go_ret
      exact ⟨_, gs, rfl, Nat.le_refl _, fun x hx => (hgs x hx).1, HT.out, hb⟩

end Go.Proofs.Ytkmlfpfgiblcdaa
