import Derived.Test.YtekogjmmfhbinaaKnT
import Derived.Deep.RegionHeld3
import Derived.Deep.RegionWith
import Derived.BigQuiet
import Derived.BigCall
import Derived.BigGuard
namespace Go.Proofs.Ytekogjmmfhbinaa

open Go.RowKit

theorem rangeU_step {u : Nat → Bool} {k : Nat} (h : u k = false) (hall : (List.range k).any u = false) : (List.range (k + 1)).any u = false := by
  rw [List.range_succ, List.any_append, hall]
  simp [h]

theorem rangeU_true {u : Nat → Bool} {k n : Nat} (hk : k < n) (h : u k = true) : (List.range n).any u = true := by
  rw [List.any_eq_true]
  exact ⟨k, List.mem_range.2 hk, h⟩

set_option maxHeartbeats 1000000 in
theorem indexU_any (bs : List Nat) (n c g : Nat) (HX : Hid (bs.length = n)) (hn : n ≤ 60000) (hc : n ≤ c) (u : Nat → Bool) (w : World) (cur : Array Value) (row : w.heap[g]? = some (.cells cur 42 (0, 0)))
    (HR : Hid (∀ j (h : j < bs.length), cur[j]? = some (.pointer (some ⟨bs[j], 0, none⟩)))) (HC : Hid (∀ j (h : j < bs.length) (wr : World), Below w.heap.size w wr → Calls Try.prog 37 #[.pointer (some ⟨bs[j], 0, none⟩)] wr fun e w' => e = .returned (.bool (u j)) ∧ Below wr.heap.size wr w')) :
    Calls Try.prog 53 #[.slice (some ⟨g, 0, none⟩) n c, .func (.func 37) #[] #[]] w fun e w' =>
      (∃ r : Int, e = .returned (.int .i64 r) ∧ decide (r ≥ 0) = (List.range n).any u) ∧ Below w.heap.size w w' := by
  have hg := (Array.getElem?_eq_some_iff.1 row).1
  have HROW : Hid (w.heap[g]? = some (.cells cur 42 (0, 0))) := row
  clear row
  go_enter Try.func53, Try.ntmps53
  go_wp2
  go_loopw [8] (fun i wr => ∃ (k : Nat), k ≤ n ∧ i = .int .i64 k ∧ (List.range k).any u = false ∧ Below w.heap.size w wr) (fun i _ => n - (intOf i).toNat)
  case atStart => exact ⟨0, Nat.zero_le _, rfl, by simp, Below.refl _ _⟩
  case round =>
    obtain ⟨k, hk, rfl, hall, hb⟩ := hrel
    by_cases hlt : k < n
    · have hltx : k < bs.length := by have := HX.out; omega
      obtain ⟨x, hxk⟩ : ∃ x, bs[k] = x := ⟨_, rfl⟩
      have c0 : wr.cell? ⟨g, k, none⟩ = some (.pointer (some ⟨x, 0, none⟩)) := by
        rw [cell_of_row _ _ _ _ 42 (0, 0) ((hb.block g hg).trans HROW.out), ← hxk]
        exact HR.out k hltx
      have HK := HC.out k hltx wr hb
      rw [hxk] at HK
      have hgr : g < wr.heap.size := lt_of_cell c0
      clear hxk
      cases hq : u k
      · have HA : Hid ((List.range (k + 1)).any u = false) := rangeU_step hq hall
        rw [hq] at HK
        clear hall hq
        go_wp2_with fail
        refine HK.mono ?_
        rintro e w1 ⟨rfl, hb1⟩
        have hbb := Below.step hb hb1
        clear hb hb1 c0 HK
        go_wp2
        go_roundw
        case rel => exact ⟨k + 1, by omega, by go_num, HA.out, hbb⟩
        case measure => simp [intOf]; omega
      · have HA : Hid ((List.range n).any u = true) := rangeU_true hlt hq
        rw [hq] at HK
        clear hall hq
        go_wp2_with fail
        refine HK.mono ?_
        rintro e w1 ⟨rfl, hb1⟩
        have hbb := Below.step hb hb1
        clear hb hb1 c0 HK
        go_wp2
        go_ret
        exact ⟨⟨(k : Int), rfl, by rw [HA.out]; simp⟩, hbb⟩
    · have HA : Hid ((List.range n).any u = false) := by
        obtain rfl : k = n := by omega
        exact hall
      clear hall
      go_wp2
      go_ret
      exact ⟨⟨-1, rfl, by rw [HA.out]; rfl⟩, hb⟩

set_option maxHeartbeats 1000000 in
theorem containsU_any (bs : List Nat) (n c g : Nat) (HX : Hid (bs.length = n)) (hn : n ≤ 60000) (hc : n ≤ c) (u : Nat → Bool) (w : World) (cur : Array Value) (row : w.heap[g]? = some (.cells cur 42 (0, 0)))
    (HR : Hid (∀ j (h : j < bs.length), cur[j]? = some (.pointer (some ⟨bs[j], 0, none⟩)))) (HC : Hid (∀ j (h : j < bs.length) (wr : World), Below w.heap.size w wr → Calls Try.prog 37 #[.pointer (some ⟨bs[j], 0, none⟩)] wr fun e w' => e = .returned (.bool (u j)) ∧ Below wr.heap.size wr w')) :
    Calls Try.prog 36 #[.slice (some ⟨g, 0, none⟩) n c, .func (.func 37) #[] #[]] w fun e w' =>
      e = .returned (.bool ((List.range n).any u)) ∧ Below w.heap.size w w' := by
  have HI := indexU_any bs n c g HX hn hc u w cur row HR HC
  clear row
  go_enter Try.func36, Try.ntmps36
  go_wp2_with fail
  refine HI.mono ?_
  rintro e w1 ⟨⟨r, rfl, hr⟩, hb1⟩
  have HV : Hid (decide (r ≥ 0) = (List.range n).any u) := hr
  clear hr HI
  go_wp2
  go_ret
  exact ⟨by rw [← HV.out]; rfl, hb1⟩

theorem isUnknown_of {b : Nat} {w : World} {v : Bool} (h : Calls Try.prog 20 #[.pointer (some ⟨b, 0, none⟩)] w fun e w' => e = .returned (.bool v) ∧ Below w.heap.size w w') :
    Calls Try.prog 37 #[.pointer (some ⟨b, 0, none⟩)] w fun e w' => e = .returned (.bool (!v)) ∧ Below w.heap.size w w' := by
  go_enter Try.func37, Try.ntmps37
  go_wp2_with fail
  refine h.mono ?_
  rintro e w1 ⟨rfl, hb1⟩
  clear h
  go_wp2
  go_ret
  exact ⟨rfl, hb1⟩

theorem all_range_kids {l : List Nat} {p : Nat → Bool} {n : Nat} (hn : l.length = n) : l.all p = !((List.range n).any fun j => !(p (l.getD j 0))) := by
  rw [Bool.eq_iff_iff]
  simp only [List.all_eq_true, Bool.not_eq_true', List.any_eq_false, List.mem_range, Bool.not_eq_true', Bool.not_eq_false]
  constructor
  · intro h j hj
    have hl : j < l.length := by omega
    have e : l.getD j 0 = l[j] := by simp [hl]
    rw [e]
    exact h _ (List.getElem_mem hl)
  · intro h x hx
    obtain ⟨j, hj, rfl⟩ := List.getElem_of_mem hx
    have h9 := h j (by omega)
    have e : l.getD j 0 = l[j] := by simp [hj]
    rw [e] at h9
    exact h9

end Go.Proofs.Ytekogjmmfhbinaa
