import Derived.Test.YtekogjmmfhbinaaKnT
import Derived.Test.YtekogjmmfhbinaaApp
import Derived.Deep.RegionLaw
import Derived.Deep.RegionWith
namespace Go.Proofs.Ytekogjmmfhbinaa

open Go.RowKit

theorem Try.infoPC : (Try.prog.info? 42).map (fun i => (i.zero, i.size, i.bytes)) = some (some (.pointer none), 1, 8) := by kernel_rfl

/-- Pointers to blocks. -/
def ptrK (bs : List Nat) : List Value := bs.map fun b => .pointer (some ⟨b, 0, none⟩)

theorem ptrK_one (bs : List Nat) : ∀ u ∈ ptrK bs, u.oneCell' = true := by
  intro u hu
  obtain ⟨b, _, rfl⟩ := List.mem_map.1 hu
  rfl

theorem addK (g f j : Nat) : Addr.add ⟨g, f, none⟩ j = ⟨g, f + j, none⟩ := by
  unfold Addr.add
  split
  · simp_all
  · rfl

theorem ownsK_tag {w : World} {base : Nat} {e : TypeId} {size g n cap : Nat} {xs : List Value} (h : w.ownsRow base e size (.slice (some ⟨g, 0, none⟩) n cap) n xs) : n ≤ cap := by
  rcases h.2 with ⟨h', _⟩ | ⟨g2, cap2, cur, he, hb, hh, hnc, _⟩
  · cases h'
  · simp only [Value.slice.injEq, Option.some.injEq, Addr.mk.injEq, and_true, true_and] at he
    obtain ⟨rfl, rfl⟩ := he
    exact hnc

set_option maxHeartbeats 400000 in
theorem cloneK_any (bs : List Nat) (m : Nat) (HM : Hid (bs.length = m)) (hm : m ≤ 1048576) (ad : Addr) (cap : Nat) (w : World) (hx : ∀ j u, (ptrK bs)[j]? = some u → w.cell? (ad.add j) = some u) :
    Calls Try.prog 40 #[.slice (some ad) m cap] w fun e w' => ∃ g c cur, e = .returned (.slice (some ⟨g, 0, none⟩) m c) ∧ w.heap.size ≤ g ∧ w'.heap[g]? = some (.cells cur 42 (0, 0)) ∧ (∀ i (h : i < bs.length), cur[i]? = some (.pointer (some ⟨bs[i], 0, none⟩))) ∧ Below w.heap.size w w' ∧ m ≤ c := by
  obtain ⟨i0, hi, hz0, hz1, hz2⟩ := info_parts Try.infoPC
  have hO : (w.alloc (.cells #[] 42)).ownsRow w.heap.size 42 1 (.slice (some ⟨w.heap.size, 0, none⟩) 0 0) 0 [] := ⟨rfl, Or.inr ⟨_, 0, #[], rfl, Nat.le_refl _, heap_alloc_new _ _, Nat.le_refl _, by simp [maxLen], rfl, rfl⟩⟩
  have hnil : ∀ (w : World), (binOp .eql 58 (.slice (some ad) m cap) (.slice none 0 0)).run Try.prog w = .ok (.bool false) w := fun w => Lib.run_eql_slice_nil w _ _ (some ad) m cap 0 0 Try.underlying58
  have hn : ∀ j u, (ptrK bs)[j]? = some u → (w.alloc (.cells #[] 42)).cell? (ad.add j) = some u := by
    intro j u hj
    have h9 := hx j u hj
    have hl : (ad.add j).block < w.heap.size := by
      rcases h8 : ad.add j with ⟨b, o, sp⟩
      rw [h8] at h9
      have hsp : sp = none := World.cell?_spot h9
      subst hsp
      exact lt_of_cell h9
    rw [← h9]
    exact ((Below.refl w.heap.size w).alloc (Nat.le_refl _) _).cell hl
  go_enter Try.func40, Try.ntmps40
  clear hx
  go_wp2_with (at_builtin; refine wpList_append2 _ rfl (.tmp 5) (.tmp 6) 58 rfl w.heap.size 42 i0 _ 1 8 Try.underlying58 hi hz0 hz1 hz2 rfl (by decide) w.heap.size 0 0 _ rfl hO ad m cap (ptrK bs) rfl ?a1 hn (ptrK_one bs) ?a3 ?a4 ?a5 ?_)
  case a1 => rw [ptrK, List.length_map, HM.out]; omega
  case a3 => unfold maxLen; omega
  case a4 => omega
  case a5 => simp
  intro g2 c2 w2 hown2 hgrow2 hwh
  have hbb : Below w.heap.size w w2 := ((Below.refl _ w).alloc (Nat.le_refl _) _).grown hgrow2 (by simp) (fun q hq => by cases hq; exact Nat.le_refl _)
  have hfin : w.heap.size ≤ g2 ∧ m ≤ c2 ∧ ∃ cur, w2.heap[g2]? = some (.cells cur 42 (0, 0)) ∧ ∀ i (h : i < bs.length), cur[i]? = some (.pointer (some ⟨bs[i], 0, none⟩)) := by
    rcases hown2.2 with ⟨h', _⟩ | ⟨g3, cap3, cur, he, hb, hh, hnc, _, _, htake⟩
    · cases h'
    · simp only [Value.slice.injEq, Option.some.injEq, Addr.mk.injEq, and_true, true_and] at he
      obtain ⟨rfl, rfl⟩ := he
      refine ⟨hb, by omega, cur, hh, fun i hi => ?_⟩
      have e9 : (cur.toList.take (m * 1))[i]? = some (.pointer (some ⟨bs[i], 0, none⟩)) := by
        rw [htake]
        simp [ptrK, hi]
      rw [List.getElem?_take_of_lt (by have := HM.out; omega)] at e9
      simpa using e9
  clear hown2 hgrow2 hwh hO hn
  obtain ⟨hg, hmc, cur, hcur, hall⟩ := hfin
  have HC : Hid (∀ i (h : i < bs.length), cur[i]? = some (.pointer (some ⟨bs[i], 0, none⟩))) := hall
  clear hall
  go_wp2
  go_ret
  exact ⟨_, _, cur, rfl, hg, hcur, HC.out, hbb, hmc⟩

/-- A node of plain code that has just been made. -/
def NewK (w : World) (nd : Nd) (bs : List Nat) (b : Nat) (w' : World) : Prop :=
  ∃ g c cur, w.heap.size ≤ b ∧ w.heap.size ≤ g ∧ w'.heap[b]? = some (.cells #[.int .i64 nd.kind, .int .i64 nd.num, .string nd.text, .int .i64 nd.kids, .int .i64 nd.place, .slice (some ⟨g, 0, none⟩) bs.length c, .int .i64 0, .int .i64 0, .bool false] 62 (0, 0)) ∧ w'.heap[g]? = some (.cells cur 42 (0, 0)) ∧ (∀ j (h : j < bs.length), cur[j]? = some (.pointer (some ⟨bs[j], 0, none⟩))) ∧ bs.length ≤ c ∧ Below w.heap.size w w'

set_option maxRecDepth 20000 in
set_option maxHeartbeats 4000000 in
theorem treeOf1_any (w : World) (nd : Nd) (bs : List Nat) (m c : Nat) (HM : Hid (bs.length = m)) (hm : m ≤ 60000) (ad : Addr) (hx : ∀ j u, (ptrK bs)[j]? = some u → w.cell? (ad.add j) = some u) :
    Calls Try.prog 39 #[.agg #[.int .i64 nd.kind, .int .i64 nd.num, .string nd.text, .int .i64 nd.kids, .int .i64 nd.place], .slice (some ad) m c] w fun e w' => ∃ b, e = .returned (.pointer (some ⟨b, 0, none⟩)) ∧ NewK w nd bs b w' := by
  have hbA : Below w.heap.size w (w.alloc (.cells #[.int .i64 nd.kind, .int .i64 nd.num, .string nd.text, .int .i64 nd.kids, .int .i64 nd.place] 39)) := (Below.refl _ w).alloc (Nat.le_refl _) _
  have hxA : ∀ j u, (ptrK bs)[j]? = some u → (w.alloc (.cells #[.int .i64 nd.kind, .int .i64 nd.num, .string nd.text, .int .i64 nd.kids, .int .i64 nd.place] 39)).drew.cell? (ad.add j) = some u := by
    intro j u hj
    have h9 := hx j u hj
    have hl : (ad.add j).block < w.heap.size := by
      rcases h8 : ad.add j with ⟨b, o, sp⟩
      rw [h8] at h9
      have hsp : sp = none := World.cell?_spot h9
      subst hsp
      exact lt_of_cell h9
    rw [← h9]
    exact hbA.drew.cell hl
  have HCL := cloneK_any bs m HM (by omega) ad c _ hxA
  have k0 : (w.alloc (.cells #[.int .i64 nd.kind, .int .i64 nd.num, .string nd.text, .int .i64 nd.kids, .int .i64 nd.place] 39)).heap[w.heap.size]? = some (.cells #[.int .i64 nd.kind, .int .i64 nd.num, .string nd.text, .int .i64 nd.kids, .int .i64 nd.place] 39 (0, 0)) := heap_alloc_new _ _
  have hzA : (w.alloc (.cells #[.int .i64 nd.kind, .int .i64 nd.num, .string nd.text, .int .i64 nd.kids, .int .i64 nd.place] 39)).drew.heap.size = w.heap.size + 1 := World.size_alloc _ _
  have HL : Hid (∀ W, Below (w.alloc (.cells #[.int .i64 nd.kind, .int .i64 nd.num, .string nd.text, .int .i64 nd.kids, .int .i64 nd.place] 39)).drew.heap.size (w.alloc (.cells #[.int .i64 nd.kind, .int .i64 nd.num, .string nd.text, .int .i64 nd.kids, .int .i64 nd.place] 39)).drew W → W.cell? ⟨w.heap.size, 0, none⟩ = some (.int .i64 nd.kind) ∧ W.cell? ⟨w.heap.size, 1, none⟩ = some (.int .i64 nd.num) ∧ W.cell? ⟨w.heap.size, 2, none⟩ = some (.string nd.text) ∧ W.cell? ⟨w.heap.size, 3, none⟩ = some (.int .i64 nd.kids) ∧ W.cell? ⟨w.heap.size, 4, none⟩ = some (.int .i64 nd.place)) := by
    intro W hb
    have h9 := (hb.block w.heap.size (by omega)).trans k0
    refine ⟨?_, ?_, ?_, ?_, ?_⟩
    all_goals
      rw [cell_of_row _ _ _ _ 39 (0, 0) h9]
      rfl
  have HBD : Hid (Below w.heap.size w (w.alloc (.cells #[.int .i64 nd.kind, .int .i64 nd.num, .string nd.text, .int .i64 nd.kids, .int .i64 nd.place] 39)).drew) := hbA.drew
  have HZ : Hid ((w.alloc (.cells #[.int .i64 nd.kind, .int .i64 nd.num, .string nd.text, .int .i64 nd.kids, .int .i64 nd.place] 39)).drew.heap.size = w.heap.size + 1) := hzA
  clear hx hxA hbA
  go_enter Try.func39, Try.ntmps39
  go_wp2_with fail
  go_region_with (go_at_call 40; refine HCL.mono ?_; rintro e w2 ⟨g, c2, cur, rfl, hg, hcur, hall, hb2, hmc2⟩; obtain ⟨c0, c1, cc2, c3, c4⟩ := HL.out w2 hb2)
  all_goals
    have HT : Hid (NewK w nd bs w2.heap.size (w2.alloc (.cells #[.int .i64 nd.kind, .int .i64 nd.num, .string nd.text, .int .i64 nd.kids, .int .i64 nd.place, .slice (some ⟨g, 0, none⟩) m c2, .int .i64 0, .int .i64 0, .bool false] 62))) := by
      have hbb := Below.step HBD.out hb2
      have h9 := HZ.out
      have hg2 := (Array.getElem?_eq_some_iff.1 hcur).1
      refine ⟨g, c2, cur, hbb.size, by omega, ?_, ?_, hall, by have := HM.out; omega, hbb.alloc hbb.size _⟩
      · rw [HM.out]; exact heap_alloc_new _ _
      · exact (((Below.refl _ w2).alloc (Nat.le_refl _) _).block g hg2).trans hcur
    clear HBD HL HCL hcur hall hb2 c0 c1 cc2 c3 c4 hzA k0
    simp only [Act.put, List.getElem_toArray, List.getElem_cons_succ, List.getElem_cons_zero, List.setIfInBounds_toArray, List.set_cons_zero, List.set_cons_succ]
    go_wp2
    go_ret
    exact ⟨_, rfl, HT.out⟩

end Go.Proofs.Ytekogjmmfhbinaa
