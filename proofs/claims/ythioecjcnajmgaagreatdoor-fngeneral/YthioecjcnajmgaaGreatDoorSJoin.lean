import Derived.Test.YthioecjcnajmgaaGreatDoorWAD
import Derived.Test.YthioecjcnajmgaaGreatDoorWAE
import Derived.Test.YthioecjcnajmgaaGreatDoorWAF
namespace Go.Proofs.YthioecjcnajmgaaGreatDoor

open Go.RowKit

theorem new_cells (w : World) (n : Nd) : ∀ j u, n.row[j]? = some u →
    (w.alloc (.cells #[.int .i64 n.kind, .int .i64 n.num, .string n.text, .int .i64 n.kids, .int .i64 n.place] 40)).cell? (Addr.add ⟨w.heap.size, 0, none⟩ j) = some u := by
  intro j u hj
  have hl : j < n.row.length := (List.getElem?_eq_some_iff.1 hj).1
  have ad : Addr.add ⟨w.heap.size, 0, none⟩ j = ⟨w.heap.size, j, none⟩ := by
    unfold Addr.add
    split
    · simp_all
    · simp
  rw [ad, cell_of_row _ w.heap.size j _ 40 (0, 0) (heap_alloc_new _ _), ← hj]
  simp [Nd.row]

theorem row_one (n : Nd) : ∀ u ∈ n.row, u.oneCell' = true := by
  intro u hu
  simp [Nd.row] at hu
  rcases hu with rfl | rfl | rfl | rfl | rfl <;> rfl

/-- A slice that owns the nodes zs. -/
def HoldsJ (w : World) (B : Nat) (v : Value) (zs : List Nd) : Prop := w.ownsRow B 40 5 v zs.length (flat zs)

theorem HoldsJ.length {w : World} {B : Nat} {v : Value} {zs : List Nd} (_ : HoldsJ w B v zs) : (flat zs).length = zs.length * 5 := flat_length zs

theorem HoldsJ.push {w : World} {B : Nat} {v : Value} {zs : List Nd} {x : Nd} {m : Nat} (h : w.ownsRow B 40 5 v m (flat zs ++ x.row)) (hm : m = zs.length + 1) : HoldsJ w B v (zs ++ [x]) := by
  subst hm
  unfold HoldsJ
  rw [flat_append, List.length_append]
  exact h

theorem HoldsJ.block {w : World} {B : Nat} {v : Value} {zs : List Nd} (h : HoldsJ w B v zs) : ∀ k, v.ownBlock = some k → B ≤ k := by
  intro k hk
  rcases h.2 with ⟨rfl, _⟩ | ⟨g, cap, cur, rfl, hg, _⟩
  · simp [Value.ownBlock] at hk
  · simp [Value.ownBlock] at hk
    omega

theorem HoldsJ.mono {w : World} {B B' : Nat} {v : Value} {zs : List Nd} (h : HoldsJ w B v zs) (hb : B' ≤ B) : HoldsJ w B' v zs := by
  refine ⟨h.1, ?_⟩
  rcases h.2 with h2 | ⟨g, cap, cur, e, hg, r⟩
  · exact Or.inl h2
  · exact Or.inr ⟨g, cap, cur, e, Nat.le_trans hb hg, r⟩

/-- What a slice that owns nodes is: a row of nodes. -/
theorem HoldsJ.row {w : World} {B : Nat} {v : Value} {zs : List Nd} (h : HoldsJ w B v zs) (hne : zs ≠ []) : ∃ g cap, v = .slice (some ⟨g, 0, none⟩) zs.length cap ∧ B ≤ g ∧ Row w g zs := by
  rcases h.2 with ⟨_, h0⟩ | ⟨g, cap, cur, e, hg, hh, _, _, _, ht⟩
  · exact absurd (List.length_eq_zero_iff.1 h0) hne
  · refine ⟨g, cap, e, hg, cur, cur.toList.drop (zs.length * 5), hh, ?_⟩
    rw [← ht, List.take_append_drop]

theorem flatten_take_succ (kss : List (List Nd)) (k : Nat) (h : k < kss.length) : (kss.take (k + 1)).flatten = (kss.take k).flatten ++ kss[k] := by
  rw [List.take_succ_eq_append_getElem h, List.flatten_append]
  simp only [List.flatten_cons, List.flatten_nil, List.append_nil]

theorem length_flatten_take (kss : List (List Nd)) (k : Nat) : (kss.take k).flatten.length ≤ total kss := by
  have := total_take_le kss k
  rw [List.length_flatten]
  exact this

set_option maxHeartbeats 1000000 in
theorem specJoin_any (x : Nd) (kss : List (List Nd)) (n : Nat) (HN : Hid (kss.length = n)) (ao : Option Addr) (cap : Nat) (w : World) (hx : Lists w ao kss) (ht : total kss ≤ 1048576) (hlen : n ≤ 1048576) :
    Calls Tryz.prog 15 #[.agg #[.int .i64 x.kind, .int .i64 x.num, .string x.text, .int .i64 x.kids, .int .i64 x.place], .slice ao n cap] w fun e w' =>
      ∃ v, e = .returned v ∧ HoldsJ w' w.heap.size v (kss.flatten ++ [{ x with kids := (n : Int) }]) ∧ Below w.heap.size w w' := by
  obtain ⟨i0, hi, hz0, hz1, hz2⟩ := info_parts Tryz.infoN
  go_enter Tryz.func15, Tryz.ntmps15
  go_wp2
  obtain ⟨W1, hW1⟩ : ∃ W1, W1 = w.alloc (.cells #[.int .i64 x.kind, .int .i64 x.num, .string x.text, .int .i64 x.kids, .int .i64 x.place] 40) := ⟨_, rfl⟩
  have HW1 : Hid (W1 = w.alloc (.cells #[.int .i64 x.kind, .int .i64 x.num, .string x.text, .int .i64 x.kids, .int .i64 x.place] 40)) := hW1
  have HB1 : Below w.heap.size w W1 := by rw [hW1]; exact (Below.refl _ _).alloc (Nat.le_refl _) _
  have HS1 : Hid (W1.heap.size = w.heap.size + 1) := by show W1.heap.size = w.heap.size + 1; rw [hW1]; simp
  have hx1 := hx.below HB1
  clear hx hW1
  go_loopw [5, 6] (fun v i wr => ∃ (k : Nat), k ≤ n ∧ i = .int .i64 k ∧ HoldsJ wr (w.heap.size + 1) v (kss.take k).flatten ∧ Below W1.heap.size W1 wr) (fun _ i _ => n - (intOf i).toNat)
  case atStart =>
    refine ⟨0, Nat.zero_le _, rfl, ⟨by simp [flat], Or.inr ⟨w.heap.size + 1, 0, #[], rfl, Nat.le_refl _, ?_, Nat.le_refl _, by simp [maxLen], rfl, by simp [flat]⟩⟩, ?_⟩
    · rw [← HW1.out, ← HS1.out]; exact heap_alloc_new _ _
    · rw [← HW1.out]; exact (Below.refl _ _).alloc (Nat.le_refl _) _
  case round =>
    obtain ⟨k, hk, rfl, hown, hb⟩ := hrel
    by_cases hlt : k < n
    · have hltk : k < kss.length := by have := HN.out; omega
      obtain ⟨b, o, ai, ci, rfl, hc, hn⟩ := hx1 k hltk
      obtain ⟨ks, hks⟩ : ∃ ks, kss[k] = ks := ⟨_, rfl⟩
      have HKS : Hid (kss[k] = ks) := hks
      have hml : ks.length ≤ 1048576 := by have := length_le_total kss k hltk; rw [hks] at this; omega
      have hdl := length_flatten_take kss k
      have HFT : Hid ((kss.take (k + 1)).flatten = (kss.take k).flatten ++ ks) := by have := flatten_take_succ kss k hltk; rw [hks] at this; exact this
      have htl : (kss.take k).flatten.length + ks.length ≤ total kss := by
        have := length_flatten_take kss (k + 1)
        rw [HFT.out, List.length_append] at this
        exact this
      obtain ⟨dn, hdn⟩ : ∃ dn, (kss.take k).flatten = dn := ⟨_, rfl⟩
      have HDN : Hid ((kss.take k).flatten = dn) := hdn
      rw [hdn] at hown hdl htl
      rw [hks] at hc hn
      clear hks hx1 hdn
      go_wp2
      go_loopw [5, 7] (fun v i wr => ∃ (j : Nat), j ≤ ks.length ∧ i = .int .i64 j ∧ HoldsJ wr (w.heap.size + 1) v (dn ++ ks.take j) ∧ Below W1.heap.size W1 wr) (fun _ i _ => ks.length - (intOf i).toNat)
      case atStart => exact ⟨0, Nat.zero_le _, rfl, by simpa using hown, hb⟩
      case round =>
        clear hown hb
        obtain ⟨j, hj, rfl, hown, hb⟩ := hrel
        have hcc := (hb.cell (p := ⟨b, o + k, none⟩) (lt_of_cell hc)).trans hc
        by_cases hjl : j < ks.length
        · obtain ⟨b', o', rfl, hnj⟩ := hn.below hb j hjl
          obtain ⟨y, hy⟩ : ∃ y, ks[j] = y := ⟨_, rfl⟩
          have HY : Hid (ks[j] = y) := hy
          rw [hy] at hnj
          obtain ⟨e0, e1, e2, e3, e4⟩ := hnj
          clear hy hn hc
          have hlen2 : (dn ++ ks.take j).length = dn.length + j := by simp; omega
          have HL2 : Hid ((dn ++ ks.take j).length = dn.length + j) := hlen2
          clear hlen2
          go_wp2_with (at_builtin; refine wpList_append_own _ rfl _ _ 27 rfl (w.heap.size + 1) 40 i0 _ 5 48 Tryz.underlying27 hi hz0 hz1 hz2 rfl (by decide) _ _ _ rfl (hown.alloc _) ⟨_, 0, none⟩ 1 1 y.row rfl rfl ?c1 ?c2 ?c3 ?c4 ?c5 ?_)
          case c1 => exact new_cells _ y
          case c2 => exact row_one y
          case c3 => rw [HL2.out]; unfold maxLen; omega
          case c4 => rw [HL2.out]; omega
          case c5 => have := hb.size; have := HS1.out; simp; omega
          intro v' w1 hown' hgrow _
          have H2 : HoldsJ w1 (w.heap.size + 1) v' (dn ++ ks.take (j + 1)) := by
            have := HoldsJ.push hown' (by rw [HL2.out])
            rw [List.take_succ_eq_append_getElem hjl, HY.out, ← List.append_assoc]
            exact this
          have hbb : Below W1.heap.size W1 w1 := (hb.alloc hb.size _).grown hgrow (by have := hb.size; simp; omega) (fun q hq => by have := HoldsJ.block hown q hq; have := HS1.out; omega)
          clear hown hown' hgrow hb hcc e0 e1 e2 e3 e4
          go_wp2
          go_roundw
          case rel => exact ⟨j + 1, by omega, by go_num, H2, hbb⟩
          case measure => simp [intOf]; omega
        · have hje : ks.take j = ks := List.take_of_length_le (by omega)
          have H2 : HoldsJ wr (w.heap.size + 1) u5 (kss.take (k + 1)).flatten := by
            rw [HFT.out, HDN.out]
            rw [hje] at hown
            exact hown
          clear hown hje hn hc
          go_wp2
          go_roundw
          case rel => exact ⟨k + 1, by omega, by go_num, H2, hb⟩
          case measure => simp [intOf]; omega
    · have hke : k = n := by omega
      subst hke
      have HE : Hid (kss.take k = kss) := List.take_of_length_le (by have := HN.out; omega)
      rw [HE.out] at hown
      have hfl : kss.flatten.length ≤ 1048576 := by have := length_flatten_take kss k; rw [HE.out] at this; omega
      have hz : ∀ j, wr.cell? ⟨w.heap.size, j, none⟩ = W1.cell? ⟨w.heap.size, j, none⟩ := fun j => hb.cell (p := ⟨w.heap.size, j, none⟩) (by have := HS1.out; show w.heap.size < _; omega)
      have hf3 : wr.frozen? ⟨w.heap.size, 3, none⟩ = false := by
        rw [hb.frozen (p := ⟨w.heap.size, 3, none⟩) (by have := HS1.out; show w.heap.size < _; omega), HW1.out]
        exact frozen_of_row _ w.heap.size 3 _ 40 (heap_alloc_new _ _)
      have g0 : wr.cell? ⟨w.heap.size, 0, none⟩ = some (.int .i64 x.kind) := by rw [hz, HW1.out, cell_of_row _ w.heap.size 0 _ 40 (0, 0) (heap_alloc_new _ _)]; rfl
      have g1 : wr.cell? ⟨w.heap.size, 1, none⟩ = some (.int .i64 x.num) := by rw [hz, HW1.out, cell_of_row _ w.heap.size 1 _ 40 (0, 0) (heap_alloc_new _ _)]; rfl
      have g2 : wr.cell? ⟨w.heap.size, 2, none⟩ = some (.string x.text) := by rw [hz, HW1.out, cell_of_row _ w.heap.size 2 _ 40 (0, 0) (heap_alloc_new _ _)]; rfl
      have g3 : wr.cell? ⟨w.heap.size, 3, none⟩ = some (.int .i64 x.kids) := by rw [hz, HW1.out, cell_of_row _ w.heap.size 3 _ 40 (0, 0) (heap_alloc_new _ _)]; rfl
      have g4 : wr.cell? ⟨w.heap.size, 4, none⟩ = some (.int .i64 x.place) := by rw [hz, HW1.out, cell_of_row _ w.heap.size 4 _ 40 (0, 0) (heap_alloc_new _ _)]; rfl
      have hown3 := ownsRow_setCell_below hown (a := ⟨w.heap.size, 3, none⟩) (Nat.lt_succ_self _) (.int .i64 (k : Int))
      clear hz hx1
      go_wp2_with (at_builtin; refine wpList_append_own _ rfl _ _ 27 rfl (w.heap.size + 1) 40 i0 _ 5 48 Tryz.underlying27 hi hz0 hz1 hz2 rfl (by decide) _ _ _ rfl (hown3.alloc _) ⟨_, 0, none⟩ 1 1 (Nd.row { x with kids := (k : Int) }) rfl rfl ?d1 ?d2 ?d3 ?d4 ?d5 ?_)
      case d1 =>
        have := new_cells (wr.setCell ⟨w.heap.size, 3, none⟩ (.int .i64 (k : Int))) { x with kids := (k : Int) }
        rw [size_setCell] at this
        exact this
      case d2 => exact row_one _
      case d3 => unfold maxLen; omega
      case d4 => omega
      case d5 => have := hb.size; have := HS1.out; simp; omega
      intro v' w1 hown' hgrow _
      have H2 := HoldsJ.push hown' (by rw [List.length_flatten])
      have hb2 : Below w.heap.size w wr := HB1.trans (hb.mono HB1.size)
      have hbb : Below w.heap.size w w1 := ((hb2.setCell (p := ⟨w.heap.size, 3, none⟩) (Nat.le_refl _) (.int .i64 (k : Int))).alloc (by rw [size_setCell]; exact hb2.size) _).grown hgrow (by have := hb2.size; simp; omega) (fun q hq => by have := HoldsJ.block hown q hq; omega)
      clear hown hown' hgrow hb hown3 g0 g1 g2 g3 g4
      go_wp2
      go_ret
      exact ⟨_, rfl, H2.mono (Nat.le_succ _), hbb⟩

end Go.Proofs.YthioecjcnajmgaaGreatDoor
