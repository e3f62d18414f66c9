import Derived.Test.YtoghngfkmhfimaaGreatDoorWAD
namespace Go.Proofs.YtoghngfkmhfimaaGreatDoor

open Go.RowKit

/-! Pairs that a law copies and marks. -/

set_option maxRecDepth 20000 in
set_option maxHeartbeats 1000000 in
theorem toPair_any (ka kc : List Nd) (la lc : Nat) (HA : Hid (ka.length = la)) (HC : Hid (kc.length = lc)) (a1 a2 : Option Addr) (c1 c2 : Nat) (w : World) (hn1 : Nodes w a1 ka) (hn2 : Nodes w a2 kc) (hla : la ≤ 1048576) (hlc : lc ≤ 1048576) :
    Calls Tryz.prog 18 #[.agg #[.slice a1 la c1, .slice a2 lc c2]] w fun e w' =>
      ∃ g h, e = .returned (.agg #[.slice (some ⟨g, 0, none⟩) la la, .slice (some ⟨h, 0, none⟩) lc lc]) ∧ w.heap.size ≤ g ∧ w.heap.size ≤ h ∧ g ≠ h ∧ Row w' g ka ∧ Row w' h kc ∧ Below w.heap.size w w' := by
  have HZ1 : Hid (∀ (w : World), Nodes w a1 ka → Calls Tryz.prog 41 #[.slice a1 la c1] w fun e w' => ∃ g, e = .returned (.slice (some ⟨g, 0, none⟩) la la) ∧ w.heap.size ≤ g ∧ Row w' g ka ∧ Below w.heap.size w w') := by
    intro w hn
    have hz := toNodeS_any ka a1 c1
    rw [HA.out] at hz
    exact hz w hn hla
  have HZ2 : Hid (∀ (w : World), Nodes w a2 kc → Calls Tryz.prog 41 #[.slice a2 lc c2] w fun e w' => ∃ g, e = .returned (.slice (some ⟨g, 0, none⟩) lc lc) ∧ w.heap.size ≤ g ∧ Row w' g kc ∧ Below w.heap.size w w') := by
    intro w hn
    have hz := toNodeS_any kc a2 c2
    rw [HC.out] at hz
    exact hz w hn hlc
  have HN1 : Hid (Nodes w a1 ka) := hn1
  have HN2 : Hid (Nodes w a2 kc) := hn2
  clear hn1 hn2
  have hA : Below w.heap.size w (w.alloc (.cells #[.slice a1 la c1, .slice a2 lc c2] 38)) := (Below.refl _ w).alloc (Nat.le_refl _) _
  have hB := hA.alloc hA.size (.cells #[.slice none 0 0, .slice none 0 0] 41)
  have hC := hB.alloc hB.size (.cells #[.slice none 0 0, .slice none 0 0] 41)
  go_enter Tryz.func18, Tryz.ntmps18
  go_wp2_with fail
  obtain ⟨z, hz⟩ : ∃ z, w.heap.size = z := ⟨_, rfl⟩
  have k0 : (((w.alloc (.cells #[.slice a1 la c1, .slice a2 lc c2] 38)).alloc (.cells #[.slice none 0 0, .slice none 0 0] 41)).alloc (.cells #[.slice none 0 0, .slice none 0 0] 41)).heap[z]? = some (.cells #[.slice a1 la c1, .slice a2 lc c2] 38 (0, 0)) := by
    rw [← hz, heap_alloc_old _ _ (by simp; omega), heap_alloc_old _ _ (by simp)]
    exact heap_alloc_new _ _
  have k1 : (((w.alloc (.cells #[.slice a1 la c1, .slice a2 lc c2] 38)).alloc (.cells #[.slice none 0 0, .slice none 0 0] 41)).alloc (.cells #[.slice none 0 0, .slice none 0 0] 41)).heap[z + 1]? = some (.cells #[.slice none 0 0, .slice none 0 0] 41 (0, 0)) := by
    rw [← hz, heap_alloc_old _ _ (by simp)]
    have h9 := heap_alloc_new (w.alloc (.cells #[.slice a1 la c1, .slice a2 lc c2] 38)) (.cells #[.slice none 0 0, .slice none 0 0] 41)
    simpa using h9
  have k2 : (((w.alloc (.cells #[.slice a1 la c1, .slice a2 lc c2] 38)).alloc (.cells #[.slice none 0 0, .slice none 0 0] 41)).alloc (.cells #[.slice none 0 0, .slice none 0 0] 41)).heap[z + 1 + 1]? = some (.cells #[.slice none 0 0, .slice none 0 0] 41 (0, 0)) := by
    rw [← hz]
    have h9 := heap_alloc_new ((w.alloc (.cells #[.slice a1 la c1, .slice a2 lc c2] 38)).alloc (.cells #[.slice none 0 0, .slice none 0 0] 41)) (.cells #[.slice none 0 0, .slice none 0 0] 41)
    simpa using h9
  have l0 := (Array.getElem?_eq_some_iff.1 k0).1
  have l1 := (Array.getElem?_eq_some_iff.1 k1).1
  have l2 := (Array.getElem?_eq_some_iff.1 k2).1
  refine (HZ1.out _ (HN1.out.below hC)).mono ?_
  rintro e w1 ⟨g, rfl, hg, hr, hb1⟩
  have k0 := (hb1.block z l0).trans k0
  have k1 := (hb1.block (z + 1) l1).trans k1
  have k2 := (hb1.block (z + 1 + 1) l2).trans k2
  have hbw1 : Below z w w1 := by rw [← hz]; exact Below.step hC hb1
  have hgs : z + 3 ≤ g := by rw [← hz]; simpa using hg
  have hs1 := hbw1.size
  clear hA hB hC hb1 l0 l1 l2 hg
  have u0 : w1.cell? ⟨z + 1 + 1, 0, none⟩ = some (.slice none 0 0) := by rw [cell_of_row _ _ _ _ 41 (0, 0) k2]; rfl
  have u1 : w1.frozen? ⟨z + 1 + 1, 0, none⟩ = false := frozen_of_row w1 (z + 1 + 1) 0 _ 41 k2
  have bS : But (· = z + 1 + 1) w1 (w1.setCell ⟨z + 1 + 1, 0, none⟩ (.slice (some ⟨g, 0, none⟩) la la)) := (But.refl (· = z + 1 + 1) w1).setCell (p := ⟨z + 1 + 1, 0, none⟩) rfl _
  obtain ⟨W, hW⟩ : ∃ W, w1.setCell ⟨z + 1 + 1, 0, none⟩ (.slice (some ⟨g, 0, none⟩) la la) = W := ⟨_, rfl⟩
  have k2S : W.heap[z + 1 + 1]? = some (.cells #[.slice (some ⟨g, 0, none⟩) la la, .slice none 0 0] 41 (0, 0)) := by
    rw [← hW]
    have h9 := heap_setCell_same w1 (z + 1 + 1) 0 _ 41 (.slice (some ⟨g, 0, none⟩) la la) k2
    simpa using h9
  rw [hW] at bS
  have l0 := (Array.getElem?_eq_some_iff.1 k0).1
  have l1 := (Array.getElem?_eq_some_iff.1 k1).1
  have k0 := (bS.block z l0 (by omega)).trans k0
  have k1 := (bS.block (z + 1) l1 (by omega)).trans k1
  have hr := bS.row hr (by omega)
  have hbW : Below z w W := hbw1.trans (bS.below (by omega) (fun q hq => by omega))
  have hsW := hbW.size
  have l0 := (Array.getElem?_eq_some_iff.1 k0).1
  have l1 := (Array.getElem?_eq_some_iff.1 k1).1
  have l2 := (Array.getElem?_eq_some_iff.1 k2S).1
  have v1 : W.cell? ⟨z, 1, none⟩ = some (.slice a2 lc c2) := by rw [cell_of_row _ _ _ _ 38 (0, 0) k0]; rfl
  have hl2 : g < W.heap.size := hr.lt
  clear k2 bS hbw1
  go_wp2_with fail
  refine (HZ2.out W (HN2.out.below (by rw [hz]; exact hbW))).mono ?_
  rintro e w2 ⟨h, rfl, hh, hr2, hb2⟩
  have k1 := (hb2.block (z + 1) l1).trans k1
  have k2 := (hb2.block (z + 1 + 1) l2).trans k2S
  have hr := hr.below hb2
  have hb3 : Below z w w2 := by rw [← hz] at hbW ⊢; exact Below.step hbW hb2
  have hs2 := hb2.size
  have o0 : w2.cell? ⟨z + 1 + 1, 0, none⟩ = some (.slice (some ⟨g, 0, none⟩) la la) := by rw [cell_of_row _ _ _ _ 41 (0, 0) k2]; rfl
  have o1 : w2.cell? ⟨z + 1 + 1, 1, none⟩ = some (.slice none 0 0) := by rw [cell_of_row _ _ _ _ 41 (0, 0) k2]; rfl
  have fo : w2.frozen? ⟨z + 1 + 1, 1, none⟩ = false := frozen_of_row w2 (z + 1 + 1) 1 _ 41 k2
  have y0 : w2.cell? ⟨z + 1, 0, none⟩ = some (.slice none 0 0) := by rw [cell_of_row _ _ _ _ 41 (0, 0) k1]; rfl
  have y1 : w2.cell? ⟨z + 1, 1, none⟩ = some (.slice none 0 0) := by rw [cell_of_row _ _ _ _ 41 (0, 0) k1]; rfl
  have fy0 : w2.frozen? ⟨z + 1, 0, none⟩ = false := frozen_of_row w2 (z + 1) 0 _ 41 k1
  have fy1 : w2.frozen? ⟨z + 1, 1, none⟩ = false := frozen_of_row w2 (z + 1) 1 _ 41 k1
  have hbu : But (fun q => q = z + 1 + 1 ∨ q = z + 1) w2 (((w2.setCell ⟨z + 1 + 1, 1, none⟩ (.slice (some ⟨h, 0, none⟩) lc lc)).setCell ⟨z + 1, 0, none⟩ (.slice (some ⟨g, 0, none⟩) la la)).setCell ⟨z + 1, 1, none⟩ (.slice (some ⟨h, 0, none⟩) lc lc)) :=
    (((But.refl (fun q => q = z + 1 + 1 ∨ q = z + 1) w2).setCell (p := ⟨z + 1 + 1, 1, none⟩) (Or.inl rfl) _).setCell (p := ⟨z + 1, 0, none⟩) (Or.inr rfl) _).setCell (p := ⟨z + 1, 1, none⟩) (Or.inr rfl) _
  have HR : Hid (Row (((w2.setCell ⟨z + 1 + 1, 1, none⟩ (.slice (some ⟨h, 0, none⟩) lc lc)).setCell ⟨z + 1, 0, none⟩ (.slice (some ⟨g, 0, none⟩) la la)).setCell ⟨z + 1, 1, none⟩ (.slice (some ⟨h, 0, none⟩) lc lc)) g ka) := hbu.row hr (by omega)
  have HR2 : Hid (Row (((w2.setCell ⟨z + 1 + 1, 1, none⟩ (.slice (some ⟨h, 0, none⟩) lc lc)).setCell ⟨z + 1, 0, none⟩ (.slice (some ⟨g, 0, none⟩) la la)).setCell ⟨z + 1, 1, none⟩ (.slice (some ⟨h, 0, none⟩) lc lc)) h kc) := hbu.row hr2 (by omega)
  have HB : Hid (Below z w (((w2.setCell ⟨z + 1 + 1, 1, none⟩ (.slice (some ⟨h, 0, none⟩) lc lc)).setCell ⟨z + 1, 0, none⟩ (.slice (some ⟨g, 0, none⟩) la la)).setCell ⟨z + 1, 1, none⟩ (.slice (some ⟨h, 0, none⟩) lc lc))) := hb3.trans (hbu.below (by omega) (fun q hq => by omega))
  have hlo := lt_of_cell o0
  have hly := lt_of_cell y0
  clear hr hr2 hbu hb3 hb2 hbW k0 k1 k2 k2S l0 l1 l2 v1 u0 u1 hW
  go_wp2
  refine bodyPost_ret (v := .agg #[.slice (some ⟨g, 0, none⟩) la la, .slice (some ⟨h, 0, none⟩) lc lc]) ?_ rfl ⟨g, h, rfl, by omega, by omega, by omega, HR.out, HR2.out, by rw [hz]; exact HB.out⟩
  simp only [results, Tryz.results18]
  simp [go_sem, y0, y1]

theorem Tryz.infoQ : (Tryz.prog.info? 41).map (fun i => (i.zero, i.size, i.bytes)) = some (some (.agg #[.slice none 0 0, .slice none 0 0]), 2, 48) := by kernel_rfl

theorem make_pairs (n : Nat) (h : n ≤ 1048576) (w : World) :
    (Instr.makeSlice 28 (.int .i64 (n : Int)) (.int .i64 (n : Int))).run Tryz.prog w = .ok (.slice (some ⟨w.heap.size, 0, none⟩) n n) (w.alloc (.cells (madeCells #[.slice none 0 0, .slice none 0 0] (n * 2)) 41)) := by
  obtain ⟨i, hi, hzz⟩ := Option.map_eq_some_iff.1 Tryz.infoQ
  simp only [Prod.mk.injEq] at hzz
  obtain ⟨hz, hs, hb⟩ := hzz
  have hr := run_make (P := Tryz.prog) w 28 41 i _ Tryz.underlying28 hi hz .i64 .i64 n n (by omega) (Int.le_refl _) (by rw [hb]; omega) (by omega)
  simp only [Int.toNat_natCast, hs] at hr
  exact hr

/-- A Pair that is not yet there. -/
def noPair : Value × Value := (.slice none 0 0, .slice none 0 0)

theorem made_pairs (n : Nat) : (madeCells #[.slice none 0 0, .slice none 0 0] (n * 2)).toList = cells2 (List.replicate n noPair) := by
  apply List.ext_getElem?
  intro j
  by_cases hj : j < n * 2
  · have e : j = (j / 2) * 2 + j % 2 := by omega
    have hq : j / 2 < n := by omega
    have hr : j % 2 < 2 := by omega
    generalize j / 2 = q at *
    generalize j % 2 = r at *
    subst e
    obtain ⟨g0, g1⟩ := cells2_get (List.replicate n noPair) q (by simpa using hq)
    have em : (q * 2 + r) % 2 = r := by omega
    simp only [madeCells, Array.toList_map, List.getElem?_map, Array.toList_range]
    rw [List.getElem?_range hj]
    match r, hr with
    | 0, _ => rw [Nat.add_zero, g0]; simp [noPair]
    | 1, _ => rw [g1]; simp [noPair, em]
  · rw [List.getElem?_eq_none (by simp [madeCells]; omega), List.getElem?_eq_none (by simp [cells2_length]; omega)]

/-- The Pairs that lead to the rows gs, two each. -/
def leadQ (gs : List (Nat × Nat)) (ps : List (List Nd × List Nd)) : List (Value × Value) := List.zipWith (fun h p => (.slice (some ⟨h.1, 0, none⟩) p.1.length p.1.length, .slice (some ⟨h.2, 0, none⟩) p.2.length p.2.length)) gs ps

theorem leadQ_step (gs : List (Nat × Nat)) (ps : List (List Nd × List Nd)) (k : Nat) (g' : Nat × Nat) (hk : k < ps.length) (hg : gs.length = k) :
    (leadQ gs (ps.take k) ++ List.replicate (ps.length - k) noPair).set k (.slice (some ⟨g'.1, 0, none⟩) ps[k].1.length ps[k].1.length, .slice (some ⟨g'.2, 0, none⟩) ps[k].2.length ps[k].2.length) =
      leadQ (gs ++ [g']) (ps.take (k + 1)) ++ List.replicate (ps.length - (k + 1)) noPair := by
  have hl : (leadQ gs (ps.take k)).length = k := by simp [leadQ]; omega
  rw [List.set_append_right _ _ (by omega), hl, Nat.sub_self]
  have e2 : ps.length - k = (ps.length - (k + 1)) + 1 := by omega
  rw [e2, List.replicate_succ, List.set_cons_zero, List.take_succ_eq_append_getElem hk]
  have e3 : leadQ (gs ++ [g']) (ps.take k ++ [ps[k]]) = leadQ gs (ps.take k) ++ [(.slice (some ⟨g'.1, 0, none⟩) ps[k].1.length ps[k].1.length, .slice (some ⟨g'.2, 0, none⟩) ps[k].2.length ps[k].2.length)] := by
    unfold leadQ
    rw [List.zipWith_append (by simp; omega)]
    rfl
  rw [e3, List.append_assoc]
  rfl

/-- Block g is a row of Pairs of the call's own. -/
def OwnQ (w : World) (g : Nat) (qs : List (Value × Value)) : Prop := OwnT 41 w g (cells2 qs)

theorem OwnQ.ne {w : World} {g h : Nat} {qs : List (Value × Value)} {ds : List Value} (a : OwnQ w g qs) (b : Own w h ds) : h ≠ g := by
  rintro rfl
  obtain ⟨cur, _, hg, _⟩ := a
  obtain ⟨cur', _, hg', _⟩ := b
  rw [hg] at hg'
  simp at hg'

theorem OwnQ.at {w : World} {g : Nat} {qs : List (Value × Value)} (h : OwnQ w g qs) (i : Nat) (hi : i < qs.length) : w.cell? ⟨g, i * 2, none⟩ = some qs[i].1 ∧ w.cell? ⟨g, i * 2 + 1, none⟩ = some qs[i].2 := by
  have hl := cells2_length qs
  obtain ⟨h1, h2⟩ := cells2_get qs i hi
  exact ⟨(OwnT.at h _ (by omega)).trans h1, (OwnT.at h _ (by omega)).trans h2⟩

theorem OwnQ.put {w : World} {g : Nat} {qs : List (Value × Value)} (h : OwnQ w g qs) (j : Nat) (hj : j < qs.length) (a b : Value) : OwnQ ((w.setCell ⟨g, j * 2, none⟩ a).setCell ⟨g, j * 2 + 1, none⟩ b) g (qs.set j (a, b)) := by
  have hl := cells2_length qs
  have h9 := OwnT.set (OwnT.set h (j * 2) a (by omega)) (j * 2 + 1) b (by simp; omega)
  rw [cells2_set qs j (a, b)] at h9
  exact h9

/-- The rows of k Pairs, no two of them one. -/
structure RowsQ (w : World) (gs : List (Nat × Nat)) (ps : List (List Nd × List Nd)) (lo hi : Nat) : Prop where
  len : gs.length = ps.length
  rows : ∀ i (h : i < gs.length) (h' : i < ps.length), Row w gs[i].1 ps[i].1 ∧ Row w gs[i].2 ps[i].2
  inn : ∀ i (h : i < gs.length), (lo ≤ gs[i].1 ∧ gs[i].1 < hi) ∧ lo ≤ gs[i].2 ∧ gs[i].2 < hi
  two : ∀ i (h : i < gs.length), gs[i].1 ≠ gs[i].2
  apart : ∀ i j (h : i < gs.length) (h' : j < gs.length), i < j → gs[i].1 ≠ gs[j].1 ∧ gs[i].1 ≠ gs[j].2 ∧ gs[i].2 ≠ gs[j].1 ∧ gs[i].2 ≠ gs[j].2

theorem RowsQ.below {w w' : World} {gs : List (Nat × Nat)} {ps : List (List Nd × List Nd)} {lo hi : Nat} (h : RowsQ w gs ps lo hi) (hb : Below w.heap.size w w') : RowsQ w' gs ps lo hi :=
  ⟨h.len, fun i a b => ⟨(h.rows i a b).1.below hb, (h.rows i a b).2.below hb⟩, h.inn, h.two, h.apart⟩

theorem RowsQ.snoc {w : World} {gs : List (Nat × Nat)} {ps : List (List Nd × List Nd)} {lo hi hi' : Nat} {p : List Nd × List Nd} {g : Nat × Nat} (h : RowsQ w gs ps lo hi) (hlo : lo ≤ hi) (r1 : Row w g.1 p.1) (r2 : Row w g.2 p.2) (h1 : hi ≤ g.1 ∧ g.1 < hi') (h2 : hi ≤ g.2 ∧ g.2 < hi') (hne : g.1 ≠ g.2) : RowsQ w (gs ++ [g]) (ps ++ [p]) lo hi' := by
  have key : ∀ i (hi1 : i < (gs ++ [g]).length), (∃ h0 : i < gs.length, (gs ++ [g])[i] = gs[i]) ∨ (i = gs.length ∧ (gs ++ [g])[i] = g) := by
    intro i hi1
    by_cases h0 : i < gs.length
    · exact .inl ⟨h0, List.getElem_append_left h0⟩
    · have e : i = gs.length := by simp at hi1; omega
      subst e
      exact .inr ⟨rfl, by simp⟩
  refine ⟨by simp [h.len], fun i a b => ?_, fun i a => ?_, fun i a => ?_, fun i j a b hij => ?_⟩
  · rcases key i a with ⟨h0, e⟩ | ⟨h0, e⟩
    · have h0' : i < ps.length := by have := h.len; omega
      have e2 : (ps ++ [p])[i] = ps[i] := List.getElem_append_left h0'
      rw [e, e2]
      exact h.rows i h0 h0'
    · have e2 : (ps ++ [p])[i] = p := by
        have e3 : i = ps.length := by have := h.len; omega
        subst e3
        simp
      rw [e, e2]
      exact ⟨r1, r2⟩
  · rcases key i a with ⟨h0, e⟩ | ⟨h0, e⟩
    · rw [e]
      have := h.inn i h0
      omega
    · rw [e]
      omega
  · rcases key i a with ⟨h0, e⟩ | ⟨h0, e⟩
    · rw [e]
      exact h.two i h0
    · rw [e]
      exact hne
  · rcases key i a with ⟨h0, e⟩ | ⟨h0, e⟩
    · rcases key j b with ⟨h3, e3⟩ | ⟨h3, e3⟩
      · rw [e, e3]
        exact h.apart i j h0 h3 hij
      · rw [e, e3]
        have := h.inn i h0
        omega
    · rcases key j b with ⟨h3, e3⟩ | ⟨h3, e3⟩ <;> omega

theorem RowsQ.putQ {w : World} {gs : List (Nat × Nat)} {ps : List (List Nd × List Nd)} {lo hi g : Nat} {qs : List (Value × Value)} (h : RowsQ w gs ps lo hi) (ho : OwnQ w g qs) (j : Nat) (a b : Value) : RowsQ ((w.setCell ⟨g, j * 2, none⟩ a).setCell ⟨g, j * 2 + 1, none⟩ b) gs ps lo hi := by
  have hb : But (· = g) w ((w.setCell ⟨g, j * 2, none⟩ a).setCell ⟨g, j * 2 + 1, none⟩ b) := ((But.refl (· = g) w).setCell (p := ⟨g, j * 2, none⟩) rfl a).setCell (p := ⟨g, j * 2 + 1, none⟩) rfl b
  exact ⟨h.len, fun i x y => ⟨hb.row (h.rows i x y).1 (ho.ne (h.rows i x y).1), hb.row (h.rows i x y).2 (ho.ne (h.rows i x y).2)⟩, h.inn, h.two, h.apart⟩

/-- All of it. -/
structure TwoQ (w : World) (g : Nat) (gs : List (Nat × Nat)) (ps : List (List Nd × List Nd)) (lo hi : Nat) : Prop where
  lead : OwnQ w g (leadQ gs ps)
  rows : RowsQ w gs ps lo hi
  gin : lo ≤ g ∧ g < hi

theorem TwoQ.below {w w' : World} {g : Nat} {gs : List (Nat × Nat)} {ps : List (List Nd × List Nd)} {lo hi : Nat} (h : TwoQ w g gs ps lo hi) (hb : Below w.heap.size w w') : TwoQ w' g gs ps lo hi :=
  ⟨OwnT.below h.lead hb, h.rows.below hb, h.gin⟩

theorem TwoQ.get {w : World} {g : Nat} {gs : List (Nat × Nat)} {ps : List (List Nd × List Nd)} {lo hi : Nat} (h : TwoQ w g gs ps lo hi) (i : Nat) (hi' : i < ps.length) (hg : i < gs.length) :
    w.cell? ⟨g, i * 2, none⟩ = some (.slice (some ⟨gs[i].1, 0, none⟩) ps[i].1.length ps[i].1.length) ∧ w.cell? ⟨g, i * 2 + 1, none⟩ = some (.slice (some ⟨gs[i].2, 0, none⟩) ps[i].2.length ps[i].2.length) := by
  obtain ⟨h1, h2⟩ := h.lead.at i (by simp [leadQ]; omega)
  refine ⟨?_, ?_⟩
  · rw [h1]; simp [leadQ]
  · rw [h2]; simp [leadQ]

theorem TwoQ.pairs {w : World} {g : Nat} {gs : List (Nat × Nat)} {ps : List (List Nd × List Nd)} {lo hi : Nat} (h : TwoQ w g gs ps lo hi) : Pairs w (some ⟨g, 0, none⟩) ps := by
  intro i hi'
  have hg : i < gs.length := by have := h.rows.len; omega
  obtain ⟨h1, h2⟩ := h.get i hi' hg
  obtain ⟨r1, r2⟩ := h.rows.rows i hg hi'
  exact ⟨g, 0, _, _, _, _, rfl, by rw [Nat.zero_add]; exact h1, by rw [Nat.zero_add]; exact h2, r1.nodes, r2.nodes⟩

set_option maxRecDepth 20000 in
set_option maxHeartbeats 1000000 in
theorem toPairS_any (ps : List (List Nd × List Nd)) (n : Nat) (HN : Hid (ps.length = n)) (ao : Option Addr) (cap : Nat) (w : World) (hx : Pairs w ao ps) (hm : ∀ p ∈ ps, p.1.length ≤ 1048576 ∧ p.2.length ≤ 1048576) (hlen : n ≤ 1048576) :
    Calls Tryz.prog 6 #[.slice ao n cap] w fun e w' =>
      ∃ g gs, e = .returned (.slice (some ⟨g, 0, none⟩) n n) ∧ TwoQ w' g gs ps w.heap.size w'.heap.size ∧ Below w.heap.size w w' := by
  have hmk := make_pairs n hlen
  go_enter Tryz.func6, Tryz.ntmps6
  go_wp2
  clear hmk
  go_loopw [4] (fun i wr => ∃ (k : Nat) (gs : List (Nat × Nat)), k ≤ n ∧ i = .int .i64 k ∧ OwnQ wr w.heap.size (leadQ gs (ps.take k) ++ List.replicate (ps.length - k) noPair) ∧ RowsQ wr gs (ps.take k) w.heap.size wr.heap.size ∧ Below w.heap.size w wr) (fun i _ => n - (intOf i).toNat)
  case atStart => exact ⟨0, [], Nat.zero_le _, rfl, ⟨_, [], heap_alloc_new _ _, by rw [made_pairs, HN.out]; simp [leadQ]⟩, ⟨by simp, fun i hi => by simp at hi, fun i hi => by simp at hi, fun i hi => by simp at hi, fun i j hi => by simp at hi⟩, (Below.refl _ _).alloc (Nat.le_refl _) _⟩
  case round =>
    obtain ⟨k, gs, hk, rfl, hown, hrows, hb⟩ := hrel
    by_cases hlt : k < n
    · have hltk : k < ps.length := by have := HN.out; omega
      obtain ⟨b, o, a1, c1, a2, c2, rfl, e1, e2, hn1, hn2⟩ := hx.below hb k hltk
      have hmk := hm ps[k] (List.getElem_mem hltk)
      have hgl : gs.length = k := by have := hrows.len; simp at this; omega
      have HST := leadQ_step gs ps k
      have HTK : Hid (ps.take (k + 1) = ps.take k ++ [ps[k]]) := List.take_succ_eq_append_getElem hltk
      obtain ⟨⟨ka, kc⟩, hbk⟩ : ∃ p, ps[k] = p := ⟨_, rfl⟩
      have HST2 : Hid (∀ g' : Nat × Nat, (leadQ gs (ps.take k) ++ List.replicate (ps.length - k) noPair).set k (.slice (some ⟨g'.1, 0, none⟩) ka.length ka.length, .slice (some ⟨g'.2, 0, none⟩) kc.length kc.length) = leadQ (gs ++ [g']) (ps.take (k + 1)) ++ List.replicate (ps.length - (k + 1)) noPair) := by
        intro g'
        have h9 := HST g' hltk hgl
        rw [hbk] at h9
        exact h9
      rw [hbk] at e1 e2 hn1 hn2 hmk HTK
      simp only at e1 e2 hn1 hn2 hmk
      obtain ⟨la, hla⟩ : ∃ l, ka.length = l := ⟨_, rfl⟩
      obtain ⟨lc, hlc⟩ : ∃ l, kc.length = l := ⟨_, rfl⟩
      have HLA : Hid (ka.length = la) := hla
      have HLC : Hid (kc.length = lc) := hlc
      rw [hla] at e1 hmk HST2
      rw [hlc] at e2 hmk HST2
      clear hx hm HST hla hlc hbk
      have HGL : Hid (gs.length = k) := hgl
      clear hgl
      go_wp2_with fail
      refine (toPair_any ka kc la lc HLA HLC a1 a2 c1 c2 wr hn1 hn2 hmk.1 hmk.2).mono ?_
      rintro e w1 ⟨g1, g2, rfl, hg1, hg2, hne, hr1, hr2, hb1⟩
      have o1 : OwnQ w1 w.heap.size _ := OwnT.below hown hb1
      have f0 := OwnT.frozen o1 (k * 2)
      have f1 := OwnT.frozen o1 (k * 2 + 1)
      have hll : k < (leadQ gs (ps.take k) ++ List.replicate (ps.length - k) noPair).length := by
        have := HGL.out; simp [leadQ]; omega
      obtain ⟨z0, z1⟩ := o1.at k hll
      have r1 := (hrows.below hb1).snoc (g := (g1, g2)) (p := (ka, kc)) (hi' := w1.heap.size) hb.size hr1 hr2 ⟨hg1, hr1.lt⟩ ⟨hg2, hr2.lt⟩ hne
      rw [← HTK.out] at r1
      have r2 := r1.putQ o1 k (.slice (some ⟨g1, 0, none⟩) la la) (.slice (some ⟨g2, 0, none⟩) lc lc)
      have o2 := o1.put k hll (.slice (some ⟨g1, 0, none⟩) la la) (.slice (some ⟨g2, 0, none⟩) lc lc)
      rw [HST2.out (g1, g2)] at o2
      have hbb := ((Below.step hb hb1).setCell (p := ⟨w.heap.size, k * 2, none⟩) (Nat.le_refl _) (.slice (some ⟨g1, 0, none⟩) la la)).setCell (p := ⟨w.heap.size, k * 2 + 1, none⟩) (Nat.le_refl _) (.slice (some ⟨g2, 0, none⟩) lc lc)
      have hsz : ((w1.setCell ⟨w.heap.size, k * 2, none⟩ (.slice (some ⟨g1, 0, none⟩) la la)).setCell ⟨w.heap.size, k * 2 + 1, none⟩ (.slice (some ⟨g2, 0, none⟩) lc lc)).heap.size = w1.heap.size := by rw [size_setCell, size_setCell]
      have HR2 : Hid (RowsQ ((w1.setCell ⟨w.heap.size, k * 2, none⟩ (.slice (some ⟨g1, 0, none⟩) la la)).setCell ⟨w.heap.size, k * 2 + 1, none⟩ (.slice (some ⟨g2, 0, none⟩) lc lc)) (gs ++ [(g1, g2)]) (ps.take (k + 1)) w.heap.size ((w1.setCell ⟨w.heap.size, k * 2, none⟩ (.slice (some ⟨g1, 0, none⟩) la la)).setCell ⟨w.heap.size, k * 2 + 1, none⟩ (.slice (some ⟨g2, 0, none⟩) lc lc)).heap.size) := by
        rw [hsz]
        exact r2
      generalize (leadQ gs (ps.take k) ++ List.replicate (ps.length - k) noPair)[k].1 = v0 at z0
      generalize (leadQ gs (ps.take k) ++ List.replicate (ps.length - k) noPair)[k].2 = v1 at z1
      clear hr1 hr2 hown hrows hb hb1 o1 r1 e1 e2 hn1 hn2 hll r2 hsz
      go_wp2
      go_roundw
      case rel => exact ⟨k + 1, gs ++ [(g1, g2)], by omega, by go_num, o2, HR2.out, hbb⟩
      case measure => simp [intOf]; omega
    · have hke : k = n := by omega
      subst hke
      have HE : Hid (ps.take k = ps) := List.take_of_length_le (by have := HN.out; omega)
      have HT : Hid (TwoQ wr w.heap.size gs ps w.heap.size wr.heap.size) := by
        rw [HE.out] at hown hrows
        have e : ps.length - k = 0 := by have := HN.out; omega
        rw [e] at hown
        exact ⟨by simpa using hown, hrows, Nat.le_refl _, OwnT.lt hown⟩
      clear hx hm hown hrows
      go_wp2
      go_ret
      exact ⟨_, gs, rfl, HT.out, hb⟩

end Go.Proofs.YtoghngfkmhfimaaGreatDoor
