import Derived.Test.YtekogjmmfhbinaaKnI
namespace Go.Proofs.Ytekogjmmfhbinaa

open Go.RowKit

theorem two_of {α : Type} {l : List α} (h : l.length = 2) : ∃ a b, l = [a, b] := by
  match l, h with
  | [a, b], _ => exact ⟨a, b, rfl⟩

set_option maxRecDepth 20000 in
set_option maxHeartbeats 4000000 in
theorem isKnown_any (t : List Nd) (m : Nat) (hm : m ≤ 60000) (S ys : List Sp) (HA : Hid (after t m = some (S, ys))) (HAPP : Hid (∀ i, i < m → (ndAt t i).kind = 77 → (kidsRt t i).length = 2)) :
    ∀ (f i b : Nat) (w : World) (A : Nat → Prop), i < f → i < m → TreeAt t w A b i → Calls Try.prog 20 #[.pointer (some ⟨b, 0, none⟩)] w fun e w' => e = .returned (.bool (kn t f i)) ∧ Below w.heap.size w w' := by
  intro f
  induction f with
  | zero => intro i b w A h; exact absurd h (Nat.not_lt_zero _)
  | succ f ih =>
    intro i b w A hif him hT
    obtain ⟨bs, g, c, cur, -, -, blk, row, cells, cap, len, kids⟩ := hT.inv
    have hlt := kidsRt_lt HA.out him
    have cK : w.cell? ⟨b, 0, none⟩ = some (.int .i64 (ndAt t i).kind) := by rw [cell_of_row _ _ _ _ 62 (0, 0) blk]; rfl
    have c5 : w.cell? ⟨b, 5, none⟩ = some (.slice (some ⟨g, 0, none⟩) bs.length c) := by rw [cell_of_row _ _ _ _ 62 (0, 0) blk]; rfl
    have hlb : b < w.heap.size := lt_of_cell cK
    have HROW : Hid (w.heap[g]? = some (.cells cur 42 (0, 0))) := row
    have HCELLS : Hid (∀ j (h : j < bs.length), cur[j]? = some (.pointer (some ⟨bs[j], 0, none⟩))) := cells
    have HKIDS : Hid (∀ j (h : j < bs.length) (h' : j < (kidsRt t i).length), TreeAt t w A bs[j] (kidsRt t i)[j]) := kids
    have HLT : Hid (∀ r ∈ kidsRt t i, r < i) := hlt
    have HLEN : Hid (bs.length = (kidsRt t i).length) := len
    have HIH : Hid (∀ (i b : Nat) (w : World) (A : Nat → Prop), i < f → i < m → TreeAt t w A b i → Calls Try.prog 20 #[.pointer (some ⟨b, 0, none⟩)] w fun e w' => e = .returned (.bool (kn t f i)) ∧ Below w.heap.size w w') := ih
    have HV : Hid (kn t (f + 1) i = (if (ndAt t i).kind = 72 ∨ (ndAt t i).kind = 73 ∨ (ndAt t i).kind = 74 then true
      else if (ndAt t i).kind = 75 then (kidsRt t i).all (kn t f)
      else (ndAt t i).kind == 77 && ((ndAt t ((kidsRt t i).getD 0 0)).kind == 74 && kn t f ((kidsRt t i).getD 1 0)))) := rfl
    have HAP : Hid ((ndAt t i).kind = 77 → (kidsRt t i).length = 2) := HAPP.out i him
    obtain ⟨kd, hkd⟩ : ∃ kd, (ndAt t i).kind = kd := ⟨_, rfl⟩
    rw [hkd] at cK HV HAP
    obtain ⟨n, hn⟩ : ∃ n, bs.length = n := ⟨_, rfl⟩
    have HN : Hid (bs.length = n) := hn
    rw [hn] at c5 cap
    have hnm : n ≤ 60000 := by
      obtain ⟨Si, hSi, hk, hK⟩ := kids_atS HA.out i him
      have h9 := HLEN.out
      rw [kidsRt_eq hSi hk, List.length_map] at h9
      have h8 := hK.len
      omega
    clear ih blk row cells kids hlt len hkd hn
    by_cases h7 : kd = 72 ∨ kd = 73 ∨ kd = 74
    · have HR : Hid (kn t (f + 1) i = true) := by show _ = _; rw [HV.out, if_pos h7]
      clear HV c5
      have hbr := Below.refl w.heap.size w
      rcases h7 with rfl | rfl | rfl
      all_goals
        go_enter Try.func20, Try.ntmps20
        go_wp2
        go_ret
        exact ⟨by rw [HR.out]; rfl, hbr⟩
    have t72 : (kd == 72) = false := by simp; omega
    have t73 : (kd == 73) = false := by simp; omega
    have t74 : (kd == 74) = false := by simp; omega
    by_cases h75 : kd = 75
    · subst h75
      have HR : Hid (kn t (f + 1) i = !((List.range n).any fun j => !(kn t f ((kidsRt t i).getD j 0)))) := by
        show _ = _
        rw [HV.out, if_neg h7, if_pos rfl, all_range_kids (n := n) (by have := HLEN.out; have := HN.out; omega)]
      have HC := containsU_any bs n c g HN hnm cap (fun j => !(kn t f ((kidsRt t i).getD j 0))) w cur HROW.out HCELLS (by
        intro j h wr hb
        have hj : j < (kidsRt t i).length := by have := HLEN.out; omega
        have e : (kidsRt t i).getD j 0 = (kidsRt t i)[j] := by simp [hj]
        have hl := HLT.out _ (List.getElem_mem hj)
        rw [e]
        exact isUnknown_of (HIH.out _ _ wr A (by omega) (by omega) ((HKIDS.out j h hj).under hb)))
      clear HV
      go_enter Try.func20, Try.ntmps20
      go_wp2_with fail
      refine HC.mono ?_
      rintro e w1 ⟨rfl, hb1⟩
      clear HC
      go_wp2
      go_ret
      exact ⟨by rw [HR.out]; rfl, hb1⟩
    have t75 : (kd == 75) = false := by simpa using h75
    by_cases h77 : kd = 77
    rotate_left
    · have t77 : (kd == 77) = false := by simpa using h77
      have HR : Hid (kn t (f + 1) i = false) := by show _ = _; rw [HV.out, if_neg h7, if_neg h75, t77]; rfl
      have hbr := Below.refl w.heap.size w
      clear HV
      go_enter Try.func20, Try.ntmps20
      go_wp2
      go_ret
      exact ⟨by rw [HR.out]; rfl, hbr⟩
    subst h77
    have hn2 : n = 2 := by have := HAP.out rfl; have := HLEN.out; have := HN.out; omega
    subst hn2
    obtain ⟨b0, b1, rfl⟩ : ∃ b0 b1, bs = [b0, b1] := two_of HN.out
    obtain ⟨r0, r1, hr⟩ : ∃ r0 r1, kidsRt t i = [r0, r1] := two_of (HAP.out rfl)
    have HK0 : Hid (TreeAt t w A b0 r0) := by have h9 := HKIDS.out 0 (by simp) (by simp [hr]); exact (by simpa [hr] using h9 : TreeAt t w A _ _)
    have HK1 : Hid (TreeAt t w A b1 r1) := by have h9 := HKIDS.out 1 (by simp) (by simp [hr]); exact (by simpa [hr] using h9 : TreeAt t w A _ _)
    have hl1 : r1 < i := HLT.out r1 (by rw [hr]; simp)
    have p0 : w.cell? ⟨g, 0, none⟩ = some (.pointer (some ⟨b0, 0, none⟩)) := by
      rw [cell_of_row _ _ _ _ 42 (0, 0) HROW.out]; exact HCELLS.out 0 (by simp)
    have p1 : w.cell? ⟨g, 1, none⟩ = some (.pointer (some ⟨b1, 0, none⟩)) := by
      rw [cell_of_row _ _ _ _ 42 (0, 0) HROW.out]; exact HCELLS.out 1 (by simp)
    have q0 : w.cell? ⟨b0, 0, none⟩ = some (.int .i64 (ndAt t r0).kind) := by
      obtain ⟨_, _, _, _, -, -, blk0, -⟩ := HK0.out.inv
      rw [cell_of_row _ _ _ _ 62 (0, 0) blk0]; rfl
    have lg : g < w.heap.size := lt_of_cell p0
    have lb0 : b0 < w.heap.size := lt_of_cell q0
    have HR : Hid (kn t (f + 1) i = ((ndAt t r0).kind == 74 && kn t f r1)) := by
      show _ = _
      rw [HV.out, if_neg h7, if_neg h75, hr]
      simp
    obtain ⟨k0, hk0⟩ : ∃ k0, (ndAt t r0).kind = k0 := ⟨_, rfl⟩
    rw [hk0] at q0 HR
    clear HV HAP HCELLS HROW HKIDS HLT HLEN hr hk0
    by_cases h74 : k0 = 74
    · subst h74
      obtain ⟨v, hv⟩ : ∃ v, kn t f r1 = v := ⟨_, rfl⟩
      rw [hv] at HR
      have HC : Hid (∀ wr, Below w.heap.size w wr → Calls Try.prog 20 #[.pointer (some ⟨b1, 0, none⟩)] wr fun e w' => e = .returned (.bool v) ∧ Below wr.heap.size wr w') := by
        intro wr hb
        rw [← hv]
        exact HIH.out r1 b1 wr A (by omega) (by omega) (HK1.out.under hb)
      clear hv HIH HK0 HK1
      go_enter Try.func20, Try.ntmps20
      go_wp2_with fail
      refine (HC.out w (Below.refl _ _)).mono ?_
      rintro e w1 ⟨rfl, hb1⟩
      clear HC
      cases v
      all_goals
        go_wp2
        go_ret
        exact ⟨by rw [HR.out]; rfl, hb1⟩
    · have t0 : (k0 == 74) = false := by simpa using h74
      rw [t0] at HR
      clear HIH HK0 HK1
      go_enter Try.func20, Try.ntmps20
      have hbr := Below.refl w.heap.size w
      go_wp2
      go_ret
      exact ⟨by rw [HR.out]; rfl, hbr⟩

end Go.Proofs.Ytekogjmmfhbinaa
