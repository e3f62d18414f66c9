import Derived.Test.YtedlofpgddjpgaaGreatWAT
import Derived.Deep.RegionHeld3
import Derived.BigQuiet
import Derived.BigGuard
namespace Go.Proofs.YtedlofpgddjpgaaGreat
open Go.RowKit
set_option maxRecDepth 20000 in
set_option maxHeartbeats 4000000 in
theorem binds_any : ∀ (T : Tre) (s : Sl3) (A : Nat → Prop) (w : World), SRep w A T s →
    Calls Tryz.prog 69 #[.agg (sv T s).toArray] w fun e w' => e = .returned (.bool (bindsT T)) ∧ Below w.heap.size w w' := by
  intro T
  refine Tre.ind (p := fun T => ∀ (s : Sl3) (A : Nat → Prop) (w : World), SRep w A T s → Calls Tryz.prog 69 #[.agg (sv T s).toArray] w fun e w' => e = .returned (.bool (bindsT T)) ∧ Below w.heap.size w w') ?_ T
  intro n ks ih s A w hR
  obtain ⟨so, sl, sc⟩ := s
  obtain ⟨h1, h2, h3, h4⟩ := hR.skids
  simp only [Tre.ks] at h1 h2 h3 h4
  subst h1
  have HV : Hid (bindsT (.mk n ks) = (n.kind == 90 || n.kind == 91 || ks.any bindsT)) := bindsT_eq n ks
  obtain ⟨q, hq⟩ : ∃ q, ks.length = q := ⟨_, rfl⟩
  have HQ : Hid (ks.length = q) := hq
  obtain ⟨kb, hkb⟩ : ∃ kb, knT (.mk n ks) = kb := ⟨_, rfl⟩
  have hsv : (sv (.mk n ks) (so, ks.length, sc)).toArray = #[.int .i64 n.kind, .int .i64 n.num, .string n.text, .int .i64 n.kids, .int .i64 n.place, .slice so q sc, .bool kb] := by
    simp [sv, Tre.nd, hkb, hq]
  rw [hsv]
  rw [hq] at h2 h3
  have HKS : Hid (∀ j (h : j < ks.length), ∃ g sj, so = some ⟨g, 0, none⟩ ∧ A g ∧ Row7 w g (j * 7) ks[j] sj ∧ SRep w A ks[j] sj) := h4
  have HIH : Hid (∀ k ∈ ks, ∀ (s : Sl3) (A : Nat → Prop) (w : World), SRep w A k s → Calls Tryz.prog 69 #[.agg (sv k s).toArray] w fun e w' => e = .returned (.bool (bindsT k)) ∧ Below w.heap.size w w') := ih
  clear hR h4 hq hkb hsv ih
  obtain ⟨kd, nm, tx, kk, pl⟩ := n
  simp only at HV ⊢
  have bW := (Below.refl w.heap.size w).alloc (Nat.le_refl _) (.cells #[.int .i64 kd, .int .i64 nm, .string tx, .int .i64 kk, .int .i64 pl, .slice so q sc, .bool kb] 59)
  by_cases h90 : kd = 90
  · subst h90
    have HK : Hid (bindsT (.mk ⟨90, nm, tx, kk, pl⟩ ks) = true) := by show _ = _; rw [HV.out]; rfl
    go_enter Tryz.func69, Tryz.ntmps69
    go_wp2
    go_ret
    exact ⟨by rw [HK.out]; rfl, bW⟩
  have t90 : (kd == 90) = false := by simpa using h90
  by_cases h91 : kd = 91
  · subst h91
    have HK : Hid (bindsT (.mk ⟨91, nm, tx, kk, pl⟩ ks) = true) := by show _ = _; rw [HV.out]; rfl
    go_enter Tryz.func69, Tryz.ntmps69
    go_wp2
    go_ret
    exact ⟨by rw [HK.out]; rfl, bW⟩
  have t91 : (kd == 91) = false := by simpa using h91
  have HK : Hid (bindsT (.mk ⟨kd, nm, tx, kk, pl⟩ ks) = ks.any bindsT) := by show _ = _; rw [HV.out, t90, t91]; rfl
  clear HV
  have hW0 : (w.alloc (.cells #[.int .i64 kd, .int .i64 nm, .string tx, .int .i64 kk, .int .i64 pl, .slice so q sc, .bool kb] 59)).heap[w.heap.size]? = some (.cells #[.int .i64 kd, .int .i64 nm, .string tx, .int .i64 kk, .int .i64 pl, .slice so q sc, .bool kb] 59 (0, 0)) := heap_alloc_new _ _
  have HW0 : Hid _ := hW0
  clear hW0
  go_enter Tryz.func69, Tryz.ntmps69
  go_wp2
  have hW0 := HW0.out
  clear HW0
  generalize w.alloc (.cells #[.int .i64 kd, .int .i64 nm, .string tx, .int .i64 kk, .int .i64 pl, .slice so q sc, .bool kb] 59) = W0 at hW0 bW ⊢
  have lz : w.heap.size < W0.heap.size := (Array.getElem?_eq_some_iff.1 hW0).1
  go_loopw [3] (fun v wr => ∃ k : Nat, k ≤ q ∧ v = .int .i64 (k : Int) ∧ (ks.take k).any bindsT = false ∧ Below W0.heap.size W0 wr) (fun v _ => q - (intOf v).toNat)
  case atStart => exact ⟨0, Nat.zero_le _, rfl, by simp, Below.refl _ _⟩
  case round =>
    obtain ⟨k, hk, rfl, hall, hb⟩ := hrel
    have hblk := (hb.block _ lz).trans hW0
    have c5 : wr.cell? ⟨w.heap.size, 5, none⟩ = some (.slice so q sc) := by rw [cell_of_row _ _ _ _ _ _ hblk]; rfl
    have lzr : w.heap.size < wr.heap.size := lt_of_cell c5
    have hbw := Below.step bW hb
    have HALL : Hid ((ks.take k).any bindsT = false) := hall
    clear hblk hall
    by_cases hkq : k < q
    · have hkl : k < ks.length := by have := HQ.out; omega
      obtain ⟨g, sj, hso, -, hrow, hrep⟩ := HKS.out k hkl
      subst hso
      have hCL := HIH.out ks[k] (List.getElem_mem hkl) sj A wr (hrep.under hbw)
      obtain ⟨d0, d1, d2, d3, d4, d5, d6⟩ := hrow.but (But.ofBelow (S := fun _ => False) hbw) (fun h => h)
      have lg : g < wr.heap.size := lt_of_cell d0
      obtain ⟨T, hT⟩ : ∃ T, ks[k] = T := ⟨_, rfl⟩
      have HTT : Hid (ks[k] = T) := hT
      rw [hT] at hCL d0 d1 d2 d3 d4 d6
      simp only [sv] at hCL
      obtain ⟨v, hv⟩ : ∃ v, bindsT T = v := ⟨_, rfl⟩
      rw [hv] at hCL
      clear hrow hrep hT
      cases v
      · have HS : Hid ((ks.take (k + 1)).any bindsT = false) := by
          show _ = _
          rw [List.take_succ_eq_append_getElem hkl, List.any_append, HALL.out, HTT.out]
          simp [hv]
        clear hv
        go_wp2_with fail
        refine hCL.mono ?_
        rintro e w2 ⟨rfl, hb2⟩
        have hbb := Below.step hb hb2
        clear hCL hb2 c5 d0 d1 d2 d3 d4 d5 d6 hb hbw
        go_wp2
        go_roundw
        case rel => exact ⟨k + 1, by omega, by go_num, HS.out, hbb⟩
        case measure => simp [intOf]; omega
      · have HS : Hid (bindsT (.mk ⟨kd, nm, tx, kk, pl⟩ ks) = true) := by
          show _ = _
          rw [HK.out, List.any_eq_true]
          exact ⟨T, by rw [← HTT.out]; exact List.getElem_mem hkl, hv⟩
        clear hv
        go_wp2_with fail
        refine hCL.mono ?_
        rintro e w2 ⟨rfl, hb2⟩
        have hbb := Below.step hbw hb2
        clear hCL hb2 c5 d0 d1 d2 d3 d4 d5 d6 hb hbw
        go_wp2
        go_ret
        exact ⟨by rw [HS.out]; rfl, hbb⟩
    · have HS : Hid (bindsT (.mk ⟨kd, nm, tx, kk, pl⟩ ks) = false) := by
        show _ = _
        have h9 := HALL.out
        rw [List.take_of_length_le (by have := HQ.out; omega)] at h9
        rw [HK.out, h9]
      go_wp2
      go_ret
      exact ⟨by rw [HS.out]; rfl, hbw⟩
end Go.Proofs.YtedlofpgddjpgaaGreat
