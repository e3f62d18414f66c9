
import Derived.Test.YtljdcaoibnikjaaSchA
namespace Go.Proofs.Ytljdcaoibnikjaa
open Go.RowKit

theorem map_take_succ {α β : Type} (f : α → β) (t : List α) (k : Nat) (h : k < t.length) : (t.take (k + 1)).map f = (t.take k).map f ++ [f t[k]] := by
  rw [List.take_succ_eq_append_getElem h, List.map_append]
  rfl

set_option maxRecDepth 100000 in
set_option maxHeartbeats 4000000 in
theorem specScheme_any (nm nd fr ct : Int) (na : ByteArray) (t : List Nd) (m : Nat) (HM : Hid (t.length = m)) (hm : m ≤ 1048576) (HW : Hid (∀ n ∈ t, (Lit.int .i64 n.num).wf = true)) (ao : Option Addr) (cap : Nat) (w : World) (hx : Nodes w ao t) :
    Calls Try.prog 15 #[.agg #[.int .i64 nm, .string na, .int .i64 nd, .int .i64 fr, .int .i64 ct, .slice ao m cap]] w fun e w' => ∃ g c l, e = .returned (.slice (some ⟨g, 0, none⟩) l c) ∧ w.heap.size ≤ g ∧ (schemeOf fr ct t).length = l ∧ Row w' g (schemeOf fr ct t) ∧ Below w.heap.size w w' := by
  obtain ⟨i0, hi, hz0, hz1, hz2⟩ := info_parts Try.infoN
  have hA : Below w.heap.size w (w.alloc (.cells #[.int .i64 nm, .string na, .int .i64 nd, .int .i64 fr, .int .i64 ct, .slice ao m cap] 39)) := (Below.refl _ w).alloc (Nat.le_refl _) _
  have hKA : (w.alloc (.cells #[.int .i64 nm, .string na, .int .i64 nd, .int .i64 fr, .int .i64 ct, .slice ao m cap] 39)).heap[w.heap.size]? = some (.cells #[.int .i64 nm, .string na, .int .i64 nd, .int .i64 fr, .int .i64 ct, .slice ao m cap] 39 (0, 0)) := heap_alloc_new _ _
  have hZA : (w.alloc (.cells #[.int .i64 nm, .string na, .int .i64 nd, .int .i64 fr, .int .i64 ct, .slice ao m cap] 39)).heap.size = w.heap.size + 1 := by simp
  have HG := specGround_any t m HM hm ao cap _ (hx.below hA)
  cases hg : groundOf t
  · rw [hg] at HG
    have HV : Hid (schemeOf fr ct t = []) := by simp [Hid, schemeOf, hg]
    clear hx
    go_enter Try.func15, Try.ntmps15
    go_wp2_with fail
    refine HG.mono ?_
    rintro e w1 ⟨rfl, hb1⟩
    have hb := Below.step hA hb1
    have hO := (OwnN.empty (w := w1) (B := w.heap.size) hb.size).row
    clear HG hA hb1
    go_wp2
    go_ret
    exact ⟨_, _, _, rfl, hO.1, by rw [HV.out]; rfl, by rw [HV.out]; exact hO.2, hb.alloc hb.size _⟩
  · rw [hg] at HG
    have h300 : m ≤ 300 := by have := ground_span hg; have := HM.out; omega
    by_cases hc : 0 ≤ ct ∧ ct ≤ 1000000 ∧ 0 ≤ fr ∧ fr ≤ 1000000
    · obtain ⟨c1, c2, c3, c4⟩ := hc
      have HV : Hid (schemeOf fr ct t = canonOf (t.map (schNode fr ct))) := by
        have e1 : countb fr = true := by simp [countb]; omega
        have e2 : countb ct = true := by simp [countb]; omega
        simp [Hid, schemeOf, hg, e1, e2]
      clear hg
      go_enter Try.func15, Try.ntmps15
      go_wp2_with fail
      generalize w.alloc (.cells #[.int .i64 nm, .string na, .int .i64 nd, .int .i64 fr, .int .i64 ct, .slice ao m cap] 39) = wA at *
      refine HG.mono ?_
      rintro e w1 ⟨rfl, hb1⟩
      have q3 : w1.cell? ⟨w.heap.size, 3, none⟩ = some (.int .i64 fr) := by rw [cell_of_row _ _ _ _ 39 (0, 0) ((hb1.block _ (by omega)).trans hKA)]; rfl
      have q4 : w1.cell? ⟨w.heap.size, 4, none⟩ = some (.int .i64 ct) := by rw [cell_of_row _ _ _ _ 39 (0, 0) ((hb1.block _ (by omega)).trans hKA)]; rfl
      have q5 : w1.cell? ⟨w.heap.size, 5, none⟩ = some (.slice ao m cap) := by rw [cell_of_row _ _ _ _ 39 (0, 0) ((hb1.block _ (by omega)).trans hKA)]; rfl
      clear HG
      have tc1 : decide (ct < 0) = false := decide_eq_false (by omega)
      have tc2 : decide (ct > 1000000) = false := decide_eq_false (by omega)
      have tc3 : decide (fr < 0) = false := decide_eq_false (by omega)
      have tc4 : decide (fr > 1000000) = false := decide_eq_false (by omega)
      have hO := OwnN.empty (w := w1) (B := wA.heap.size) hb1.size
      have hb2 := hb1.alloc hb1.size (.cells #[] 53)
      have hKB : Hid (wA.heap[w.heap.size]? = some (.cells #[.int .i64 nm, .string na, .int .i64 nd, .int .i64 fr, .int .i64 ct, .slice ao m cap] 39 (0, 0))) := hKA
      have hxA : Nodes wA ao t := hx.below hA
      clear hKA tc1 tc2 tc3 tc4
      go_wp2
      go_loopw [3, 4] (fun vo p wr => ∃ (k g c : Nat), k ≤ m ∧ p = .int .i64 k ∧ vo = .slice (some ⟨g, 0, none⟩) k c ∧ OwnN wr wA.heap.size g c k ((t.take k).map (schNode fr ct)) ∧ Below wA.heap.size wA wr) (fun _ p _ => m - (intOf p).toNat)
      case atStart => exact ⟨0, w1.heap.size, 0, Nat.zero_le _, rfl, rfl, by simpa using hO, hb2⟩
      case round =>
        clear hO hb2 hb1 q3 q4 q5
        obtain ⟨k, g, c, hk, rfl, rfl, hown, hbr⟩ := hrel
        have q3 : wr.cell? ⟨w.heap.size, 3, none⟩ = some (.int .i64 fr) := by rw [cell_of_row _ _ _ _ 39 (0, 0) ((hbr.block _ (by omega)).trans hKB.out)]; rfl
        have q4 : wr.cell? ⟨w.heap.size, 4, none⟩ = some (.int .i64 ct) := by rw [cell_of_row _ _ _ _ 39 (0, 0) ((hbr.block _ (by omega)).trans hKB.out)]; rfl
        have q5 : wr.cell? ⟨w.heap.size, 5, none⟩ = some (.slice ao m cap) := by rw [cell_of_row _ _ _ _ 39 (0, 0) ((hbr.block _ (by omega)).trans hKB.out)]; rfl
        by_cases hlt : k < m
        · have hltx : k < t.length := by have := HM.out; omega
          obtain ⟨⟨kd, nu, tx, ks, pl⟩, hxk⟩ : ∃ x, t[k] = x := ⟨_, rfl⟩
          obtain ⟨b, o, rfl, hcx⟩ := hxA.below hbr k hltx
          have hwf := HW.out t[k] (List.getElem_mem hltx)
          rw [hxk] at hcx hwf
          obtain ⟨c0, c1, c2, c3, c4⟩ := hcx
          simp only at c0 c1 c2 c3 c4 hwf
          have hlb : b < wr.heap.size := lt_of_cell c0
          have hob := owns_block hown.2
          have HS : Hid ((t.take (k + 1)).map (schNode fr ct) = (t.take k).map (schNode fr ct) ++ [schNode fr ct ⟨kd, nu, tx, ks, pl⟩]) := by
            show _ = _
            rw [map_take_succ _ t k hltx, hxk]
          have hnu : -9223372036854775808 ≤ nu ∧ nu ≤ 9223372036854775807 := by
            have b1 : IntKind.i64.min = -9223372036854775808 := rfl
            have b2 : IntKind.i64.max = 9223372036854775807 := rfl
            simpa [Lit.wf, b1, b2] using hwf
          obtain ⟨out, hout⟩ : ∃ out, (t.take k).map (schNode fr ct) = out := ⟨_, rfl⟩
          rw [hout] at hown HS
          have hsz := hbr.size
          have hwz : w.heap.size < wr.heap.size := by omega
          have HZA : Hid (wA.heap.size = w.heap.size + 1) := hZA
          clear hx hxA hxk hwf hout hZA
          have hbox := OwnN.one (w := wr) (B := wA.heap.size) hbr.size ⟨kd, nu, tx, ks, pl⟩
          have hbr0 := hbr.alloc hbr.size (.cells #[.int .i64 kd, .int .i64 nu, .string tx, .int .i64 ks, .int .i64 pl] 53)
          have hown0 := hown.alloc (.cells #[.int .i64 kd, .int .i64 nu, .string tx, .int .i64 ks, .int .i64 pl] 53)
          have hz0' : (wr.alloc (.cells #[.int .i64 kd, .int .i64 nu, .string tx, .int .i64 ks, .int .i64 pl] 53)).heap.size = wr.heap.size + 1 := by simp
          by_cases hP : kd = 60 ∧ fr ≤ nu ∧ nu < fr + ct
          · obtain ⟨rfl, hp1, hp2⟩ := hP
            have HN : Hid (schNode fr ct ⟨60, nu, tx, ks, pl⟩ = ⟨61, nu, tx, ks, pl⟩) := by simp [Hid, schNode, hp1, hp2]
            have hfz := hbox.row.2.frozen 0
            have hown1 := hown.alloc (.cells #[.int .i64 61, .int .i64 nu, .string tx, .int .i64 ks, .int .i64 pl] 53)
            have hown3 := hown1.alloc (.cells #[.int .i64 61, .int .i64 nu, .string tx, .int .i64 ks, .int .i64 pl] 53)
            have hb1' := hbr.alloc hbr.size (.cells #[.int .i64 61, .int .i64 nu, .string tx, .int .i64 ks, .int .i64 pl] 53)
            have hb3 := hb1'.alloc hb1'.size (.cells #[.int .i64 61, .int .i64 nu, .string tx, .int .i64 ks, .int .i64 pl] 53)
            have hcells := nd_new_cells (wr.alloc (.cells #[.int .i64 61, .int .i64 nu, .string tx, .int .i64 ks, .int .i64 pl] 53)) ⟨61, nu, tx, ks, pl⟩
            have hz1' : (wr.alloc (.cells #[.int .i64 61, .int .i64 nu, .string tx, .int .i64 ks, .int .i64 pl] 53)).heap.size = wr.heap.size + 1 := by simp
            rw [hz1'] at hcells
            clear hown hown1 hb1'
            clear hown0 hbr0 hbox
            go_wp2_with (at_builtin; refine wpList_append2 _ rfl (.tmp 65) (.tmp 67) 27 rfl wA.heap.size 53 i0 _ 5 48 Try.underlying27 hi hz0 hz1 hz2 rfl (by decide) g k c _ rfl hown3.2 ⟨_, 0, none⟩ 1 1 (Nd.row ⟨61, nu, tx, ks, pl⟩) rfl rfl hcells (nd_row_one _) ?a3 ?a4 ?a5 ?_)
            case a3 => unfold maxLen; omega
            case a4 => omega
            case a5 => (try simp); omega
            intro g2 c2' w2 hown4 hgrow2 hwh
            have hO := OwnN.push hown4 hown3.1 rfl
            have hbb : Below wA.heap.size wA w2 := hb3.grown hgrow2 (by simp; omega) (fun q hq => by cases hq; exact hob.1)
            clear hown4 hgrow2 hwh hown3 hb3 hcells
            go_wp2
            go_roundw
            case rel => exact ⟨k + 1, g2, c2', by omega, by go_num, rfl, by rw [HS.out, HN.out]; exact hO, hbb⟩
            case measure => simp [intOf]; omega
          · have HN : Hid (schNode fr ct ⟨kd, nu, tx, ks, pl⟩ = ⟨kd, nu, tx, ks, pl⟩) := by
              show schNode fr ct ⟨kd, nu, tx, ks, pl⟩ = ⟨kd, nu, tx, ks, pl⟩
              unfold schNode
              rw [if_neg hP]
            have hown3 := hown0.alloc (.cells #[.int .i64 kd, .int .i64 nu, .string tx, .int .i64 ks, .int .i64 pl] 53)
            have hb3 := hbr0.alloc hbr0.size (.cells #[.int .i64 kd, .int .i64 nu, .string tx, .int .i64 ks, .int .i64 pl] 53)
            have hcells := nd_new_cells (wr.alloc (.cells #[.int .i64 kd, .int .i64 nu, .string tx, .int .i64 ks, .int .i64 pl] 53)) ⟨kd, nu, tx, ks, pl⟩
            rw [hz0'] at hcells
            clear hown0 hbr0 hbox hown
            have hcase : kd ≠ 60 ∨ (kd = 60 ∧ nu < fr) ∨ (kd = 60 ∧ fr ≤ nu ∧ fr + ct ≤ nu) := by omega
            clear hP
            rcases hcase with h9 | ⟨rfl, h9⟩ | ⟨rfl, h9, h8⟩
            · have t9 : (kd == 60) = false := by simpa using h9
              go_wp2_with (at_builtin; refine wpList_append2 _ rfl (.tmp 65) (.tmp 67) 27 rfl wA.heap.size 53 i0 _ 5 48 Try.underlying27 hi hz0 hz1 hz2 rfl (by decide) g k c _ rfl hown3.2 ⟨_, 0, none⟩ 1 1 (Nd.row ⟨kd, nu, tx, ks, pl⟩) rfl rfl hcells (nd_row_one _) ?a3 ?a4 ?a5 ?_)
              case a3 => unfold maxLen; omega
              case a4 => omega
              case a5 => (try simp); omega
              intro g2 c2' w2 hown4 hgrow2 hwh
              have hO := OwnN.push hown4 hown3.1 rfl
              have hbb : Below wA.heap.size wA w2 := hb3.grown hgrow2 (by simp; omega) (fun q hq => by cases hq; exact hob.1)
              clear hown4 hgrow2 hwh hown3 hb3 hcells
              go_wp2
              go_roundw
              case rel => exact ⟨k + 1, g2, c2', by omega, by go_num, rfl, by rw [HS.out, HN.out]; exact hO, hbb⟩
              case measure => simp [intOf]; omega
            · skip
              go_wp2_with (at_builtin; refine wpList_append2 _ rfl (.tmp 65) (.tmp 67) 27 rfl wA.heap.size 53 i0 _ 5 48 Try.underlying27 hi hz0 hz1 hz2 rfl (by decide) g k c _ rfl hown3.2 ⟨_, 0, none⟩ 1 1 (Nd.row ⟨60, nu, tx, ks, pl⟩) rfl rfl hcells (nd_row_one _) ?a3 ?a4 ?a5 ?_)
              case a3 => unfold maxLen; omega
              case a4 => omega
              case a5 => (try simp); omega
              intro g2 c2' w2 hown4 hgrow2 hwh
              have hO := OwnN.push hown4 hown3.1 rfl
              have hbb : Below wA.heap.size wA w2 := hb3.grown hgrow2 (by simp; omega) (fun q hq => by cases hq; exact hob.1)
              clear hown4 hgrow2 hwh hown3 hb3 hcells
              go_wp2
              go_roundw
              case rel => exact ⟨k + 1, g2, c2', by omega, by go_num, rfl, by rw [HS.out, HN.out]; exact hO, hbb⟩
              case measure => simp [intOf]; omega
            · skip
              go_wp2_with (at_builtin; refine wpList_append2 _ rfl (.tmp 65) (.tmp 67) 27 rfl wA.heap.size 53 i0 _ 5 48 Try.underlying27 hi hz0 hz1 hz2 rfl (by decide) g k c _ rfl hown3.2 ⟨_, 0, none⟩ 1 1 (Nd.row ⟨60, nu, tx, ks, pl⟩) rfl rfl hcells (nd_row_one _) ?a3 ?a4 ?a5 ?_)
              case a3 => unfold maxLen; omega
              case a4 => omega
              case a5 => (try simp); omega
              intro g2 c2' w2 hown4 hgrow2 hwh
              have hO := OwnN.push hown4 hown3.1 rfl
              have hbb : Below wA.heap.size wA w2 := hb3.grown hgrow2 (by simp; omega) (fun q hq => by cases hq; exact hob.1)
              clear hown4 hgrow2 hwh hown3 hb3 hcells
              go_wp2
              go_roundw
              case rel => exact ⟨k + 1, g2, c2', by omega, by go_num, rfl, by rw [HS.out, HN.out]; exact hO, hbb⟩
              case measure => simp [intOf]; omega
        · obtain rfl : k = m := by omega
          have HE : Hid (OwnN wr wA.heap.size g c k (t.map (schNode fr ct))) := by
            have := hown
            rw [List.take_of_length_le (by have := HM.out; omega)] at this
            exact this
          clear hown hx
          go_wp2_with fail
          have HMk : Hid ((t.map (schNode fr ct)).length = k) := by
            show _ = _
            rw [List.length_map]
            exact HM.out
          refine (specCanon_any (t.map (schNode fr ct)) k HMk hm _ c wr HE.out.row.2.nodes).mono ?_
          rintro e w2 ⟨g2, c2', l, rfl, hg2, hl, hr2, hb2⟩
          have hs := hbr.size
          have hb := Below.step hA (Below.step hbr hb2)
          clear hb2 hbr hA q3 q4 q5
          go_wp2
          go_ret
          exact ⟨g2, c2', l, rfl, by omega, by rw [HV.out]; exact hl, by rw [HV.out]; exact hr2, hb⟩
    · have HV : Hid (schemeOf fr ct t = []) := by
        have e1 : (countb fr && countb ct) = false := by
          simp [countb]; omega
        simp [Hid, schemeOf, hg, e1]
      clear hx hg
      go_enter Try.func15, Try.ntmps15
      go_wp2_with fail
      generalize w.alloc (.cells #[.int .i64 nm, .string na, .int .i64 nd, .int .i64 fr, .int .i64 ct, .slice ao m cap] 39) = wA at *
      refine HG.mono ?_
      rintro e w1 ⟨rfl, hb1⟩
      have q3 : w1.cell? ⟨w.heap.size, 3, none⟩ = some (.int .i64 fr) := by rw [cell_of_row _ _ _ _ 39 (0, 0) ((hb1.block _ (by omega)).trans hKA)]; rfl
      have q4 : w1.cell? ⟨w.heap.size, 4, none⟩ = some (.int .i64 ct) := by rw [cell_of_row _ _ _ _ 39 (0, 0) ((hb1.block _ (by omega)).trans hKA)]; rfl
      have q5 : w1.cell? ⟨w.heap.size, 5, none⟩ = some (.slice ao m cap) := by rw [cell_of_row _ _ _ _ 39 (0, 0) ((hb1.block _ (by omega)).trans hKA)]; rfl
      have hb := Below.step hA hb1
      have hO := (OwnN.empty (w := w1) (B := w.heap.size) hb.size).row
      clear HG hA hb1
      have hcase : ct < 0 ∨ (0 ≤ ct ∧ 1000000 < ct) ∨ (0 ≤ ct ∧ ct ≤ 1000000 ∧ fr < 0) ∨ (0 ≤ ct ∧ ct ≤ 1000000 ∧ 0 ≤ fr ∧ 1000000 < fr) := by omega
      clear hc
      rcases hcase with h | ⟨h, h'⟩ | ⟨h, h', h2⟩ | ⟨h, h', h2, h3⟩
      all_goals
        go_wp2
        go_ret
        exact ⟨_, _, _, rfl, hO.1, by rw [HV.out]; rfl, by rw [HV.out]; exact hO.2, hb.alloc hb.size _⟩

end Go.Proofs.Ytljdcaoibnikjaa
