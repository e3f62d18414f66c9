
import Derived.Test.YtkmlfpfgiblcdaaSJoin
namespace Go.Proofs.Ytkmlfpfgiblcdaa
open Go.RowKit

theorem row_news (w : World) (h : Nat) (ks : List Nd) (hr : Row w h ks) : ∀ j u, (flat ks)[j]? = some u → w.cell? (Addr.add ⟨h, 0, none⟩ j) = some u := by
  intro j u hj
  have hl : j < (flat ks).length := (List.getElem?_eq_some_iff.1 hj).1
  have ad : Addr.add ⟨h, 0, none⟩ j = ⟨h, j, none⟩ := by
    unfold Addr.add
    split
    · simp_all
    · simp
  rw [ad, Own.at hr j hl, hj]

theorem flat_one (ks : List Nd) : ∀ u ∈ flat ks, u.oneCell' = true := by
  intro u hu
  unfold flat at hu
  obtain ⟨n, _, hn⟩ := List.mem_flatMap.1 hu
  exact row_one n u hn

theorem HoldsJ.app {w : World} {B : Nat} {v : Value} {zs ks : List Nd} {m : Nat} (h : w.ownsRow B 36 5 v m (flat zs ++ flat ks)) (hm : m = zs.length + ks.length) : HoldsJ w B v (zs ++ ks) := by
  subst hm
  unfold HoldsJ
  rw [flat_append, List.length_append]
  exact h

set_option maxHeartbeats 1000000 in
theorem join_any (x : Nd) (kss : List (List Nd)) (n : Nat) (HN : Hid (kss.length = n)) (g : Nat) (gs : List Nat) (cap : Nat) (w : World) (hx : Two w g gs kss) (ht : total kss ≤ 1048576) (hlen : n ≤ 1048576) :
    Calls Try.prog 39 #[.agg #[.int .i64 x.kind, .int .i64 x.num, .string x.text, .int .i64 x.kids, .int .i64 x.place], .slice (some ⟨g, 0, none⟩) n cap] w fun e w' =>
      ∃ v, e = .returned v ∧ HoldsJ w' w.heap.size v (kss.flatten ++ [{ x with kids := (n : Int) }]) ∧ Below w.heap.size w w' := by
  obtain ⟨i0, hi, hz0, hz1, hz2⟩ := info_parts Try.infoN
  go_enter Try.func39, Try.ntmps39
  go_wp2
  obtain ⟨W1, hW1⟩ : ∃ W1, W1 = w.alloc (.cells #[.int .i64 x.kind, .int .i64 x.num, .string x.text, .int .i64 x.kids, .int .i64 x.place] 36) := ⟨_, rfl⟩
  have HW1 : Hid (W1 = w.alloc (.cells #[.int .i64 x.kind, .int .i64 x.num, .string x.text, .int .i64 x.kids, .int .i64 x.place] 36)) := hW1
  have HB1 : Below w.heap.size w W1 := by rw [hW1]; exact (Below.refl _ _).alloc (Nat.le_refl _) _
  have HS1 : Hid (W1.heap.size = w.heap.size + 1) := by show W1.heap.size = w.heap.size + 1; rw [hW1]; simp
  have hx1 := hx.below HB1
  rw [← hW1]
  clear hx hW1
  go_loop [5, 13] (fun s i => ∃ (k : Nat), k ≤ n ∧ i = .int .i64 k ∧ s = .int .i64 (1 + total (kss.take k) : Nat)) (fun _ i => n - (intOf i).toNat)
  case atStart => exact ⟨0, Nat.zero_le _, rfl, rfl⟩
  case round =>
    obtain ⟨k, hk, rfl, rfl⟩ := hrel
    by_cases hlt : k < n
    · have hltk : k < kss.length := by have := HN.out; omega
      have hltg : k < gs.length := by have := hx1.rows.1; omega
      have hc := (hx1.get k hltk hltg).1
      have hts := total_take_succ kss k hltk
      have htl := total_take_le kss (k + 1)
      have hks := length_le_total kss k hltk
      have HTS : Hid (total (kss.take (k + 1)) = total (kss.take k) + kss[k].length) := hts
      obtain ⟨tk, htk⟩ : ∃ tk, total (kss.take k) = tk := ⟨_, rfl⟩
      have HTK : Hid (total (kss.take k) = tk) := htk
      rw [htk] at hts ⊢
      have htl2 : tk ≤ 1048576 := by omega
      clear hx1 hts htl htk
      go_wp2
      go_round
      case rel => exact ⟨k + 1, by omega, by go_num, by have := HTS.out; have := HTK.out; congr 1; omega⟩
      case measure => simp [intOf]; omega
    · have hke : k = n := by omega
      subst hke
      have HE : Hid (kss.take k = kss) := List.take_of_length_le (by have := HN.out; omega)
      rw [HE.out]
      obtain ⟨T, hT⟩ : ∃ T, total kss = T := ⟨_, rfl⟩
      have HT : Hid (total kss = T) := hT
      rw [hT] at ht ⊢
      clear hT
      go_wp2_with (at_make; refine wpList_make_own _ rfl _ _ 25 rfl (w.heap.size + 1) 36 i0 _ 5 Try.underlying25 hi hz0 hz1 .i64 .i64 _ (1 + T) rfl rfl ?m0 ?m1 ?m2 ?m3 ?_)
      case m0 => omega
      case m1 => first | omega | (rw [hz2]; omega)
      case m2 => unfold maxLen; omega
      case m3 => have := HS1.out; omega
      intro w2 hown hgrow
      have hb : Below W1.heap.size W1 w2 := (Below.refl _ _).grown hgrow (Nat.le_refl _) (fun q hq => by cases hq)
      have e1 : W1.heap.size = w.heap.size + 1 := HS1.out
      rw [e1] at hown ⊢
      clear e1 hgrow
      go_wp2
      go_loopw [8, 26] (fun v i wr => ∃ (j l : Nat), j ≤ k ∧ i = .int .i64 j ∧ v = .slice (some ⟨w.heap.size + 1, 0, none⟩) l (1 + T) ∧ (kss.take j).flatten.length = l ∧ HoldsJ wr (w.heap.size + 1) v (kss.take j).flatten ∧ Below W1.heap.size W1 wr) (fun _ i _ => k - (intOf i).toNat)
      case atStart => exact ⟨0, 0, Nat.zero_le _, rfl, rfl, rfl, hown, hb⟩
      case round =>
        clear hown hb
        obtain ⟨j, l, hj, rfl, rfl, hl, hown, hb⟩ := hrel
        have HL : Hid ((kss.take j).flatten.length = l) := hl
        unfold HoldsJ at hown
        rw [hl] at hown
        obtain ⟨dn, hdn⟩ : ∃ dn, (kss.take j).flatten = dn := ⟨_, rfl⟩
        have HDN : Hid ((kss.take j).flatten = dn) := hdn
        rw [hdn] at hown
        have hlT : l ≤ T := by have := length_flatten_take kss j; have := HT.out; omega
        clear hl hdn
        by_cases hlt : j < k
        · have hltk : j < kss.length := by have := HN.out; omega
          have hltg : j < gs.length := by have := hx1.rows.1; omega
          obtain ⟨hc, hr⟩ := (hx1.below hb).get j hltk hltg
          obtain ⟨ks, hks⟩ : ∃ ks, kss[j] = ks := ⟨_, rfl⟩
          have HFT : Hid ((kss.take (j + 1)).flatten = dn ++ ks) := by have := flatten_take_succ kss j hltk; rw [hks, HDN.out] at this; exact this
          have hll : l + ks.length ≤ T := by
            have h1 := length_flatten_take kss (j + 1)
            have h2 := HL.out
            rw [HDN.out] at h2
            rw [HFT.out, List.length_append, HT.out] at h1
            omega
          have HLL : Hid ((kss.take (j + 1)).flatten.length = l + ks.length) := by
            have h2 := HL.out
            rw [HDN.out] at h2
            show (kss.take (j + 1)).flatten.length = l + ks.length
            rw [HFT.out, List.length_append, h2]
          obtain ⟨h, hh⟩ : ∃ h, gs[j] = h := ⟨_, rfl⟩
          rw [hks, hh] at hc hr
          clear hks hh hx1
          go_wp2_with (at_builtin; refine wpList_append_fits _ rfl _ _ 25 rfl (w.heap.size + 1) 36 i0 5 Try.underlying25 hi hz1 (w.heap.size + 1) l (1 + T) _ rfl hown ⟨h, 0, none⟩ ks.length ks.length (flat ks) rfl ?a0 ?a1 ?a2 ?a3 ?_)
          case a0 => exact flat_length ks
          case a1 => exact row_news _ h ks hr
          case a2 => exact flat_one ks
          case a3 => omega
          intro w3 hown' hgrow
          have H3 : HoldsJ w3 (w.heap.size + 1) (.slice (some ⟨w.heap.size + 1, 0, none⟩) (l + ks.length) (1 + T)) (kss.take (j + 1)).flatten := by
            rw [HFT.out]
            exact HoldsJ.app hown' (by have h2 := HL.out; rw [HDN.out] at h2; rw [h2])
          have hbb : Below W1.heap.size W1 w3 := hb.grown hgrow hb.size (fun q hq => by have := HS1.out; simp at hq; omega)
          clear hown hown' hgrow hb hc hr
          go_wp2
          go_roundw
          case rel => exact ⟨j + 1, l + ks.length, by omega, by go_num, rfl, HLL.out, H3, hbb⟩
          case measure => simp [intOf]; omega
        · have hke : j = k := by omega
          subst hke
          have HE2 : Hid (kss.flatten = dn) := by have := HDN.out; rw [HE.out] at this; exact this
          have hz : ∀ j, wr.cell? ⟨w.heap.size, j, none⟩ = W1.cell? ⟨w.heap.size, j, none⟩ := fun j => hb.cell (p := ⟨w.heap.size, j, none⟩) (by have := HS1.out; show w.heap.size < _; omega)
          have hf3 : wr.frozen? ⟨w.heap.size, 3, none⟩ = false := by
            rw [hb.frozen (p := ⟨w.heap.size, 3, none⟩) (by have := HS1.out; show w.heap.size < _; omega), HW1.out]
            exact frozen_of_row _ w.heap.size 3 _ 36 (heap_alloc_new _ _)
          have g0 : wr.cell? ⟨w.heap.size, 0, none⟩ = some (.int .i64 x.kind) := by rw [hz, HW1.out, cell_of_row _ w.heap.size 0 _ 36 (0, 0) (heap_alloc_new _ _)]; rfl
          have g1 : wr.cell? ⟨w.heap.size, 1, none⟩ = some (.int .i64 x.num) := by rw [hz, HW1.out, cell_of_row _ w.heap.size 1 _ 36 (0, 0) (heap_alloc_new _ _)]; rfl
          have g2 : wr.cell? ⟨w.heap.size, 2, none⟩ = some (.string x.text) := by rw [hz, HW1.out, cell_of_row _ w.heap.size 2 _ 36 (0, 0) (heap_alloc_new _ _)]; rfl
          have g3 : wr.cell? ⟨w.heap.size, 3, none⟩ = some (.int .i64 x.kids) := by rw [hz, HW1.out, cell_of_row _ w.heap.size 3 _ 36 (0, 0) (heap_alloc_new _ _)]; rfl
          have g4 : wr.cell? ⟨w.heap.size, 4, none⟩ = some (.int .i64 x.place) := by rw [hz, HW1.out, cell_of_row _ w.heap.size 4 _ 36 (0, 0) (heap_alloc_new _ _)]; rfl
          have hown3 := ownsRow_setCell_below hown (a := ⟨w.heap.size, 3, none⟩) (Nat.lt_succ_self _) (.int .i64 (j : Int))
          clear hz hx1
          go_wp2_with (at_builtin; refine wpList_append_fits _ rfl _ _ 25 rfl (w.heap.size + 1) 36 i0 5 Try.underlying25 hi hz1 (w.heap.size + 1) l (1 + T) _ rfl (hown3.alloc _) ⟨_, 0, none⟩ 1 1 (Nd.row { x with kids := (j : Int) }) rfl rfl ?d1 ?d2 ?d3 ?_)
          case d1 =>
            have := new_cells (wr.setCell ⟨w.heap.size, 3, none⟩ (.int .i64 (j : Int))) { x with kids := (j : Int) }
            rw [size_setCell] at this
            exact this
          case d2 => exact row_one _
          case d3 => omega
          intro w3 hown' hgrow
          have H2 := HoldsJ.push hown' (by have h2 := HL.out; rw [HDN.out] at h2; rw [h2])
          rw [← HE2.out] at H2
          have hb2 : Below w.heap.size w wr := HB1.trans (hb.mono HB1.size)
          have hbb : Below w.heap.size w w3 := ((hb2.setCell (p := ⟨w.heap.size, 3, none⟩) (Nat.le_refl _) (.int .i64 (j : Int))).alloc (by rw [size_setCell]; exact hb2.size) _).grown hgrow (by have := hb2.size; simp; omega) (fun q hq => by simp at hq; omega)
          clear hown hown' hgrow hb hown3 g0 g1 g2 g3 g4
          go_wp2
          go_ret
          exact ⟨_, rfl, H2.mono (Nat.le_succ _), hbb⟩

set_option maxHeartbeats 400000 in
theorem implJoin_any (x : Nd) (kss : List (List Nd)) (n : Nat) (HN : Hid (kss.length = n)) (g : Nat) (gs : List Nat) (cap : Nat) (w : World) (hx : Two w g gs kss) (ht : total kss ≤ 1048576) (hlen : n ≤ 1048576) :
    Calls Try.prog 21 #[.agg #[.int .i64 x.kind, .int .i64 x.num, .string x.text, .int .i64 x.kids, .int .i64 x.place], .slice (some ⟨g, 0, none⟩) n cap] w fun e w' =>
      ∃ v, e = .returned v ∧ HoldsJ w' w.heap.size v (kss.flatten ++ [{ x with kids := (n : Int) }]) ∧ Below w.heap.size w w' := by
  have hB : Below w.heap.size w (w.alloc (.cells #[.int .i64 x.kind, .int .i64 x.num, .string x.text, .int .i64 x.kids, .int .i64 x.place] 36)) := (Below.refl _ _).alloc (Nat.le_refl _) _
  have hx1 := hx.below hB
  clear hx
  go_enter Try.func21, Try.ntmps21
  go_wp2_with fail
  refine (join_any x kss n HN g gs cap _ hx1 ht hlen).mono ?_
  rintro e w1 ⟨v, rfl, hv, hb⟩
  have hv2 := hv.mono hB.size
  have hb2 := Below.step hB hb
  clear hB hx1 hv hb
  go_wp2
  go_ret
  exact ⟨v, rfl, hv2, hb2⟩

end Go.Proofs.Ytkmlfpfgiblcdaa
