
import Derived.Test.YtocidoamfofefaaIErase
import Derived.Deep.RegionWith
import Derived.BigQuiet
namespace Go.Proofs.Ytocidoamfofefaa
open Go.RowKit

theorem cnt_snoc (ks : List Nd) (j : Nat) (h : j < ks.length) : cnt (ks.take (j + 1)) = cnt (ks.take j) + (if noTy ks[j] then 1 else 0) := by
  unfold cnt
  rw [List.take_succ_eq_append_getElem h, List.filter_append, List.length_append]
  split
  · rename_i h1
    simp [h1]
  · rename_i h1
    simp [h1]

theorem cnt_le (ks : List Nd) (j : Nat) : cnt (ks.take j) ≤ j := by
  unfold cnt
  have h1 := List.length_filter_le noTy (ks.take j)
  have h2 : (ks.take j).length ≤ j := by simp; omega
  omega

set_option maxHeartbeats 8000000 in
set_option maxRecDepth 100000 in
theorem specErase_any (t : List Nd) (m : Nat) (HM : Hid (t.length = m)) (hm : m ≤ 1048576) (ao : Option Addr) (cap : Nat) (w : World) (hx : Nodes w ao t) :
    Calls Try.prog 14 #[.slice ao m cap] w fun e w' => ∃ (g c l : Nat) (bt : Bool), e = .returned (.tuple #[.slice (some ⟨g, 0, none⟩) l c, .bool bt]) ∧ (bt = true ↔ FormS t) ∧ OwnN w' w.heap.size g c l (if bt then outTo t m else []) ∧ Below w.heap.size w w' := by
  obtain ⟨i0, hi, hz0, hz1, hz2⟩ := info_parts Try.infoN
  have hO := OwnN.empty (w := w) (B := w.heap.size) (Nat.le_refl _)
  have hA := (Below.refl w.heap.size w).alloc (Nat.le_refl _) (.cells #[] 39)
  go_enter Try.func14, Try.ntmps14
  go_wp2_with fail
  refine (specForm_any t m HM hm ao cap _ (hx.below hA)).mono ?_
  rintro e w1 ⟨⟨bt, rfl, hbt⟩, hb1⟩
  have hO1 := hO.below hb1
  have b1 := Below.step hA hb1
  clear hO hA hb1
  cases bt
  · have HB : Hid (¬ FormS t) := by show ¬ FormS t; simpa using hbt
    clear hx hbt
    go_wp2
    go_ret2
    exact ⟨_, _, _, false, rfl, by simp only [Bool.false_eq_true, false_iff]; exact HB.out, hO1, b1⟩
  have HF : Hid (FormS t) := by show FormS t; simpa using hbt
  have h6 : m ≤ 60000 := by have := HF.out.1; have := HM.out; omega
  obtain ⟨hm0, S, ys, hA⟩ := raw_after HF.out.2.1
  rw [HM.out] at hA hm0
  have HA : Hid (after t m = some (S, ys)) := hA
  have HYL : Hid (ys.length = m) := (after_fine hA).len
  have hsz : sizesOf t = ys.map szOf := by unfold sizesOf; rw [HM.out, hA]
  have SZ := sizes60_any t m HM h6 ao cap w1 (hx.below b1)
  rw [hsz] at SZ
  clear hbt hA hsz
  go_wp2_with fail
  refine SZ.mono ?_
  rintro e w2 ⟨gz, cz, n, rfl, hz, hb2⟩
  have hnm : n = m := by have h9 := hz.1; have := HYL.out; simp at h9; omega
  subst hnm
  have hO2 := hO1.below hb2
  have b2 := Below.step b1 hb2
  have hw01 : w.heap.size < w1.heap.size := (owns_block hO1.2).2
  clear SZ hO1 b1 hb2
  go_wp2
  go_loopw [4, 6] (fun vo vi wr => ∃ (k g c l : Nat), k ≤ n ∧ vi = .int .i64 (k : Int) ∧ vo = .slice (some ⟨g, 0, none⟩) l c ∧ OwnN wr w.heap.size g c l (outTo t k) ∧ Below w.heap.size w wr ∧ Ints wr w1.heap.size gz cz n (ys.map szOf) ∧ g ≠ gz) (fun _ vi _ => n - (intOf vi).toNat)
  case atStart => exact ⟨0, w.heap.size, 0, 0, Nat.zero_le _, rfl, rfl, hO2, b2, hz, by have := hz.block; omega⟩
  case round =>
    clear hO2 hz b2
    obtain ⟨k, g, c, l, hk, rfl, rfl, hown, hbw, hzr, hgg⟩ := hrel
    have hzk := hzr.block
    by_cases hkn : k < n
    rotate_left
    · obtain rfl : k = n := by omega
      clear hx hzr
      go_wp2
      go_ret2
      exact ⟨g, c, l, true, rfl, by simp only [true_iff]; exact HF.out, hown, hbw⟩
    have hkt : k < t.length := by have := HM.out; omega
    obtain ⟨x, hxk⟩ : ∃ x, t[k] = x := ⟨_, rfl⟩
    obtain ⟨b0, o0, rfl, hn⟩ := hx.below hbw k hkt
    rw [hxk] at hn
    have HX : Hid (ndAt t k = x) := by show ndAt t k = x; rw [ndAt_get hkt, hxk]
    have HCN : Hid (typI x.kind = false → ((cnt (kidsN t k) : Nat) : Int) = ekids x) := by
      intro h9
      have h8 := form_cnt HF.out k hkt (by rw [HX.out]; exact h9)
      rw [HX.out] at h8
      exact h8
    obtain ⟨kd, nm, tx, ks, pl⟩ := x
    obtain ⟨c0, c1, c2, c3, c4⟩ := hn
    simp only at c0 c1 c2 c3 c4
    have HS : Hid (outTo t (k + 1) = if typI kd then outTo t k else outTo t k ++ [eraI ⟨kd, nm, tx, ks, pl⟩]) := by
      show outTo t (k + 1) = _
      rw [outTo, HX.out]
    have hll : l ≤ k := by have h9 := outTo_len t k; have := hown.1; omega
    have hob := owns_block hown.2
    have hlb : b0 < wr.heap.size := lt_of_cell c0
    obtain ⟨out, hout⟩ : ∃ out, outTo t k = out := ⟨_, rfl⟩
    rw [hout] at hown HS
    clear hxk HX hout
    have hsz : (wr.alloc (.cells #[.int .i64 kd, .int .i64 nm, .string tx, .int .i64 ks, .int .i64 pl] 39)).heap.size = wr.heap.size + 1 := by simp
    have nW : NodeAt (wr.alloc (.cells #[.int .i64 kd, .int .i64 nm, .string tx, .int .i64 ks, .int .i64 pl] 39)) wr.heap.size 0 ⟨kd, nm, tx, ks, pl⟩ := by
      refine ⟨?_, ?_, ?_, ?_, ?_⟩ <;> (rw [cell_of_row _ _ _ _ _ _ (heap_alloc_new _ _)]; rfl)
    have rW : Row (wr.alloc (.cells #[.int .i64 kd, .int .i64 nm, .string tx, .int .i64 ks, .int .i64 pl] 39)) wr.heap.size [⟨kd, nm, tx, ks, pl⟩] := (OwnN.one9 (w := wr) (B := w.heap.size) hbw.size ⟨kd, nm, tx, ks, pl⟩).row.2
    have bW := (Below.refl wr.heap.size wr).alloc (Nat.le_refl _) (.cells #[.int .i64 kd, .int .i64 nm, .string tx, .int .i64 ks, .int .i64 pl] 39)
    have hoW := hown.below bW
    have b1W := Below.step hbw bW
    have hzW := hzr.below bW
    have LK := letter_any kd
    have hty := typI_letters kd
    obtain ⟨lk, hlk⟩ : ∃ lk, letK kd = lk := ⟨_, rfl⟩
    have hlk2 : lk < 256 := by rw [← hlk]; exact letK_lt kd
    rw [hlk] at LK hty
    clear hlk
    go_wp2_with fail
    refine (LK _).mono ?_
    rintro e w3 ⟨rfl, rfl⟩
    generalize wr.alloc (.cells #[.int .i64 kd, .int .i64 nm, .string tx, .int .i64 ks, .int .i64 pl] 39) = W0 at hoW b1W hzW nW rW hsz ⊢
    have hzb := hbw.size
    obtain ⟨z, hzz⟩ : ∃ z, wr.heap.size = z := ⟨_, rfl⟩
    rw [hzz] at nW rW hsz hzb hob hzk ⊢
    clear hzz
    obtain ⟨d0, d1, d2, d3, d4⟩ := nW
    simp only [Nat.zero_add] at d0 d1 d2 d3 d4
    have lz : z < W0.heap.size := by omega
    have hgW : g < W0.heap.size := by omega
    have hgz : g ≠ z := by omega
    have hzz2 : gz ≠ z := by omega
    clear LK hsz hown hbw hzr bW c0 c1 c2 c3 c4
    cases ht : typI kd
    rotate_left
    · have HT : Hid (outTo t (k + 1) = out) := by show _ = _; rw [HS.out, ht]; rfl
      rw [ht] at hty
      clear hx
      by_cases e1 : lk = 116
      · subst e1
        go_wp2
        go_roundw
        case rel => exact ⟨k + 1, g, c, l, by omega, by go_num, rfl, by rw [HT.out]; exact hoW, b1W, hzW, hgg⟩
        case measure => simp [intOf]; omega
      have v1 : ((lk : Int) == 116) = false := by simp; omega
      by_cases e2 : lk = 115
      · subst e2
        go_wp2
        go_roundw
        case rel => exact ⟨k + 1, g, c, l, by omega, by go_num, rfl, by rw [HT.out]; exact hoW, b1W, hzW, hgg⟩
        case measure => simp [intOf]; omega
      have v2 : ((lk : Int) == 115) = false := by simp; omega
      by_cases e3 : kd = 78
      · subst e3
        go_wp2
        go_roundw
        case rel => exact ⟨k + 1, g, c, l, by omega, by go_num, rfl, by rw [HT.out]; exact hoW, b1W, hzW, hgg⟩
        case measure => simp [intOf]; omega
      have v3 : (kd == 78) = false := by simpa using e3
      have e4 : kd = 79 := by
        simp at hty
        omega
      subst e4
      go_wp2
      go_roundw
      case rel => exact ⟨k + 1, g, c, l, by omega, by go_num, rfl, by rw [HT.out]; exact hoW, b1W, hzW, hgg⟩
      case measure => simp [intOf]; omega
    rw [ht] at hty
    simp only [Bool.or_eq_false_iff] at hty
    obtain ⟨⟨⟨y1, y2⟩, y3⟩, y4⟩ := hty
    have v1 : ((lk : Int) == 116) = false := by simp at y1 ⊢; omega
    have v2 : ((lk : Int) == 115) = false := by simp at y2 ⊢; omega
    have HT : Hid (outTo t (k + 1) = out ++ [⟨kd, nm, tx, ((cnt (kidsN t k) : Nat) : Int), pl⟩]) := by
      show _ = _
      rw [HS.out, ht, HCN.out ht]
      rfl
    clear HS HCN y1 y2 ht
    -- the kids
    obtain ⟨Si, hSi, hkt', hK⟩ := kids_atS HA.out k hkn
    have HKN : Hid (kidsN t k = ((Si.drop (Si.length - (t[k]).kids.toNat)).map (fun s => s.rt)).map (ndAt t)) := by
      show kidsN t k = _
      rw [kidsN_eq hSi hkt, List.map_map]
      rfl
    obtain ⟨K, hKe⟩ : ∃ K, Si.drop (Si.length - (t[k]).kids.toNat) = K := ⟨_, rfl⟩
    rw [hKe] at hK HKN
    have HK : Hid (KidsAt t ys k K) := hK
    have hKl : K.length ≤ 60000 := by have := hK.len; omega
    have HR : Hid (∀ j (h : j < (K.map (fun s => s.rt)).length), (K.map (fun s => s.rt))[j] < n) := by
      intro j h
      have h9 := (HK.out.mem j (by simpa using h)).2.2
      simp only [List.getElem_map]
      omega
    obtain ⟨q, hq⟩ : ∃ q, K.length = q := ⟨_, rfl⟩
    have HQ : Hid (K.length = q) := hq
    have HQR : Hid ((K.map (fun s => s.rt)).length = q) := by show _ = q; rw [List.length_map]; exact hq
    rw [hq] at hKl
    have hNat : natsI (K.map (fun s => s.rt)) = rts K := by
      unfold natsI rts
      rw [List.map_map]
      rfl
    clear hK hKe hSi hkt' hq
    rw [HKN.out] at HT
    have RT := roots60_any t ys K n k q HM h6 HK HQ hkn HYL (some ⟨b0, o0, none⟩) cap gz cz w1.heap.size W0 (hx.below b1W) hzW
    go_wp2_with fail
    refine RT.mono ?_
    rintro e w5 ⟨G, rfl, hG, hb5⟩
    have hx5 := (hx.below b1W).below hb5
    have ho5 := hoW.below hb5
    have b15 := Below.step b1W hb5
    have hz25 := hzW.below hb5
    have rW5 := rW.below hb5
    have hz5 : z < w5.heap.size := Nat.lt_of_lt_of_le lz hb5.size
    rw [← hNat] at hG
    obtain ⟨R, hRe⟩ : ∃ R, K.map (fun s => s.rt) = R := ⟨_, rfl⟩
    rw [hRe] at hG HT HR HQR
    have hGb := hG.block
    clear RT hx hzW hoW b1W hb5 rW d0 d1 d2 d3 d4 hNat HK HQ HKN hRe
    go_wp2
    go_loop [10, 11] (fun vk vj => ∃ j : Nat, j ≤ q ∧ vj = .int .i64 (j : Int) ∧ vk = .int .i64 ((cnt ((R.map (ndAt t)).take j) : Nat) : Int)) (fun _ vj => q - (intOf vj).toNat)
    case atStart => exact ⟨0, Nat.zero_le _, rfl, rfl⟩
    case round =>
      obtain ⟨j, hj, rfl, rfl⟩ := hrel
      by_cases hjq : j < q
      · have hjR : j < R.length := by have := HQR.out; omega
        have hcl := cnt_le (R.map (ndAt t)) j
        have hcs := cnt_snoc (R.map (ndAt t)) j (by simpa using hjR)
        obtain ⟨r, hr⟩ : ∃ r, R[j] = r := ⟨_, rfl⟩
        have hrm : r < n := by rw [← hr]; exact HR.out j hjR
        have hc1 : w5.cell? ⟨G, j, none⟩ = some (.int .i64 (r : Int)) := by
          have h9 := hG.at j (by simpa [natsI] using hjR)
          rw [h9]
          simp [natsI, hr]
        obtain ⟨b', o', hbo, hn⟩ := hx5 r (by have := HM.out; omega)
        simp only [Option.some.injEq, Addr.mk.injEq, and_true] at hbo
        obtain ⟨rfl, rfl⟩ := hbo
        obtain ⟨y, hyr⟩ : ∃ y, t[r]'(by have := HM.out; omega) = y := ⟨_, rfl⟩
        rw [hyr] at hn
        have hy : (R.map (ndAt t))[j]'(by simpa using hjR) = y := by
          simp only [List.getElem_map, hr]
          rw [ndAt_get (by have := HM.out; omega), hyr]
        rw [hy] at hcs
        obtain ⟨e0, -, -, -, -⟩ := hn
        have LY := letter_any y.kind
        have hny : noTy y = (letK y.kind != 116 && letK y.kind != 115) := rfl
        obtain ⟨ly, hly⟩ : ∃ ly, letK y.kind = ly := ⟨_, rfl⟩
        have hly2 : ly < 256 := by rw [← hly]; exact letK_lt y.kind
        rw [hly] at LY hny
        rw [hny] at hcs
        obtain ⟨yk, hyk⟩ : ∃ yk, y.kind = yk := ⟨_, rfl⟩
        rw [hyk] at LY e0
        obtain ⟨cj, hcj⟩ : ∃ cj, cnt ((R.map (ndAt t)).take j) = cj := ⟨_, rfl⟩
        rw [hcj] at hcs hcl ⊢
        have HCS : Hid (cnt ((R.map (ndAt t)).take (j + 1)) = cj + if (ly != 116 && ly != 115) = true then 1 else 0) := hcs
        clear hcs hly hyk hny hyr hy hcj hr hG hx5
        by_cases e1 : ly = 116
        · subst e1
          have HV : Hid (cnt ((R.map (ndAt t)).take (j + 1)) = cj) := by rw [HCS.out]; rfl
          go_wp2_with fail
          refine (LY _).mono ?_
          rintro e w6 ⟨rfl, rfl⟩
          clear LY
          go_wp2
          refine ⟨⟨j + 1, by omega, by push_cast; rfl, by rw [HV.out]⟩, ?_⟩
          simp [intOf]; omega
        have f1 : ((ly : Int) != 116) = true := by simp; omega
        have f1n : (ly != 116) = true := by simpa using e1
        by_cases e2 : ly = 115
        · subst e2
          have HV : Hid (cnt ((R.map (ndAt t)).take (j + 1)) = cj) := by rw [HCS.out]; rfl
          go_wp2_with fail
          refine (LY _).mono ?_
          rintro e w6 ⟨rfl, rfl⟩
          clear LY
          go_wp2
          refine ⟨⟨j + 1, by omega, by push_cast; rfl, by rw [HV.out]⟩, ?_⟩
          simp [intOf]; omega
        have f2 : ((ly : Int) != 115) = true := by simp; omega
        have f2n : (ly != 115) = true := by simpa using e2
        have HV : Hid (cnt ((R.map (ndAt t)).take (j + 1)) = cj + 1) := by rw [HCS.out, f1n, f2n]; rfl
        go_wp2_with fail
        refine (LY _).mono ?_
        rintro e w6 ⟨rfl, rfl⟩
        clear LY
        go_wp2
        refine ⟨⟨j + 1, by omega, by push_cast; rfl, by rw [HV.out]; push_cast; rfl⟩, ?_⟩
        simp [intOf]; omega
      · obtain rfl : j = q := by omega
        have hfull : (R.map (ndAt t)).take j = R.map (ndAt t) := List.take_of_length_le (by have := HQR.out; simp; omega)
        rw [hfull]
        obtain ⟨v, hv⟩ : ∃ v : Int, ((cnt (R.map (ndAt t)) : Nat) : Int) = v := ⟨_, rfl⟩
        rw [hv] at HT ⊢
        obtain ⟨d0, d1, d2, d3, d4⟩ := rW5.node 0 (by simp)
        simp only [List.getElem_cons_zero, Nat.zero_mul, Nat.zero_add] at d0 d1 d2 d3 d4
        have hfz := rW5.frozen 3
        obtain ⟨hown3, hb3, hcells⟩ := set_push9 ho5 b15 (z := z) hzb hgz kd nm tx v pl
        have bu3 : But (· = z) w5 (w5.setCell ⟨z, 3, none⟩ (.int .i64 v)) := (But.refl (· = z) w5).setCell (p := ⟨z, 3, none⟩) rfl _
        have hz3 : Ints (w5.setCell ⟨z, 3, none⟩ (.int .i64 v)) w1.heap.size gz cz n (ys.map szOf) := ⟨hz25.1, owns_but hz25.2 bu3 hzz2⟩
        have hz4 := hz3.alloc (.cells #[.int .i64 kd, .int .i64 nm, .string tx, .int .i64 v, .int .i64 pl] 39)
        have hs5 : w.heap.size ≤ w5.heap.size := b15.size
        have hzl := hz25.block
        clear hG hx5 ho5 b15 hz25 rW5 hfull hv hz3 bu3
        go_wp2_with (at_builtin; refine wpList_append2 _ rfl (.tmp 77) (.tmp 79) 25 rfl w.heap.size 39 i0 _ 5 48 Try.underlying25 hi hz0 hz1 hz2 rfl (by decide) g l c _ rfl hown3.2 ⟨_, 0, none⟩ 1 1 (Nd.row ⟨kd, nm, tx, v, pl⟩) rfl rfl hcells (nd_row_one _) ?a3 ?a4 ?a5 ?_)
        case a3 => unfold maxLen; omega
        case a4 => omega
        case a5 => first | omega | (simp; omega)
        intro g2 c2' w8 hown4 hgrow2 hwh
        have hO4 := OwnN.push hown4 hown3.1 rfl
        have hbb : Below w.heap.size w w8 := hb3.grown hgrow2 (by first | omega | (simp; omega)) (fun q hq => by cases hq; exact hob.1)
        have hz8 := hz4.kept hgrow2 (fun e => hgg e.symm)
        have hne2 : g2 ≠ gz := by rcases hwh with h | h <;> (try simp at h) <;> omega
        clear hown4 hgrow2 hwh hown3 hb3 hcells hz4
        go_wp2
        go_roundw
        case rel => exact ⟨k + 1, g2, c2', l + 1, by omega, by go_num, rfl, by rw [HT.out]; exact hO4, hbb, hz8, hne2⟩
        case measure => simp [intOf]; omega

end Go.Proofs.Ytocidoamfofefaa
