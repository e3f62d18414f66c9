import Derived.Test.YthioecjcnajmgaaGreatDoorDrawT
import Derived.Test.YthioecjcnajmgaaGreatDoorWAR
namespace Go.Proofs.YthioecjcnajmgaaGreatDoor

open Go.RowKit

/-- What l8Vary answers: one term, of at most so many nodes. -/
def DrewV (w : World) (L p : Nat) (e : Ending) (w' : World) : Prop := ∃ (g c l p' : Nat) (zs : List Nd), e = .returned (.tuple #[.slice (some ⟨g, 0, none⟩) l c, .int .i64 (p' : Int)]) ∧ zs.length = l ∧ 0 < l ∧ l ≤ L ∧ w.heap.size ≤ g ∧ OwnN w' w.heap.size g c l zs ∧ NumD zs ∧ p' ≤ p + 2 * L ∧ Below w.heap.size w w' ∧ One zs

set_option maxRecDepth 100000 in
set_option maxHeartbeats 4000000 in
theorem vary_any (n : Nat) (hn : n ≤ 1048576) (ao : Option Addr) (cap : Nat) (metas : Nat) (hm0 : 1 ≤ metas) (hm1 : metas ≤ 16) (t : List Nd) (S ys : List Sp) (m : Nat) (HL : Hid (t.length = m)) (hm : m ≤ 100) (HR : Hid (after t m = some (S, ys))) (HN : Hid (NumD t)) :
    ∀ (i : Nat) (si : Sp) (p gb cb gz cz Bz : Nat) (w : World), i < m → Hid (ys[i]? = some si) → Code w ao n → Row w gb t → Ints w Bz gz cz m (ys.map szOf) → p + 2 * (span t si.fr i).length ≤ 1000 →
      Calls Tryz.prog 17 #[.slice ao n cap, .int .i64 (p : Int), .slice (some ⟨gb, 0, none⟩) m cb, .slice (some ⟨gz, 0, none⟩) m cz, .int .i64 (i : Int), .int .i64 (metas : Int)] w fun e w' => DrewV w (span t si.fr i).length p e w' := by
  intro i
  induction i using Nat.strongRecOn with
  | ind i ih =>
    intro si p gb cb gz cz Bz w hi HSI hc hG hgz hp
    have hit : i < t.length := by have := HL.out; omega
    obtain ⟨K, hK, hsp, hO⟩ := span_kids HR.out hi HSI.out hit
    obtain ⟨L, hL⟩ : ∃ L, (span t si.fr i).length = L := ⟨_, rfl⟩
    have hLk : L = (kidsIn t K).flatten.length + 1 := by rw [← hL, hsp]; simp
    rw [hL] at hp ⊢
    have HIH := ih
    have HK : Hid (KidsAt t ys i K) := hK
    have HYL : Hid (ys.length = m) := (after_fine HR.out).len
    obtain ⟨x, hx⟩ : ∃ x, t[i] = x := ⟨_, rfl⟩
    have hxi := hG.node i hit
    rw [hx] at hxi
    have HX : Hid (t[i] = x) := hx
    have hnx := HN.out x (by rw [← hx]; exact List.getElem_mem hit)
    have HKN : Hid (x.kids = (K.length : Int)) := by
      obtain ⟨_, h9⟩ := hK.num
      rw [hx] at h9
      exact h9
    obtain ⟨nk, hnk⟩ : ∃ nk, K.length = nk := ⟨_, rfl⟩
    have HNK : Hid (K.length = nk) := hnk
    have hnk1 : nk ≤ 100 := by have := hK.len; omega
    have HFL : Hid (L = (kidsIn t K).flatten.length + 1) := hLk
    have hL1 : 1 ≤ L := by omega
    clear ih hK hsp hO hnk hx hLk hL HSI
    obtain ⟨i1, hj1, hy0, hy1, hy2⟩ := info_parts Tryz.infoV
    go_enter Tryz.func17, Tryz.ntmps17
    go_wp2_with fail
    refine (takeB_any n hn ao cap w hc p 8 (by omega) (by omega) (by omega)).mono ?_
    rintro e w1 ⟨⟨a, ha, rfl⟩, hb1⟩
    go_wp2_with fail
    refine (takeB_any n hn ao cap w1 (hc.below hb1) (p + 1) 16 (by omega) (by omega) (by omega)).mono ?_
    rintro e w2 ⟨⟨b, hb, rfl⟩, hb2⟩
    have hbb := Below.step hb1 hb2
    clear hb1 hb2
    by_cases ha2 : a < 2
    · have ha2i : decide ((a : Int) < 2) = true := decide_eq_true (by omega)
      obtain ⟨v, hv, hv0, hv1⟩ : ∃ v : Int, (b : Int) % (metas : Int) = v ∧ 0 ≤ v ∧ v < 16 := by
        obtain ⟨q0, q1⟩ := rem_in (x := (b : Int)) (k := metas) (by omega) hm0
        exact ⟨_, rfl, q0, by omega⟩
      have hmz : ((metas : Int) == 0) = false := by simp; omega
      clear HIH hc hG hgz hxi
      go_wp2_with fail
      refine (leaf_any 61 _ w2).mono ?_
      rintro e w3 ⟨rfl, hr, hb3⟩
      have hg := hbb.size
      have hb4 := Below.step hbb hb3
      clear hbb hb3
      go_wp2
      go_ret2
      exact ⟨w2.heap.size, 1, 1, p + 1 + 1, _, by simp, rfl, by omega, hL1, hg, hr.base hg, NumD.one (by simp; omega) (by simp; omega), by omega, hb4, leafO _ rfl⟩
    · have ha2i : decide ((a : Int) < 2) = false := decide_eq_false (by omega)
      have hG2 := hG.below hbb
      have hgz2 := hgz.below hbb
      have hc2 := hc.below hbb
      go_wp2_with fail
      refine (roots_any t ys K m i nk HL (by omega) HK HNK hi HYL _ cb gz cz Bz w2 hG2.nodes hgz2).mono ?_
      rintro e w3 ⟨Ga, rfl, hia, hb3⟩
      have hb4 := Below.step hbb hb3
      have hK0 := Kds.empty (w := w3) (B := w.heap.size) hb4.size
      have hbc : Below w3.heap.size w3 (w3.alloc (.cells #[] 27)) := (Below.refl _ _).alloc (Nat.le_refl _) _
      have hia0 := hia.below hbc
      have hb5 := Below.step hb4 hbc
      have hgal := hia.block
      have hz2 := hbb.size
      clear hbb hb3 hG2 hgz2 hc2 hia hbc
      go_wp2
      go_loopw [1, 17, 18] (fun pv kv iv wr => ∃ (k q g c : Nat) (kss : List (List Nd)) (vs : List Value), k ≤ nk ∧ iv = .int .i64 (k : Int) ∧ pv = .int .i64 (q : Int) ∧ kv = .slice (some ⟨g, 0, none⟩) k c ∧ Kds wr w.heap.size g c k kss vs ∧ Hid (∀ ks ∈ kss, NumD ks ∧ One ks) ∧ Hid (kss.flatten.length ≤ ((kidsIn t K).take k).flatten.length) ∧ Hid (q ≤ p + 2 + 2 * ((kidsIn t K).take k).flatten.length) ∧ Below w.heap.size w wr ∧ Ints wr w2.heap.size Ga nk nk (rts K) ∧ Ga ≠ g) (fun _ _ iv _ => nk - (intOf iv).toNat)
      case atStart => exact ⟨0, p + 1 + 1, w3.heap.size, 0, [], [], Nat.zero_le _, rfl, by simp, rfl, hK0, fun ks hk => by simp at hk, by simp [Hid], by simp [Hid], hb5, hia0, by omega⟩
      case round =>
        clear hK0 hb5 hia0
        obtain ⟨k, q, g, c, kss, vs, hk, rfl, rfl, rfl, hKd, HKS, HFK, HQ, hbr, hir, hne⟩ := hrel
        have hgar := hir.block
        by_cases hlt : k < nk
        · have hkK : k < K.length := by have := HNK.out; omega
          have hmem := HK.out.mem k hkK
          have ca := hir.at k (by rw [hir.1]; exact hlt)
          have ea : (rts K)[k]'(by rw [hir.1]; exact hlt) = ((K[k]).rt : Int) := by simp [rts]
          rw [ea] at ca
          obtain ⟨s, hs⟩ : ∃ s, K[k] = s := ⟨_, rfl⟩
          rw [hs] at ca hmem
          have htf : ((kidsIn t K).take (k + 1)).flatten.length = ((kidsIn t K).take k).flatten.length + (span t s.fr s.rt).length := by
            rw [take_flat _ k (by simpa [kidsIn] using hkK), kidsIn_get t K k hkK, hs, List.length_append]
          have hall : ((kidsIn t K).take (k + 1)).flatten.length ≤ (kidsIn t K).flatten.length := by
            have e9 : (kidsIn t K).flatten = ((kidsIn t K).take (k + 1)).flatten ++ ((kidsIn t K).drop (k + 1)).flatten := by rw [← List.flatten_append, List.take_append_drop]
            rw [e9, List.length_append]
            omega
          have hfl := HFL.out
          have hq9 := HQ.out
          obtain ⟨F, hF⟩ : ∃ F, ((kidsIn t K).take k).flatten.length = F := ⟨_, rfl⟩
          obtain ⟨F1, hF1⟩ : ∃ F1, ((kidsIn t K).take (k + 1)).flatten.length = F1 := ⟨_, rfl⟩
          obtain ⟨L1, hL1'⟩ : ∃ L1, (span t s.fr s.rt).length = L1 := ⟨_, rfl⟩
          have HF : Hid (((kidsIn t K).take k).flatten.length = F) := hF
          have HF1 : Hid (((kidsIn t K).take (k + 1)).flatten.length = F1) := hF1
          rw [hF] at hq9 htf
          rw [hF1, hL1'] at htf
          rw [hF1] at hall
          have HD := HIH s.rt hmem.2.2 s q gb cb gz cz Bz wr (by omega) hmem.1 (hc.below hbr) (hG.below hbr) (hgz.below hbr) (by rw [hL1']; omega)
          rw [hL1'] at HD
          have hsrt := hmem.2.2
          clear HIH hmem hs hF hF1 hL1' ea
          go_wp2_with fail
          refine HD.mono ?_
          rintro e w7 ⟨gn, cn, ln, pn, ks, rfl, hln, _, hlm, hgn, hon, hnn, hpn, hb7, hon9⟩
          have hrn := hon.row.2
          clear hon
          have hK7 := hKd.below hb7
          have hbw7 := Below.step hbr hb7
          have hs7 := hb7.size
          have hKb := hK7.block
          have hir7 := hir.below hb7
          have HLN : Hid (ks.length = ln) := hln
          have hone := one_cellT 27 w7 (.slice (some ⟨gn, 0, none⟩) ln cn)
          have hB8 : Below w7.heap.size w7 (w7.alloc (.cells #[.slice (some ⟨gn, 0, none⟩) ln cn] 27)) := (Below.refl _ w7).alloc (Nat.le_refl _) _
          have hK8 := hK7.below hB8
          have hr8 := hrn.below hB8
          have hir8 := hir7.below hB8
          clear HD hKd hbr hb7 hln hir hir7 hB8
          go_wp2_with (at_builtin; refine wpList_append2 _ rfl (.tmp 66) (.tmp 68) 49 rfl w.heap.size 27 i1 _ 1 24 Tryz.underlying49 hj1 hy0 hy1 hy2 rfl (by decide) g k c _ rfl hK8.own ⟨_, 0, none⟩ 1 1 [.slice (some ⟨gn, 0, none⟩) ln cn] rfl rfl hone (slice_one _ _ _) ?b3 ?b4 ?b5 ?_)
          case b3 => unfold maxLen; omega
          case b4 => omega
          case b5 => have := hbw7.size; simp; omega
          intro g2 c2 w8 hown8 hgrow8 hwh8
          have hK9 := hK8.push (cn := cn) hgrow8 hr8 (by rw [HLN.out]; exact hown8)
          have hb8 : Below w.heap.size w w8 := (hbw7.alloc hbw7.size _).grown hgrow8 (hbw7.alloc hbw7.size _).size (fun j hj => by cases hj; exact hKb.1)
          have hir9 := hir8.kept hgrow8 hne
          have HK9 : Hid (∀ k ∈ kss ++ [ks], NumD k ∧ One k) := by
            intro k hk
            rcases List.mem_append.1 hk with hk | hk
            · exact HKS.out k hk
            · simp at hk
              subst hk
              exact ⟨hnn, hon9⟩
          have HFK9 : Hid ((kss ++ [ks]).flatten.length ≤ ((kidsIn t K).take (k + 1)).flatten.length) := by
            have h1 := HFK.out
            rw [HF.out] at h1
            have h2 := HLN.out
            rw [Hid, HF1.out, flatten_snoc, List.length_append]
            omega
          have HQ9 : Hid (pn ≤ p + 2 + 2 * ((kidsIn t K).take (k + 1)).flatten.length) := by
            rw [Hid, HF1.out]
            omega
          have hne9 : Ga ≠ g2 := by
            rcases hwh8 with h9 | h9
            · omega
            · omega
          clear hown8 hgrow8 hwh8 hK8 hr8 hone hrn hK7 hbw7 hnn hon9 hir8 HFK HQ HF HF1 HKS
          go_wp2
          go_roundw
          case rel => exact ⟨k + 1, pn, g2, c2, _, _, by omega, by go_num, rfl, rfl, hK9, HK9, HFK9, HQ9, hb8, hir9, hne9⟩
          case measure => simp [intOf]; omega
        · have hik : k = nk := by omega
          subst hik
          have hkl := hKd.len
          have hfl := HFK.out
          rw [List.take_of_length_le (by simp [kidsIn, HNK.out])] at hfl
          have hq9 := HQ.out
          rw [List.take_of_length_le (by simp [kidsIn, HNK.out])] at hq9
          have hFL := HFL.out
          have hL100 : L ≤ 500 := by omega
          obtain ⟨kd, nm, tx, kk, pl⟩ := x
          have HJ := specJoin_any ⟨kd, nm, tx, kk, pl⟩ kss k hkl (some ⟨g, 0, none⟩) c wr hKd.lists (by rw [total_flat9]; omega) (by omega)
          have HNKd : Hid (NumD (kss.flatten ++ [⟨kd, nm, tx, (k : Int), pl⟩])) := (NumD.flatten (fun ks hk => (HKS.out ks hk).1)).append (NumD.one hnx.1 hnx.2)
          have HON : Hid (One (kss.flatten ++ [⟨kd, nm, tx, (k : Int), pl⟩])) := One.join (fun ks hk => (HKS.out ks hk).2) (by simp [hkl])
          obtain ⟨c0, c1, c2, c3, c4⟩ := (hG.below hbr).node i hit
          have hgl : gb < wr.heap.size := lt_of_cell c0
          have hs6 := hbr.size
          have hxe : t[i] = ⟨kd, nm, tx, kk, pl⟩ := HX.out
          rw [hxe] at c0 c1 c2 c3 c4
          simp only at c0 c1 c2 c3 c4
          clear hKd HKS HIH hc hG hgz hxe HFK HQ hir
          go_wp2_with fail
          refine HJ.mono ?_
          rintro e w9 ⟨v, rfl, hH, hb9⟩
          obtain ⟨g9, c9, rfl, hg9, _⟩ := hH.row (by simp)
          have hO8 : OwnN w9 wr.heap.size g9 c9 (kss.flatten ++ [(⟨kd, nm, tx, (k : Int), pl⟩ : Nd)]).length (kss.flatten ++ [(⟨kd, nm, tx, (k : Int), pl⟩ : Nd)]) := ⟨rfl, hH⟩
          have hO9 := hO8.base hs6
          have hbf := Below.step hbr hb9
          clear HJ hH hbr hb9 c0 c1 c2 c3 c4
          go_wp2
          go_ret2
          refine ⟨g9, c9, _, q, _, rfl, by simp, by simp, ?_, by omega, by simpa using hO9, HNKd.out, by omega, hbf, HON.out⟩
          have hsum : (kss.map List.length).sum = kss.flatten.length := List.length_flatten.symm
          rw [hsum]
          omega

end Go.Proofs.YthioecjcnajmgaaGreatDoor
