
import Derived.Test.YthnhphaaecaefaaDraw
import Derived.Test.YthnhphaaecaefaaWEx
import Derived.Test.YthnhphaaecaefaaPMath
import Derived.Test.YthnhphaaecaefaaPJoin
import Derived.Test.YthnhphaaecaefaaKKids
import Derived.Test.YthnhphaaecaefaaImplSame
import Derived.Deep.RegionHeld3
namespace Go.Proofs.Ythnhphaaecaefaa
open Go.RowKit

theorem deepOf_le (t : List Nd) : deepOf t ≤ 300 := by
  unfold deepOf
  repeat' split
  all_goals omega

/-- A node moved. -/
def mv (x : Nd) : Nd := { x with place := x.place + 7 }

theorem HoldsJ.own {w : World} {B : Nat} {v : Value} {zs : List Nd} (h : HoldsJ w B v zs) (h0 : 0 < zs.length) : ∃ g c, v = .slice (some ⟨g, 0, none⟩) zs.length c ∧ OwnN w B g c zs.length zs := by
  have h' := h
  rcases h.2 with ⟨_, h1⟩ | ⟨g, c, cur, rfl, _⟩
  · omega
  · exact ⟨g, c, rfl, rfl, h'⟩

theorem mv_alike (t : List Nd) : Alike Nd.sameb t (t.map mv) := by
  refine ⟨by simp, fun i h h' => ?_⟩
  simp [mv, Nd.sameb]

set_option maxRecDepth 100000 in
set_option maxHeartbeats 2000000 in
theorem lawPieces (n : Nat) (ao : Option Addr) (cap : Nat) (w : World) (hc : Code w ao n) (hln : n ≤ 9223372036854775807) :
    Calls Try.prog 3 #[.slice ao n cap] w fun e w' => e = .returned (.bool true) ∧ Below w.heap.size w w' := by
  obtain ⟨i0, hi, hz0, hz1, hz2⟩ := info_parts Try.infoN
  by_cases hn : n ≤ 1048576
  · go_enter Try.func3, Try.ntmps3
    go_wp2_with fail
    refine (drawKids_any n hn ao cap w hc).mono ?_
    rintro e w1 ⟨g, m, c, t, rfl, hL, hm, hne, b1⟩
    have HM : Hid (t.length = m) := hL.len
    have HC : Hid (m ≤ c) := hL.cap
    have hx := hL.row
    clear hL hc
    go_wp2_with fail
    refine (specGood_any t m HM (by omega) _ _ _ hx.nodes).mono ?_
    rintro e w2 ⟨rfl, b2⟩
    have hx := hx.below b2
    have b2 := Below.step b1 b2
    clear b1
    go_wp2_with fail
    refine (implGood_any t m HM (by omega) _ _ _ hx.nodes).mono ?_
    rintro e w3 ⟨rfl, b3⟩
    have hx := hx.below b3
    have b3 := Below.step b2 b3
    clear b2
    by_cases hd : 0 < deepOf t
    · have e1 : decide (0 < deepOf t) = true := by simp [hd]
      rw [e1]
      obtain ⟨S, ys, K, hA, hP, h6, h0⟩ := pieces HM.out hd
      obtain ⟨q, hq⟩ : ∃ q, K.length = q := ⟨_, rfl⟩
      have HA : Hid (after t m = some (S, ys)) := hA
      have HK : Hid (KidsAt t ys (m - 1) K) := hP.kids
      have HP : Hid (Pieces t m ys K) := hP
      have HQ : Hid (K.length = q) := hq
      have hqm : q ≤ 6000 := by have := HK.out.len; omega
      clear hA hP hq e1
      go_wp2_with fail
      refine (implKids_goodC t m q c HC.out HM g _ hx hd S ys K HA HK HQ).mono ?_
      rintro e w4 ⟨G, cG, ps, rfl, hR, b4⟩
      have hx := hx.below b4
      have b4 := Below.step b3 b4
      have HD : Hid (0 < deepOf t) := hd
      clear b3 hd
      go_wp2
      go_loopw [6, 7, 8] (fun d a k wr => ∃ j, j ≤ q ∧ k = .int .i64 (j : Int) ∧ a = .int .i64 (total (kidsIn t (K.take j)) : Int) ∧ d = .int .i64 (mx (K.take j) : Int) ∧ Row wr g t ∧ LeadR wr G (kidsIn t K) ∧ Below w.heap.size w wr) (fun _ _ k _ => q - (intOf k).toNat)
      case atStart => exact ⟨0, Nat.zero_le _, rfl, by simp [kidsIn, total], by simp [mx], hx, hR.leadR, b4⟩
      case round =>
        clear hx hR b4
        obtain ⟨j, hj, rfl, rfl, rfl, hx, hR, hb⟩ := hrel
        by_cases hlt : j < q
        · have hltK : j < K.length := by have := HQ.out; omega
          have hltZ : j < (kidsIn t K).length := by simp [kidsIn]; exact hltK
          obtain ⟨h, ch, hcell, hrow⟩ := hR j hltZ
          obtain ⟨s, hs⟩ : ∃ s, K[j] = s := ⟨_, rfl⟩
          have hz : (kidsIn t K)[j] = span t s.fr s.rt := by simp [kidsIn, hs]
          rw [hz] at hcell hrow
          obtain ⟨_, hfr, hrt⟩ := HK.out.mem j hltK
          rw [hs] at hfr hrt
          obtain ⟨L, hLe⟩ : ∃ L, s.rt + 1 - s.fr = L := ⟨_, rfl⟩
          have HSL : Hid ((span t s.fr s.rt).length = L) := by
            show _ = L
            rw [← hLe]
            exact span_length t s.fr s.rt (by have := HM.out; omega)
          rw [HSL.out] at hcell
          have HS1 : Hid (total (kidsIn t (K.take (j + 1))) = s.rt + 1) := by have h9 := HP.out.sums j hltK; rw [hs] at h9; exact h9
          have hT : total (kidsIn t (K.take j)) + L = s.rt + 1 := by
            have h9 := HS1.out
            rw [kidsIn_step t K j hltK, hs] at h9
            have h8 : total (kidsIn t (K.take j) ++ [span t s.fr s.rt]) = total (kidsIn t (K.take j)) + (span t s.fr s.rt).length := by simp [total]
            rw [h8, HSL.out] at h9
            exact h9
          obtain ⟨T, hTe⟩ : ∃ T, total (kidsIn t (K.take j)) = T := ⟨_, rfl⟩
          rw [hTe] at hT ⊢
          have HPT : Hid (partOf t (IntKind.i64.wrap ((T : Int) + (L : Int) - 1)) = span t s.fr s.rt) := by
            show partOf t _ = _
            have h7 : IntKind.i64.wrap ((T : Int) + (L : Int) - 1) = (T : Int) + (L : Int) - 1 := by
              have h6 : 0 ≤ (T : Int) + (L : Int) - 1 ∧ (T : Int) + (L : Int) - 1 ≤ 6000 := by omega
              simp [IntKind.wrap, IntKind.bits, IntKind.signed]
              omega
            rw [h7]
            have h9 := HP.out.part j hltK
            rw [hs] at h9
            have h8 : (T : Int) + (L : Int) - 1 = (s.rt : Int) := by omega
            rw [h8]
            exact h9
          have HDP : Hid (deepOf (span t s.fr s.rt) = s.dp) := by have h9 := HP.out.deep j hltK; rw [hs] at h9; exact h9
          have HMX : Hid (mx (K.take (j + 1)) = max (mx (K.take j)) s.dp) := by show mx (K.take (j + 1)) = _; rw [List.take_succ_eq_append_getElem hltK, hs, mx_snoc]
          obtain ⟨D, hDe⟩ : ∃ D, mx (K.take j) = D := ⟨_, rfl⟩
          rw [hDe] at HMX ⊢
          have HR : Hid (LeadR wr G (kidsIn t K)) := hR
          have hL1 : 1 ≤ L := by omega
          have hLm : L ≤ 6000 := by omega
          have hTm : T ≤ 6000 := by omega
          have hL0 : ((L : Int) == 0) = false := by simp; omega
          have hGl : G < wr.heap.size := lt_of_cell hcell
          clear hR hz hTe hDe hs hLe
          go_wp2_with fail
          go_region_held3 (fun w' => w'.cell? ⟨G, j, none⟩ = some (.slice (some ⟨h, 0, none⟩) L ch)) (first | exact hcell | exact hc5 | exact hc6 | go_keep)
            (first
            | (go_at_call 10; refine (implPart_anyC t m c HC.out (IntKind.i64.wrap ((T : Int) + (L : Int) - 1)) HM (by omega) g _ (hx.below (Below.refl _ wr).drew)).mono ?_; rintro e w5 ⟨g5, c5, l5, rfl, hg5, hl5, hr5, hb5⟩; rw [HPT.out] at hl5 hr5; rw [HSL.out] at hl5; subst hl5; have hc5 := (bcell_drew hb5 G j hGl).trans hcell)
            | (go_at_call 9; refine (wExact_same (span t s.fr s.rt) L HSL _ _ _ _ _ hr5.nodes (hrow.below (undrew hb5)).nodes (by omega)).mono ?_; rintro e w6 ⟨rfl, hb6⟩; have hc6 := (bcell hb6 G j (lt_of_cell hc5)).trans hc5))
          have hbd := undrew hb5
          have hx6 := (hx.below hbd).below hb6
          have HR6 : Hid (LeadR w6 G (kidsIn t K)) := (HR.out.below hbd).below hb6
          have hrow6 := (hrow.below hbd).below hb6
          have hb6' := Below.step (Below.step hb hbd) hb6
          clear hx hrow hb5 hbd hb6 hr5 hc5 hg5 HR hcell hb
          go_wp2_with fail
          refine (implDeep_any (span t s.fr s.rt) L HSL (by omega) _ _ _ hrow6.nodes).mono ?_
          rintro e w7 ⟨rfl, b7⟩
          rw [HDP.out]
          have hc7 := (bcell b7 G j (lt_of_cell hc6)).trans hc6
          have hx7 := hx6.below b7
          have HR7 : Hid (LeadR w7 G (kidsIn t K)) := HR6.out.below b7
          have hrow7 := hrow6.below b7
          have b7 := Below.step hb6' b7
          clear hx6 HR6 hrow6 hb6' hc6
          by_cases hDs : D < s.dp
          · have hDs' : (D : Int) < (s.dp : Int) := by omega
            go_wp2_with fail
            refine (implDeep_any (span t s.fr s.rt) L HSL (by omega) _ _ _ hrow7.nodes).mono ?_
            rintro e w8 ⟨rfl, b8⟩
            rw [HDP.out]
            have hx8 := hx7.below b8
            have HR8 : Hid (LeadR w8 G (kidsIn t K)) := HR7.out.below b8
            have b8 := Below.step b7 b8
            clear hx7 HR7 hrow7 b7 hc7
            go_wp2
            go_roundw
            case rel => exact ⟨j + 1, by omega, by go_num, by rw [HS1.out]; congr 1; omega, by rw [HMX.out]; congr 1; omega, hx8, HR8.out, b8⟩
            case measure => (simp [intOf]) <;> omega
          · have hDs' : ¬ (D : Int) < (s.dp : Int) := by omega
            go_wp2
            go_roundw
            case rel => exact ⟨j + 1, by omega, by go_num, by rw [HS1.out]; congr 1; omega, by rw [HMX.out]; congr 1; omega, hx7, HR7.out, b7⟩
            case measure => (simp [intOf]) <;> omega
        · have hke : j = q := by omega
          subst hke
          have HTK : Hid (K.take j = K) := List.take_of_length_le (by have := HQ.out; omega)
          rw [HTK.out]
          obtain ⟨T, hTe⟩ : ∃ T, total (kidsIn t K) = T := ⟨_, rfl⟩
          obtain ⟨D, hDe⟩ : ∃ D, mx K = D := ⟨_, rfl⟩
          have HWD : Hid (deepOf t = D + 1) := by show deepOf t = _; rw [HP.out.whole, hDe]
          rw [hTe, hDe]
          clear hTe hDe
          go_wp2
          obtain ⟨W0, hW0⟩ : ∃ W0, W0 = wr := ⟨_, rfl⟩
          subst hW0
          have hbW : Below W0.heap.size W0 (W0.alloc (.cells #[] 32)) := (Below.refl _ W0).alloc (Nat.le_refl _) _
          go_loopw [9, 10] (fun v i wn => ∃ (k gM cM : Nat), k ≤ m ∧ i = .int .i64 (k : Int) ∧ v = .slice (some ⟨gM, 0, none⟩) k cM ∧ OwnN wn W0.heap.size gM cM k ((t.map mv).take k) ∧ Below W0.heap.size W0 wn) (fun _ i _ => m - (intOf i).toNat)
          case atStart => exact ⟨0, _, 0, Nat.zero_le _, rfl, rfl, OwnN.empty (Nat.le_refl _), hbW⟩
          case round =>
            obtain ⟨k, gM, cM, hk, rfl, rfl, hown, hbn⟩ := hrel
            clear hbW
            by_cases hlt : k < m
            · have hltk : k < t.length := by have := HM.out; omega
              obtain ⟨x, hxk⟩ : ∃ x, t[k] = x := ⟨_, rfl⟩
              obtain ⟨c0, c1, c2, c3, c4⟩ := (hx.below hbn).node k hltk
              rw [hxk] at c0 c1 c2 c3 c4
              obtain ⟨hp0, hp1⟩ := hne x (by rw [← hxk]; exact List.getElem_mem hltk)
              have HT : Hid ((t.map mv).take (k + 1) = (t.map mv).take k ++ [mv x]) := by
                show (t.map mv).take (k + 1) = _
                rw [List.take_succ_eq_append_getElem (by simpa using hltk)]
                simp [hxk]
              have hob := owns_block hown.2
              clear hxk
              go_wp2_with (at_builtin; refine wpList_append2 _ rfl (.tmp 93) (.tmp 95) 23 rfl W0.heap.size 32 i0 _ 5 48 Try.underlying23 hi hz0 hz1 hz2 rfl (by decide) gM k cM _ rfl ((hown.alloc _).alloc _).2 ⟨_, 0, none⟩ 1 1 (Nd.row (mv x)) rfl rfl ?d1 (nd_row_one _) ?a3 ?a4 ?a5 ?_)
              case d1 =>
                have h9 := nd_new_cells (wr.alloc (.cells #[.int .i64 x.kind, .int .i64 x.num, .string x.text, .int .i64 x.kids, .int .i64 (x.place + 7)] 32)) (mv x)
                rw [World.size_alloc] at h9
                exact h9
              case a3 => unfold maxLen; omega
              case a4 => omega
              case a5 => have := hbn.size; simp; omega
              intro g2 c2' w2 hown2 hgrow2 hwh
              have hO := OwnN.push (x := mv x) hown2 hown.1 rfl
              rw [← HT.out] at hO
              have hbb : Below W0.heap.size W0 w2 := ((hbn.alloc hbn.size _).alloc (by have := hbn.size; simp; omega) _).grown hgrow2 (by have := hbn.size; simp; omega) (fun q hq => by cases hq; exact hob.1)
              clear hown2 hgrow2 hwh hown hbn c0 c1 c2 c3 c4
              go_wp2
              go_roundw
              case rel => exact ⟨k + 1, g2, c2', by omega, by go_num, rfl, hO, hbb⟩
              case measure => (simp [intOf]) <;> omega
            · have hke : k = m := by omega
              subst hke
              have HTA : Hid ((t.map mv).take k = t.map mv) := List.take_of_length_le (by have := HM.out; simp; omega)
              rw [HTA.out] at hown
              have hmo := hown.row.2
              have hml : (t.map mv).length = k := hown.1
              have hxn := hx.below hbn
              have hRn := hR.below hbn
              have hbf := Below.step hb hbn
              have hl1 : k - 1 < t.length := by have := HM.out; omega
              have HJ := HP.out.join hl1
              obtain ⟨x, hxk⟩ : ∃ x, t[k - 1] = x := ⟨_, rfl⟩
              obtain ⟨e0, e1, e2, e3, e4⟩ := hxn.node (k - 1) hl1
              rw [hxk] at e0 e1 e2 e3 e4 HJ
              have HJ : Hid ((kidsIn t K).flatten ++ [{ x with kids := (K.length : Int) }] = t) := HJ
              clear hown hbn hx hR hb hxk
              have HN : Hid ((kidsIn t K).length = j) := by show (kidsIn t K).length = j; simp [kidsIn]; exact HQ.out
              have hjl : total (kidsIn t K) ≤ 1048576 := by
                have h9 := congrArg List.length HJ.out
                rw [List.length_append, ← total_flatten, HM.out] at h9
                simp at h9
                omega
              rw [HQ.out] at HJ
              go_wp2_with fail
              refine (implJoin_anyR x (kidsIn t K) j HN G cG wr hRn hjl (by omega)).mono ?_
              rintro e w9 ⟨v9, rfl, hv9, b9⟩
              rw [HJ.out] at hv9
              obtain ⟨g9, c9, rfl, hO9⟩ := hv9.own (by have := HM.out; omega)
              have hr9 := hO9.row.2
              rw [HM.out]
              have hx9 := hxn.below b9
              have hm9 := hmo.below b9
              have b9 := Below.step hbf b9
              clear hv9 hO9 hxn hmo hbf hRn e0 e1 e2 e3 e4
              go_wp2_with fail
              refine (wExact_same t k HM _ _ _ _ _ hr9.nodes hx9.nodes (by omega)).mono ?_
              rintro e w10 ⟨rfl, b10⟩
              have hx10 := hx9.below b10
              have hm10 := hm9.below b10
              have b10 := Below.step b9 b10
              clear hr9 hx9 hm9 b9
              go_wp2_with fail
              refine (implDeep_any t k HM (by omega) _ _ _ hx10.nodes).mono ?_
              rintro e w11 ⟨rfl, b11⟩
              obtain ⟨E, hE⟩ : ∃ E, deepOf t = E := ⟨_, rfl⟩
              have hED : E = D + 1 := hE.symm.trans HWD.out
              have hDm : D ≤ 300 := by have := deepOf_le t; omega
              rw [hE]
              have hx11 := hx10.below b11
              have hm11 := hm10.below b11
              have b11 := Below.step b10 b11
              have hDD : ((E : Int) == (D : Int) + 1) = true := by simp; omega
              clear hx10 hm10 b10 hE hED
              go_wp2_with fail
              refine (implSame_any t (t.map mv) k k HM hml _ _ _ _ _ hx11.nodes hm11.nodes (by omega) (by omega)).mono ?_
              rintro e w12 ⟨⟨r, rfl, hr⟩, b12⟩
              have hr1 : r = true := hr.2 (mv_alike t)
              subst hr1
              have b12 := Below.step b11 b12
              clear hx11 hm11 b11 hr
              go_wp2
              go_ret
              exact ⟨rfl, b12⟩
    · have e1 : decide (0 < deepOf t) = false := by simp; omega
      have HD0 : Hid (deepOf t = 0) := by show deepOf t = 0; omega
      rw [e1]
      clear e1
      go_wp2_with fail
      refine (implKids_badC t m c HM (by omega) g _ hx hd).mono ?_
      rintro e w4 ⟨G, cG, rfl, _, b4⟩
      have hx := hx.below b4
      have b4 := Below.step b3 b4
      clear b3 hd
      go_wp2_with fail
      refine (implDeep_any t m HM (by omega) _ _ _ hx.nodes).mono ?_
      rintro e w5 ⟨rfl, b5⟩
      rw [HD0.out]
      have b5 := Below.step b4 b5
      clear hx b4
      go_wp2
      go_ret
      exact ⟨rfl, b5⟩
  · clear hc
    go_enter Try.func3, Try.ntmps3
    go_wp2
    go_ret
    exact ⟨rfl, Below.refl _ _⟩

end Go.Proofs.Ythnhphaaecaefaa
