
import Derived.Test.YtkmlfpfgiblcdaaSz
import Derived.Test.YtkmlfpfgiblcdaaTo
import Derived.Test.YtkmlfpfgiblcdaaKKids
namespace Go.Proofs.Ytkmlfpfgiblcdaa
open Go.RowKit

theorem Rag.but' {S : Nat → Prop} {w w' : World} {B g : Nat} {ps : List (Nat × Nat)} {kss : List (List Nd)} (h : Rag w B g ps kss) (hb : But S w w') (hs : ∀ k, S k → w.heap.size ≤ k ∨ k < B) : Rag w' B g ps kss := by
  have hg := h.lead.lt
  have hB := h.base
  refine ⟨h.lead.but hb (fun hk => by rcases hs _ hk with h1 | h1 <;> omega), h.base, h.len, ?_, h.from_, h.nodup⟩
  intro i hi hi'
  have hr := h.rows i hi hi'
  have hl := hr.lt
  have hf := h.from_ _ (List.getElem_mem hi)
  exact hb.row hr (fun hk => by rcases hs _ hk with h1 | h1 <;> omega)

/-- What lay at B' or beyond when these rows lay already may be turned. -/
theorem Rag.far {w0 w w' : World} {B B' g : Nat} {ps : List (Nat × Nat)} {kss : List (List Nd)} (h0 : Rag w0 B g ps kss) (hB : w0.heap.size ≤ B') (h : Rag w B g ps kss) (hb : But (B' ≤ ·) w w') : Rag w' B g ps kss := by
  have hg := h0.lead.lt
  refine ⟨h.lead.but hb (fun hk => by omega), h.base, h.len, ?_, h.from_, h.nodup⟩
  intro i hi hi'
  have hl := (h0.rows i hi hi').lt
  exact hb.row (h.rows i hi hi') (fun hk => by omega)

theorem kidsIn_total {t : List Nd} {ys K : List Sp} {i : Nat} (h : KidsAt t ys i K) (hi : i < t.length) : total (kidsIn t K) ≤ i := by
  have key : ∀ j, (hj : j ≤ K.length) → total (kidsIn t (K.take j)) ≤ if h : 0 < j then (K[j - 1]'(by omega)).rt + 1 else 0 := by
    intro j
    induction j with
    | zero => intro _; simp [kidsIn, total]
    | succ j ih =>
      intro hj
      have h1 := ih (by omega)
      have hjK : j < K.length := by omega
      rw [kidsIn_step t K j hjK]
      have e : total (kidsIn t (K.take j) ++ [span t K[j].fr K[j].rt]) = total (kidsIn t (K.take j)) + (span t K[j].fr K[j].rt).length := by simp [total]
      have hm := h.mem j hjK
      rw [e, span_length t _ _ (by omega), dif_pos (by omega)]
      simp only [Nat.add_sub_cancel]
      by_cases h0 : 0 < j
      · rw [dif_pos h0] at h1
        have h2 := h.next j h0 hjK
        omega
      · rw [dif_neg h0] at h1
        omega
  have h1 := key K.length (Nat.le_refl _)
  rw [List.take_length] at h1
  by_cases h0 : 0 < K.length
  · rw [dif_pos h0] at h1
    have := h.last h0
    omega
  · rw [dif_neg h0] at h1
    omega

/-- Both answer with the same kids. -/
theorem kids_both (t : List Nd) (m : Nat) (HM : Hid (t.length = m)) (hm : m ≤ 1048576) : ∃ Z : List (List Nd), total Z ≤ 1048576 ∧ Z.length ≤ 1048576 ∧
    (∀ g w, Row w g t → Calls Try.prog 30 #[.slice (some ⟨g, 0, none⟩) m m] w fun e w' => ∃ G c ps, e = .returned (.slice (some ⟨G, 0, none⟩) Z.length c) ∧ Rag w' w.heap.size G ps Z ∧ Below w.heap.size w w') ∧
    (∀ g w, Row w g t → Calls Try.prog 31 #[.slice (some ⟨g, 0, none⟩) m m] w fun e w' => ∃ G c ps, e = .returned (.slice (some ⟨G, 0, none⟩) Z.length c) ∧ Rag w' w.heap.size G ps Z ∧ Below w.heap.size w w') := by
  by_cases hd : 0 < deepOf t
  · obtain ⟨h0, h6, S, ys, hA, hyl⟩ := deep_after HM.out hd
    obtain ⟨K, hK⟩ := kids_at hA (m - 1) (by omega)
    have hl : (kidsIn t K).length = K.length := by simp [kidsIn]
    have hkl := hK.len
    have htot := kidsIn_total hK (by have := HM.out; omega)
    refine ⟨kidsIn t K, by omega, by omega, ?_, ?_⟩
    · intro g w hx
      rw [hl]
      exact specKids_good t m K.length HM g w hx hd S ys K hA hK rfl
    · intro g w hx
      rw [hl]
      exact implKids_good t m K.length HM g w hx hd S ys K hA hK rfl
  · refine ⟨[], by simp [total], by simp, ?_, ?_⟩
    · intro g w hx
      refine (specKids_bad t m HM hm g w hx hd).mono ?_
      rintro e w' ⟨G, c, he, hR, hb⟩
      exact ⟨G, c, [], he, hR, hb⟩
    · intro g w hx
      refine (implKids_bad t m HM hm g w hx hd).mono ?_
      rintro e w' ⟨G, c, he, hR, hb⟩
      exact ⟨G, c, [], he, hR, hb⟩

set_option maxHeartbeats 2000000 in
theorem lawKids (xs : List Nd) (ao : Option Addr) (cap : Nat) (w : World) (hx : Nodes w ao xs)
    (hsx : ∀ x ∈ xs, x.text.size ≤ maxLen) (hlx : xs.length ≤ 9223372036854775807) :
    Calls Try.prog 8 #[.slice ao xs.length cap] w fun e w' => e = .returned (.bool true) ∧ Below w.heap.size w w' := by
  go_enter Try.func8, Try.ntmps8
  go_wp2_with fail
  refine (szNodeS_any xs ao cap 1048576 w hx hsx hlx (by omega) (by omega)).mono ?_
  rintro e w1 ⟨⟨r, rfl, hr⟩, b1⟩
  rcases hr with hr | ⟨hr0, hr1⟩
  · subst hr
    go_wp2
    go_ret
    exact ⟨rfl, b1⟩
  have lx : xs.length ≤ 1048576 := by omega
  obtain ⟨l, hl⟩ : ∃ l, xs.length = l := ⟨_, rfl⟩
  have HL : Hid (xs.length = l) := hl
  rw [hl] at lx ⊢
  clear hl hr1 hlx hsx
  have toN : ∀ W, Below w.heap.size w W → Calls Try.prog 11 #[.slice ao l cap] W fun e w' => ∃ g, e = .returned (.slice (some ⟨g, 0, none⟩) l l) ∧ W.heap.size ≤ g ∧ Row w' g xs ∧ Below W.heap.size W w' := by
    intro W hW
    have h9 := toNodeS_any xs ao cap W (hx.below hW) (by have := HL.out; omega)
    rw [HL.out] at h9
    exact h9
  have TON : Hid (∀ W, Below w.heap.size w W → Calls Try.prog 11 #[.slice ao l cap] W fun e w' => ∃ g, e = .returned (.slice (some ⟨g, 0, none⟩) l l) ∧ W.heap.size ≤ g ∧ Row w' g xs ∧ Below W.heap.size W w') := toN
  obtain ⟨Z, htot, hZl, hspec, himpl⟩ := kids_both xs l HL lx
  have hZm : ∀ ks ∈ Z, ks.length ≤ 1048576 := by
    intro ks hks
    obtain ⟨i, hi, rfl⟩ := List.getElem_of_mem hks
    have := length_le_total Z i hi
    omega
  obtain ⟨p, hp⟩ : ∃ p, Z.length = p := ⟨_, rfl⟩
  obtain ⟨T, hT⟩ : ∃ T, total Z = T := ⟨_, rfl⟩
  have HP : Hid (Z.length = p) := hp
  have HT : Hid (total Z = T) := hT
  rw [hp] at hspec himpl hZl
  have HS : Hid (∀ g w, Row w g xs → Calls Try.prog 30 #[.slice (some ⟨g, 0, none⟩) l l] w fun e w' => ∃ G c ps, e = .returned (.slice (some ⟨G, 0, none⟩) p c) ∧ Rag w' w.heap.size G ps Z ∧ Below w.heap.size w w') := hspec
  have HI : Hid (∀ g w, Row w g xs → Calls Try.prog 31 #[.slice (some ⟨g, 0, none⟩) l l] w fun e w' => ∃ G c ps, e = .returned (.slice (some ⟨G, 0, none⟩) p c) ∧ Rag w' w.heap.size G ps Z ∧ Below w.heap.size w w') := himpl
  have HZM : Hid (∀ ks ∈ Z, ks.length ≤ 1048576) := hZm
  have HTT : Hid (total Z ≤ 1048576) := htot
  rw [hT] at htot
  clear toN hx hp hT hspec himpl hZm
  go_wp2_with fail
  refine (TON.out w1 b1).mono ?_
  rintro e w2 ⟨g1, rfl, _, R1, b2⟩
  have b2 := Below.step b1 b2
  clear b1
  go_wp2_with fail
  refine (HS.out g1 w2 R1).mono ?_
  rintro e w3 ⟨gw, cw, pw, rfl, RW0, b3⟩
  have HW0 : Hid (Rag w3 w2.heap.size gw pw Z) := RW0
  have RW := RW0
  have s3 := b3.size
  have b3 := Below.step b2 b3
  clear R1 RW0
  go_wp2_with fail
  refine (TON.out w3 b3).mono ?_
  rintro e w4 ⟨gx, rfl, hgx, RX, b4⟩
  have RW := RW.below b4
  have hgx0 : w.heap.size ≤ gx := by have := b3.size; omega
  have lx4 := RX.lt
  have s4 := b4.size
  have b4 := Below.step b3 b4
  have b20 := b2.size
  clear b3 b2
  go_wp2_with fail
  refine (HI.out gx w4 RX).mono ?_
  rintro e w5 ⟨gg, cg, pg, rfl, RG, b5⟩
  have RW := RW.below b5
  have RX := RX.below b5
  have s5 := b5.size
  have b5 := Below.step b4 b5
  clear b4
  go_wp2_with fail
  refine (eqSS_same Z p HP _ _ _ _ w5 RG.lists RW.lists HZM.out hZl).mono ?_
  rintro e w6 ⟨rfl, b6⟩
  have RW := RW.below b6
  have RX := RX.below b6
  have RG := RG.below b6
  have b6 := Below.step b5 b6
  clear b5
  go_wp2_with fail
  refine (TON.out w6 b6).mono ?_
  rintro e w7 ⟨g7, rfl, _, R7, b7⟩
  have RW := RW.below b7
  have RX := RX.below b7
  have RG := RG.below b7
  have b7 := Below.step b6 b7
  clear b6
  go_wp2_with fail
  refine (eqNodeS_any xs xs l l HL HL _ _ _ _ w7 RX.nodes R7.nodes (by omega) (by omega)).mono ?_
  rintro e w8 ⟨⟨u8, rfl, hu⟩, b8⟩
  have hu1 : u8 = true := hu.2 (lists_alike xs)
  subst hu1
  have RW := RW.below b8
  have RX := RX.below b8
  have RG := RG.below b8
  have b8 := Below.step b7 b8
  clear b7 hu R7
  go_wp2_with fail
  refine (markNodeS_any xs l gx l 1 w8 HL RX (by omega) (by omega) (by omega)).mono ?_
  rintro e w9 ⟨rfl, _, bu⟩
  have RW := HW0.out.far (B' := gx) hgx RW (bu.mono (fun k hk => Nat.le_of_eq hk.symm))
  have RG := RG.but bu (fun k hk => by omega)
  have b9 : Below w.heap.size w w9 := b8.trans (bu.below b8.size (fun q hq => by rw [hq]; exact hgx0))
  clear b8 RX bu
  go_wp2_with fail
  refine (eqSS_same Z p HP _ _ _ _ w9 RG.lists RW.lists HZM.out hZl).mono ?_
  rintro e w10 ⟨rfl, b10⟩
  have RW := RW.below b10
  have RG := RG.below b10
  have b10 := Below.step b9 b10
  clear b9
  go_wp2_with fail
  refine (markSS_any Z p HP _ gg pg cg 1 w10 RG HTT.out hZl (by omega) (by omega)).mono ?_
  rw [HT.out]
  rintro e w11 ⟨rfl, RM, bu⟩
  have RW := HW0.out.far (B' := w4.heap.size) (by omega) RW bu
  have b11 : Below w.heap.size w w11 := b10.trans (bu.below b10.size (fun q hq => by omega))
  clear b10 RG bu
  go_wp2_with fail
  refine (heldSS_any Z p HP _ gg pg cg 1 w11 RM HTT.out hZl (by omega) (by omega)).mono ?_
  rw [HT.out]
  rintro e w12 ⟨rfl, b12⟩
  have RW := RW.below b12
  have RM := RM.below b12
  have b12 := Below.step b11 b12
  clear b11
  go_wp2_with fail
  refine (TON.out w12 b12).mono ?_
  rintro e w13 ⟨g13, rfl, _, R13, b13⟩
  have RW := RW.below b13
  have RM := RM.below b13
  have b13 := Below.step b12 b13
  clear b12
  go_wp2_with fail
  refine (HI.out g13 w13 R13).mono ?_
  rintro e w14 ⟨gh, ch, ph, rfl, RH, b14⟩
  have RW := RW.below b14
  have RM := RM.below b14
  have b14 := Below.step b13 b14
  clear b13 R13
  go_wp2_with fail
  refine (eqSS_same Z p HP _ _ _ _ w14 RH.lists RW.lists HZM.out hZl).mono ?_
  rintro e w15 ⟨rfl, b15⟩
  have RM := RM.below b15
  have b15 := Below.step b14 b15
  clear b14 RH RW
  go_wp2_with fail
  refine (heldSS_any Z p HP _ gg pg cg 1 w15 RM HTT.out hZl (by omega) (by omega)).mono ?_
  rw [HT.out]
  rintro e w16 ⟨rfl, b16⟩
  have b16 := Below.step b15 b16
  clear b15 RM
  go_wp2
  go_ret
  exact ⟨rfl, b16⟩

end Go.Proofs.Ytkmlfpfgiblcdaa
