import Derived.Test.YtljdcaoibnikjaaSortA
namespace Go.Proofs.Ytljdcaoibnikjaa

open Go.RowKit

/-- What Instance answers. -/
def InstRes (g t : List Nd) (bs : List (Int × List Nd)) (b : Bool) : Prop :=
  (b = true → typeb g = true ∧ typeb t = true ∧ InstOk g t bs) ∧ (b = false → bs = [] ∧ (typeb g = false ∨ typeb t = false ∨ InstNo g t))

theorem type_side {t : List Nd} {m : Nat} (hm : t.length = m) (h : typeb t = true) : ∃ S ys s, Side t m S ys ∧ 0 < m ∧ ys[m - 1]? = some s ∧ s.fr = 0 ∧ span t s.fr (m - 1) = t ∧ sizesOf t = ys.map szOf := by
  unfold typeb at h
  simp only [Bool.and_eq_true, decide_eq_true_eq] at h
  obtain ⟨⟨h1, h2⟩, h3⟩ := h
  obtain ⟨h0, h6, S, ys, hA, hyl⟩ := deep_after hm h2
  obtain ⟨s, hs, hd, hr, _⟩ := deepOf_some hm h6 h0 hA
  have hf : s.fr = 0 := by
    by_cases hc : s.fr = 0 ∧ s.dp ≤ 300
    · exact hc.1
    · rw [if_neg hc] at hd; omega
  refine ⟨S, ys, s, ⟨hm, by omega, hA, h3⟩, h0, hs, hf, ?_, ?_⟩
  · unfold span
    rw [hf, List.drop_zero, List.take_of_length_le (by omega)]
  · unfold sizesOf
    rw [hm, hA]

theorem inst_res_same {g t : List Nd} {bs bs' : List (Int × List Nd)} {b b' : Bool} (h : InstRes g t bs b) (h' : InstRes g t bs' b') : bs = bs' ∧ b = b' := by
  cases b <;> cases b'
  · exact ⟨(h.2 rfl).1.trans (h'.2 rfl).1.symm, rfl⟩
  · exfalso
    obtain ⟨a1, a2, a3⟩ := h'.1 rfl
    obtain ⟨_, a4⟩ := h.2 rfl
    rcases a4 with a4 | a4 | a4
    · rw [a1] at a4; cases a4
    · rw [a2] at a4; cases a4
    · exact inst_no a3 a4
  · exfalso
    obtain ⟨a1, a2, a3⟩ := h.1 rfl
    obtain ⟨_, a4⟩ := h'.2 rfl
    rcases a4 with a4 | a4 | a4
    · rw [a1] at a4; cases a4
    · rw [a2] at a4; cases a4
    · exact inst_no a3 a4
  · obtain ⟨a1, a2, a3⟩ := h.1 rfl
    obtain ⟨_, _, a4⟩ := h'.1 rfl
    obtain ⟨S, ys, s, hS, h0, hs, hf, _, _⟩ := type_side rfl a1
    exact ⟨inst_same (plain_leafy hS.plain) h0 hS.run rfl hs hf a3 a4, rfl⟩

set_option maxRecDepth 100000 in
set_option maxHeartbeats 2000000 in
theorem specInst_any (g t : List Nd) (mg mt : Nat) (HMG : Hid (g.length = mg)) (HMT : Hid (t.length = mt)) (hmg : mg ≤ 1048576) (hmt : mt ≤ 1048576) (gb tb : Nat) (w : World) (hG : Row w gb g) (hT : Row w tb t) :
    Calls Try.prog 6 #[.slice (some ⟨gb, 0, none⟩) mg mg, .slice (some ⟨tb, 0, none⟩) mt mt] w fun e w' => ∃ ag c l bs b, e = .returned (.tuple #[.slice ag l c, .bool b]) ∧ bs.length = l ∧ InstRes g t bs b ∧ BAns w' w.heap.size ag bs ∧ PB bs ∧ l ≤ 300 ∧ Below w.heap.size w w' := by
  obtain ⟨i1, hj1, hy0, hy1, hy2⟩ := info_parts Try.infoB
  have hA : Below w.heap.size w (w.alloc (.cells #[] 52)) := (Below.refl _ w).alloc (Nat.le_refl _) _
  have hE := OwnBs.empty (w := w) (B := w.heap.size) (Nat.le_refl _)
  go_enter Try.func6, Try.ntmps6
  go_wp2_with fail
  refine (isType_any g mg HMG hmg _ _ _ (hG.below hA).nodes).mono ?_
  rintro e w1 ⟨rfl, hb1⟩
  have hbb1 := Below.step hA hb1
  have hE1 := hE.below hb1
  clear hb1 hA hE
  cases htg : typeb g
  · have HR : Hid (InstRes g t [] false) := ⟨(fun h => by cases h), fun _ => ⟨rfl, Or.inl htg⟩⟩
    clear hG hT hE1
    go_wp2
    go_ret2
    exact ⟨_, _, _, [], _, rfl, rfl, HR.out, Or.inl rfl, fun p hp => by simp at hp, by omega, hbb1⟩
  · go_wp2_with fail
    refine (isType_any t mt HMT hmt _ _ _ (hT.below hbb1).nodes).mono ?_
    rintro e w2 ⟨rfl, hb2⟩
    have hbb2 := Below.step hbb1 hb2
    have hE2 := hE1.below hb2
    clear hb2 hbb1 hE1
    cases htt : typeb t
    · have HR : Hid (InstRes g t [] false) := ⟨(fun h => by cases h), fun _ => ⟨rfl, Or.inr (Or.inl htt)⟩⟩
      clear hG hT hE2
      go_wp2
      go_ret2
      exact ⟨_, _, _, [], _, rfl, rfl, HR.out, Or.inl rfl, fun p hp => by simp at hp, by omega, hbb2⟩
    · obtain ⟨Sg, yg, sg, hSg, h0g, hsg, hfg, hspg, hszg⟩ := type_side HMG.out htg
      obtain ⟨St, yt, st, hSt, h0t, hst, hft, hspt, hszt⟩ := type_side HMT.out htt
      have hm3 := hSg.m300
      have ht3 := hSt.m300
      have hYG := (after_fine hSg.run).len
      have hYT := (after_fine hSt.run).len
      have HSG : Hid (Side g mg Sg yg) := hSg
      have HST : Hid (Side t mt St yt) := hSt
      go_wp2_with fail
      refine (sizes_any g mg HMG (by omega) _ _ w2 (hG.below hbb2).nodes).mono ?_
      rintro e w3 ⟨gz, cz, n3, rfl, hz3, hb3⟩
      rw [hszg] at hz3
      have en3 : n3 = mg := by have := hz3.1; simp at this; omega
      rw [en3] at hz3 ⊢
      have hlt2 := (owns_block hE2.2).2
      have hbb3 := Below.step hbb2 hb3
      have hE3 := hE2.below hb3
      have hs2 := hbb2.size
      have hzb := hz3.block
      clear hb3 hE2
      go_wp2_with fail
      refine (sizes_any t mt HMT (by omega) _ _ w3 (hT.below hbb3).nodes).mono ?_
      rintro e w4 ⟨tz, ct, n4, rfl, hz4, hb4⟩
      rw [hszt] at hz4
      have en4 : n4 = mt := by have := hz4.1; simp at this; omega
      rw [en4] at hz4 ⊢
      have hbb4 := Below.step hbb3 hb4
      have hE4 := hE3.below hb4
      have hz34 := hz3.below hb4
      have hs3 := hbb3.size
      have hs4 := hbb4.size
      have hzb4 := hz4.block
      have hGl := hG.lt
      have hTl := hT.lt
      have hG4 := hG.below hbb4
      have hT4 := hT.below hbb4
      have hB0 : Bst w4 w.heap.size w.heap.size 0 0 [] [] := ⟨hE4, ⟨rfl, hE4.row.2, (fun i h => by simp at h), by simp⟩, fun r hr => by simp at hr⟩
      have hneq : gb ≠ w.heap.size ∧ gz ≠ w.heap.size ∧ tb ≠ w.heap.size ∧ tz ≠ w.heap.size := ⟨by omega, by omega, by omega, by omega⟩
      have eg : ((mg : Int) - 1) = ((mg - 1 : Nat) : Int) := by omega
      have et : ((mt : Int) - 1) = ((mt - 1 : Nat) : Int) := by omega
      have HC := match_any g t Sg yg St yt mg mt HSG HST (mg - 1) (mt - 1) sg st gb gz cz tb tz ct w2.heap.size w3.heap.size w.heap.size w.heap.size 0 0 [] [] w4 (by omega) (by omega) hsg hst hG4 hz34 hT4 hz4 hB0 hneq (by simp [Hid, nums]) (fun p hp => by simp at hp) (fun p hp => by simp at hp) (fun x hx => by simp [nums] at hx)
      rw [hspg, hspt, ← eg, ← et] at HC
      clear hE3 hE4 hz3 hz34 hz4 hG4 hT4 hB0 hneq hsg hst hspg hspt hszg hszt hSg hSt hYG hYT eg et hfg hft
      go_wp2_with fail
      refine HC.mono ?_
      rintro e w5 ⟨v5, b5, rfl, hm5⟩
      have hbb5 : Below w.heap.size w w5 := hbb4.trans (hm5.1.below (by omega) (fun k hk => by omega))
      cases b5
      · have HR : Hid (InstRes g t [] false) := ⟨(fun h => by cases h), fun _ => ⟨rfl, Or.inr (Or.inr (fun θ hθ => hm5.2.2 rfl θ hθ (fun p hp => by simp at hp)))⟩⟩
        clear HC hm5
        go_wp2
        go_ret2
        exact ⟨_, _, _, [], _, rfl, rfl, HR.out, Or.inl rfl, fun p hp => by simp at hp, by omega, hbb5⟩
      · obtain ⟨q, c, l, rs, bs, rfl, hBs, hMo, hPB, hq⟩ := hm5.2.1 rfl
        have hl3 : l ≤ 300 := by
          have h1 := nodup_len hMo.nodup (ys := metas g) (fun x hx => by
            rcases (hMo.mem x).1 hx with h | h
            · simp [nums] at h
            · exact h)
          have h2 := metas_len g
          have h3 := hBs.len
          have h4 := HMG.out
          simp only [nums, List.length_map] at h1
          omega
        have HMO : Hid (MatchOk [] g t bs) := hMo
        have HPB : Hid (PB bs) := hPB
        have HTG : Hid (typeb g = true ∧ typeb t = true) := ⟨htg, htt⟩
        clear HC hm5 hMo hPB
        obtain ⟨its, hits⟩ : ∃ its, itsOf rs bs = its := ⟨_, rfl⟩
        have HITS : Hid (itsOf rs bs = its) := hits
        have hle : its.length = l := by
          rw [← hits]
          have h1 := hBs.two.len
          have h2 := hBs.len
          simp [itsOf]
          omega
        have HL : Hid (its.length = l) := hle
        have hOB : OwnB w5 q (its.map It.cells) := by
          rw [← hits, itsOf_lead]
          exact hBs.own.row.2
        have hO0 := OwnBs.empty (w := w5) (B := w5.heap.size) (Nat.le_refl _)
        have hA5 : Below w5.heap.size w5 (w5.alloc (.cells #[] 52)) := (Below.refl _ w5).alloc (Nat.le_refl _) _
        go_wp2
        go_loopw [9, 10] (fun v p wr => ∃ (k g9 c9 : Nat), k ≤ l ∧ p = .int .i64 k ∧ v = .slice (some ⟨g9, 0, none⟩) k c9 ∧ OwnBs wr w5.heap.size g9 c9 k ((sortA (its.take k)).map It.cells) ∧ Below w5.heap.size w5 wr) (fun _ p _ => l - (intOf p).toNat)
        case atStart => exact ⟨0, w5.heap.size, 0, Nat.zero_le _, rfl, rfl, hO0, hA5⟩
        case round =>
          clear hO0 hA5
          obtain ⟨k, g9, c9, hk, rfl, rfl, hown, hb⟩ := hrel
          by_cases hlt : k < l
          · have hltx : k < its.length := by have := HL.out; omega
            have hrow := OwnT.below hOB hb
            obtain ⟨c0, c1⟩ := OwnB.at hrow k (by simpa using hltx)
            obtain ⟨⟨xa, ⟨xr, xc⟩, xT⟩, hx⟩ : ∃ x, its[k] = x := ⟨_, rfl⟩
            simp only [List.getElem_map, hx, It.cells] at c0 c1
            obtain ⟨xl, hxl⟩ : ∃ xl, xT.length = xl := ⟨_, rfl⟩
            have HXL : Hid (xT.length = xl) := hxl
            rw [hxl] at c1
            have hqb := hBs.block
            have hsb := hb.size
            have hqr : q < wr.heap.size := by omega
            have hob := owns_block hown.2
            have HS : Hid (sortA (its.take (k + 1)) = insB (sortA (its.take k)) (xa, (xr, xc), xT)) := by
              show sortA (its.take (k + 1)) = _
              rw [sortA_take its k hltx, hx]
            clear hrow hx hxl
            have hl9 : (sortA (its.take k)).length = k := by have := hown.1; simpa using this
            go_wp2_with (at_builtin; refine wpList_append2 _ rfl (.tmp 50) (.tmp 55) 24 rfl w5.heap.size 52 i1 _ 2 32 Try.underlying24 hj1 hy0 hy1 hy2 rfl (by decide) g9 k c9 _ rfl (hown.alloc _).2 ⟨_, 0, none⟩ 1 1 [.int .i64 xa, .slice (some ⟨xr, 0, none⟩) xl xc] rfl rfl (bind_cells _ xa _) (bind_one _ _ _ _) ?a3 ?a4 ?a5 ?_)
            case a3 => unfold maxLen; omega
            case a4 => omega
            case a5 => simp; omega
            intro g2 c2 w6 hown2 hgrow2 hwh
            have hO : OwnBs w6 w5.heap.size g2 c2 (k + 1) ((sortA (its.take k) ++ [(xa, (xr, xc), xT)]).map It.cells) := by
              have h9 := OwnBs.push (x := (.int .i64 xa, .slice (some ⟨xr, 0, none⟩) xl xc)) hown2 hown.1 rfl
              rw [List.map_append]
              simp only [List.map_cons, List.map_nil, It.cells]
              rw [HXL.out]
              exact h9
            have hbb : Below w5.heap.size w5 w6 := (hb.alloc hb.size _).grown hgrow2 (by simp; omega) (fun q hq => by cases hq; exact hob.1)
            generalize sortA (its.take k) = out at *
            clear hown2 hgrow2 hwh hown hb c0 c1 hob hqr
            go_wp2
            go_loopw [11] (fun p wq => ∃ (j : Nat) (A B : List It), p = .int .i64 j ∧ A.length = j ∧ j ≤ k ∧ OwnBs wq w5.heap.size g2 c2 (k + 1) ((A ++ (xa, (xr, xc), xT) :: B).map It.cells) ∧ (insA (xa, (xr, xc), xT) A.reverse).reverse ++ B = insB out (xa, (xr, xc), xT) ∧ Below w5.heap.size w5 wq) (fun p _ => (intOf p).toNat)
            case atStart => exact ⟨k, out, [], by go_num, hl9, Nat.le_refl _, hO, by simp [insB], hbb⟩
            case round =>
              clear hO hbb hl9
              obtain ⟨j, A, B, rfl, hA, hjk, hown, hins, hb⟩ := hrel
              have hrow := hown.row.2
              have hob := owns_block hown.2
              have hln : A.length + (B.length + 1) = k + 1 := by have h9 := hown.1; simpa using h9
              obtain ⟨d0, d1⟩ := OwnB.at hrow j (by simp; omega)
              have hxe : (A ++ (xa, (xr, xc), xT) :: B)[j]'(by simp; omega) = (xa, (xr, xc), xT) := by simp [← hA]
              simp only [List.getElem_map, hxe, It.cells] at d0 d1
              rw [HXL.out] at d1
              have hfin : OwnBs wr w5.heap.size g2 c2 (k + 1) ((A ++ (xa, (xr, xc), xT) :: B).map It.cells) := hown
              by_cases hj0 : 0 < j
              · obtain ⟨A', y, rfl⟩ : ∃ A' y, A = A' ++ [y] := by
                  rcases List.eq_nil_or_concat A with rfl | ⟨A', y, rfl⟩
                  · simp at hA; omega
                  · exact ⟨A', y, by simp⟩
                obtain ⟨ya, ⟨yr, yc⟩, yT⟩ := y
                obtain ⟨yl, hyl⟩ : ∃ yl, yT.length = yl := ⟨_, rfl⟩
                have HYL : Hid (yT.length = yl) := hyl
                have hA' : A'.length = j - 1 := by simp at hA; omega
                obtain ⟨e0, e1⟩ := OwnB.at hrow (j - 1) (by simp; omega)
                have hye : ((A' ++ [(ya, (yr, yc), yT)]) ++ (xa, (xr, xc), xT) :: B)[j - 1]'(by simp; omega) = (ya, (yr, yc), yT) := by
                  simp [← hA']
                simp only [List.getElem_map, hye, It.cells] at e0 e1
                rw [hyl] at e1
                clear hyl
                by_cases hxy : xa < ya
                · have hst := insB_step A' (ya, (yr, yc), yT) (xa, (xr, xc), xT) B hxy
                  rw [hins] at hst
                  have tlt : decide (xa < ya) = true := decide_eq_true hxy
                  clear hins hrow hfin hxe hye
                  go_wp2_with fail
                  go_quiet (fail)
                  have hdr := below_drewN wr nq
                  have d0' := (hdr.cell (p := ⟨g2, j * 2, none⟩) hob.2).trans d0
                  have d1' := (hdr.cell (p := ⟨g2, j * 2 + 1, none⟩) hob.2).trans d1
                  have e0' := (hdr.cell (p := ⟨g2, (j - 1) * 2, none⟩) hob.2).trans e0
                  have e1' := (hdr.cell (p := ⟨g2, (j - 1) * 2 + 1, none⟩) hob.2).trans e1
                  have hown' := hown.below hdr
                  have hb' := Below.step hb hdr
                  have hob' := owns_block hown'.2
                  clear hdr d0 d1 e0 e1 hown hb hob
                  generalize wr.drewN nq = W2 at *
                  have f0 := OwnT.frozen hown'.row.2 (j * 2)
                  have f1 := OwnT.frozen hown'.row.2 (j * 2 + 1)
                  have f2 := OwnT.frozen hown'.row.2 ((j - 1) * 2)
                  have f3 := OwnT.frozen hown'.row.2 ((j - 1) * 2 + 1)
                  have HO : Hid (OwnBs (((((W2.setCell ⟨g2, j * 2, none⟩ (.int .i64 ya)).setCell ⟨g2, j * 2 + 1, none⟩ (.slice (some ⟨yr, 0, none⟩) yl yc)).setCell ⟨g2, (j - 1) * 2, none⟩ (.int .i64 xa)).setCell ⟨g2, (j - 1) * 2 + 1, none⟩ (.slice (some ⟨xr, 0, none⟩) xl xc)).alloc (.cells #[.int .i64 xa, .slice (some ⟨xr, 0, none⟩) xl xc] 52)) w5.heap.size g2 c2 (k + 1) ((A' ++ (xa, (xr, xc), xT) :: ((ya, (yr, yc), yT) :: B)).map It.cells)) := by
                    have h9 := ((hown'.put j (.int .i64 ya) (.slice (some ⟨yr, 0, none⟩) yl yc)).put (j - 1) (.int .i64 xa) (.slice (some ⟨xr, 0, none⟩) xl xc)).alloc (.cells #[.int .i64 xa, .slice (some ⟨xr, 0, none⟩) xl xc] 52)
                    have ey : ((.int .i64 ya, .slice (some ⟨yr, 0, none⟩) yl yc) : Value × Value) = It.cells (ya, (yr, yc), yT) := by simp only [It.cells]; rw [HYL.out]
                    have ex : ((.int .i64 xa, .slice (some ⟨xr, 0, none⟩) xl xc) : Value × Value) = It.cells (xa, (xr, xc), xT) := by simp only [It.cells]; rw [HXL.out]
                    rw [ex, ey, ← List.map_set, ← List.map_set] at h9
                    have e9 : (((A' ++ [(ya, (yr, yc), yT)]) ++ (xa, (xr, xc), xT) :: B).set j (ya, (yr, yc), yT)).set (j - 1) (xa, (xr, xc), xT) = A' ++ (xa, (xr, xc), xT) :: ((ya, (yr, yc), yT) :: B) := by
                      have ej : j = A'.length + 1 := by omega
                      rw [ej]
                      exact swapI A' B (xa, (xr, xc), xT) (ya, (yr, yc), yT)
                    rw [e9] at h9
                    exact h9
                  have HB : Hid (Below w5.heap.size w5 (((((W2.setCell ⟨g2, j * 2, none⟩ (.int .i64 ya)).setCell ⟨g2, j * 2 + 1, none⟩ (.slice (some ⟨yr, 0, none⟩) yl yc)).setCell ⟨g2, (j - 1) * 2, none⟩ (.int .i64 xa)).setCell ⟨g2, (j - 1) * 2 + 1, none⟩ (.slice (some ⟨xr, 0, none⟩) xl xc)).alloc (.cells #[.int .i64 xa, .slice (some ⟨xr, 0, none⟩) xl xc] 52))) := by
                    have b4 : But (· = g2) W2 ((((W2.setCell ⟨g2, j * 2, none⟩ (.int .i64 ya)).setCell ⟨g2, j * 2 + 1, none⟩ (.slice (some ⟨yr, 0, none⟩) yl yc)).setCell ⟨g2, (j - 1) * 2, none⟩ (.int .i64 xa)).setCell ⟨g2, (j - 1) * 2 + 1, none⟩ (.slice (some ⟨xr, 0, none⟩) xl xc)) := ((((But.refl (· = g2) W2).setCell (p := ⟨g2, j * 2, none⟩) rfl _).setCell (p := ⟨g2, j * 2 + 1, none⟩) rfl _).setCell (p := ⟨g2, (j - 1) * 2, none⟩) rfl _).setCell (p := ⟨g2, (j - 1) * 2 + 1, none⟩) rfl _
                    have h9 := hb'.trans (b4.below hb'.size (fun q hq => by omega))
                    exact h9.alloc h9.size _
                  have HI : Hid ((insA (xa, (xr, xc), xT) A'.reverse).reverse ++ ((ya, (yr, yc), yT) :: B) = insB out (xa, (xr, xc), xT)) := hst.symm
                  clear hst
                  go_wp2
                  go_roundw
                  case rel => exact ⟨j - 1, A', (ya, (yr, yc), yT) :: B, by go_num, hA', by omega, HO.out, HI.out, HB.out⟩
                  case measure => simp [intOf]; omega
                · have tlt : decide (xa < ya) = false := decide_eq_false hxy
                  have HE : Hid (A' ++ [(ya, (yr, yc), yT)] ++ (xa, (xr, xc), xT) :: B = insB out (xa, (xr, xc), xT)) := by
                    show A' ++ [(ya, (yr, yc), yT)] ++ (xa, (xr, xc), xT) :: B = _
                    rw [← hins, insB_stop (A' ++ [(ya, (yr, yc), yT)]) (xa, (xr, xc), xT) (by intro y hy; simp at hy; subst hy; exact hxy)]
                    simp
                  clear hins hrow hxe hye hown
                  go_wp2_with fail
                  go_quiet (fail)
                  have hdr := below_drewN wr nq
                  have hfin' := hfin.below hdr
                  have hb' := Below.step hb hdr
                  rw [HE.out, ← HS.out] at hfin'
                  clear hdr d0 d1 e0 e1 hfin hb
                  generalize wr.drewN nq = W2 at *
                  go_wp2
                  go_roundw
                  case rel => exact ⟨k + 1, g2, c2, by omega, by go_num, rfl, hfin', hb'⟩
                  case measure => simp [intOf]; omega
              · have hA0 : A = [] := List.eq_nil_of_length_eq_zero (by omega)
                subst hA0
                have HE : Hid ([] ++ (xa, (xr, xc), xT) :: B = insB out (xa, (xr, xc), xT)) := by
                  show [] ++ (xa, (xr, xc), xT) :: B = _
                  rw [← hins]
                  rfl
                have tj : decide ((j : Int) > 0) = false := decide_eq_false (by omega)
                clear hins hrow hxe hown
                go_wp2_with fail
                go_quiet (fail)
                have hdr := below_drewN wr nq
                have hfin' := hfin.below hdr
                have hb' := Below.step hb hdr
                rw [HE.out, ← HS.out] at hfin'
                clear hdr d0 d1 hfin hb
                generalize wr.drewN nq = W2 at *
                go_wp2
                go_roundw
                case rel => exact ⟨k + 1, g2, c2, by omega, by go_num, rfl, hfin', hb'⟩
                case measure => simp [intOf]; omega
          · have hke : k = l := by omega
            subst hke
            rw [List.take_of_length_le (by have := HL.out; omega)] at hown
            have hpm := sortA_perm its
            have htw : TwoR wr g9 ((sortA its).map (fun p => p.2.1)) ((sortA its).map It.bind) := by
              refine TwoR.perm hBs.two (by rw [HITS.out]; exact hpm) ?_ hown.row.2
              intro r zs hr hrow
              exact hrow.below hb
            have hbs : ((sortA its).map It.bind).Perm bs := by
              have h9 := hpm.map It.bind
              rw [← HITS.out, itsOf_binds hBs.two.len] at h9
              rw [← HITS.out]
              exact h9
            have hnum : (nums bs).Nodup := HMO.out.nodup
            have hup : Up (nums ((sortA its).map It.bind)) := by
              have h9 := sortA_up its (by
                have h8 : its.map Prod.fst = nums bs := by
                  rw [← HITS.out]
                  have h7 := itsOf_binds hBs.two.len
                  have h6 : nums ((itsOf rs bs).map It.bind) = (itsOf rs bs).map Prod.fst := by simp [nums, It.bind]
                  rw [← h6, h7]
                rw [h8]
                exact hnum)
              have e9 : nums ((sortA its).map It.bind) = (sortA its).map Prod.fst := by simp [nums, It.bind]
              rw [e9]
              unfold Up
              rw [List.pairwise_map]
              exact h9
            have HR : Hid (InstRes g t ((sortA its).map It.bind) true) := by
              refine ⟨fun _ => ⟨HTG.out.1, HTG.out.2, ⟨hup, ?_, ?_, ?_⟩⟩, fun h => by cases h⟩
              · intro x
                have h9 := (hbs.map Prod.fst).mem_iff (a := x)
                rw [show nums ((sortA its).map It.bind) = ((sortA its).map It.bind).map Prod.fst from rfl, h9]
                rw [show bs.map Prod.fst = nums bs from rfl, HMO.out.mem]
                simp [nums]
              · intro p hp
                exact HMO.out.one p (hbs.mem_iff.1 hp)
              · intro θ hE
                exact HMO.out.fills θ (fun p hp => hE p (hbs.mem_iff.2 hp))
            have HF : Hid (∀ r ∈ (sortA its).map (fun p => p.2.1), w.heap.size ≤ r.1) := by
              intro r hr
              obtain ⟨p, hp, rfl⟩ := List.mem_map.1 hr
              have h9 := hpm.mem_iff.1 hp
              refine hBs.far _ ?_
              have h8 : p.2.1 ∈ its.map (fun p : It => p.2.1) := List.mem_map.2 ⟨p, h9, rfl⟩
              rw [← HITS.out, itsOf_rows hBs.two.len] at h8
              exact h8
            have hln : ((sortA its).map It.bind).length = k := by rw [List.length_map, hpm.length_eq]; exact HL.out
            have hg9 : w.heap.size ≤ g9 := by have := hown.row.1; have := hbb5.size; omega
            have hPB2 : PB ((sortA its).map It.bind) := fun p hp => HPB.out p (hbs.mem_iff.1 hp)
            have hbf := hbb5.trans (hb.mono hbb5.size)
            clear hown hbs hnum hup hBs hOB hpm
            go_wp2
            go_ret2
            exact ⟨_, _, _, _, _, rfl, hln, HR.out, Or.inr ⟨g9, _, rfl, hg9, HF.out, htw⟩, hPB2, hl3, hbf⟩

end Go.Proofs.Ytljdcaoibnikjaa
