
import Derived.Test.YtljdcaoibnikjaaSchA
import Derived.Test.YtljdcaoibnikjaaICanon
namespace Go.Proofs.Ytljdcaoibnikjaa
open Go.RowKit

theorem map_take_succ' {α β : Type} (f : α → β) (t : List α) (k : Nat) (h : k < t.length) : (t.take (k + 1)).map f = (t.take k).map f ++ [f t[k]] := by
  rw [List.take_succ_eq_append_getElem h, List.map_append]
  rfl

/-- One store into a row: the kind of a node. -/
theorem Row.putKind {w : World} {g : Nat} {ys : List Nd} (h : Row w g ys) (i : Nat) (hi : i < ys.length) (v : Int) :
    Row (w.setCell ⟨g, i * 5, none⟩ (.int .i64 v)) g (ys.set i { ys[i] with kind := v }) := by
  have hl := flat_length ys
  refine (Own.set h (i * 5) _ (by omega)).row ?_
  rw [← flat_set ys i hi]
  apply List.ext_getElem?
  intro j
  simp only [List.getElem?_set, List.length_set]
  have e1 := flat_get ys i 1 hi (by omega)
  have e2 := flat_get ys i 2 hi (by omega)
  have e3 := flat_get ys i 3 hi (by omega)
  have e4 := flat_get ys i 4 hi (by omega)
  simp only [Nd.row] at e1 e2 e3 e4
  simp only [List.getElem?_cons_zero, List.getElem?_cons_succ] at e1 e2 e3 e4
  by_cases j4 : i * 5 + 4 = j
  · subst j4; simp [e4, hl]; omega
  · by_cases j3 : i * 5 + 3 = j
    · subst j3; simp [e3, hl]; omega
    · by_cases j2 : i * 5 + 2 = j
      · subst j2; simp [e2, hl]; omega
      · by_cases j1 : i * 5 + 1 = j
        · subst j1; simp [e1, hl]; omega
        · by_cases j0 : i * 5 = j
          · subst j0; simp [hl]
          · simp [j0, j1, j2, j3, j4]

theorem Row.putMidK {w : World} {g k : Nat} {out rest : List Nd} {kd nm v : Int} {tx : ByteArray} {ks pl : Int} (h : Row w g (out ++ (⟨kd, nm, tx, ks, pl⟩ : Nd) :: rest)) (hk : out.length = k) :
    Row (w.setCell ⟨g, k * 5, none⟩ (.int .i64 v)) g (out ++ [⟨v, nm, tx, ks, pl⟩] ++ rest) := by
  have hlen : k < (out ++ (⟨kd, nm, tx, ks, pl⟩ : Nd) :: rest).length := by simp [hk]
  have e9 : (out ++ (⟨kd, nm, tx, ks, pl⟩ : Nd) :: rest)[k] = ⟨kd, nm, tx, ks, pl⟩ := by
    rw [List.getElem_append_right (by omega)]
    simp [hk]
  have h9 := h.putKind k hlen v
  rw [e9, set_mid _ _ _ _ _ hk] at h9
  exact h9

theorem Row.mid {w : World} {g k : Nat} {out rest : List Nd} {kd nm : Int} {tx : ByteArray} {ks pl : Int} (h : Row w g (out ++ (⟨kd, nm, tx, ks, pl⟩ : Nd) :: rest)) (hk : out.length = k) :
    NodeAt w g (k * 5) ⟨kd, nm, tx, ks, pl⟩ := by
  have hlen : k < (out ++ (⟨kd, nm, tx, ks, pl⟩ : Nd) :: rest).length := by simp [hk]
  have e9 : (out ++ (⟨kd, nm, tx, ks, pl⟩ : Nd) :: rest)[k] = ⟨kd, nm, tx, ks, pl⟩ := by
    rw [List.getElem_append_right (by omega)]
    simp [hk]
  have hn := h.node k hlen
  rw [e9] at hn
  exact hn

theorem isCount_any (n : Int) (w : World) :
    Calls Try.prog 38 #[.int .i64 n] w fun e w' => e = .returned (.bool (countb n)) ∧ Below w.heap.size w w' := by
  go_enter Try.func38, Try.ntmps38
  by_cases h0 : 0 ≤ n
  · go_wp2
    go_ret
    exact ⟨by simp [countb, h0], Below.refl _ _⟩
  · go_wp2
    go_ret
    exact ⟨by simp [countb]; omega, Below.refl _ _⟩

set_option maxRecDepth 100000 in
set_option maxHeartbeats 4000000 in
theorem implScheme_any (nm nd fr ct : Int) (na : ByteArray) (t : List Nd) (m : Nat) (HM : Hid (t.length = m)) (hm : m ≤ 1048576) (HW : Hid (∀ n ∈ t, (Lit.int .i64 n.num).wf = true)) (ao : Option Addr) (cap : Nat) (w : World) (hx : Nodes w ao t) :
    Calls Try.prog 17 #[.agg #[.int .i64 nm, .string na, .int .i64 nd, .int .i64 fr, .int .i64 ct, .slice ao m cap]] w fun e w' => ∃ ag cg, e = .returned (.slice ag (schemeOf fr ct t).length cg) ∧ Ans w' w.heap.size ag (schemeOf fr ct t) ∧ Below w.heap.size w w' := by
  have hA : Below w.heap.size w (w.alloc (.cells #[.int .i64 nm, .string na, .int .i64 nd, .int .i64 fr, .int .i64 ct, .slice ao m cap] 39)) := (Below.refl _ w).alloc (Nat.le_refl _) _
  have hKA : (w.alloc (.cells #[.int .i64 nm, .string na, .int .i64 nd, .int .i64 fr, .int .i64 ct, .slice ao m cap] 39)).heap[w.heap.size]? = some (.cells #[.int .i64 nm, .string na, .int .i64 nd, .int .i64 fr, .int .i64 ct, .slice ao m cap] 39 (0, 0)) := heap_alloc_new _ _
  have hZA : (w.alloc (.cells #[.int .i64 nm, .string na, .int .i64 nd, .int .i64 fr, .int .i64 ct, .slice ao m cap] 39)).heap.size = w.heap.size + 1 := by simp
  have HG := implGround_any t m HM hm ao cap _ (hx.below hA)
  have Q : ∀ (wA W : World), wA.heap[w.heap.size]? = some (.cells #[.int .i64 nm, .string na, .int .i64 nd, .int .i64 fr, .int .i64 ct, .slice ao m cap] 39 (0, 0)) → wA.heap.size = w.heap.size + 1 → Below wA.heap.size wA W → W.cell? ⟨w.heap.size, 3, none⟩ = some (.int .i64 fr) ∧ W.cell? ⟨w.heap.size, 4, none⟩ = some (.int .i64 ct) ∧ W.cell? ⟨w.heap.size, 5, none⟩ = some (.slice ao m cap) := by
    intro wA W hK hZ hb
    have h9 := (hb.block w.heap.size (by omega)).trans hK
    refine ⟨?_, ?_, ?_⟩
    all_goals
      rw [cell_of_row _ _ _ _ 39 (0, 0) h9]
      rfl
  have HQ : Hid (∀ (wA W : World), wA.heap[w.heap.size]? = some (.cells #[.int .i64 nm, .string na, .int .i64 nd, .int .i64 fr, .int .i64 ct, .slice ao m cap] 39 (0, 0)) → wA.heap.size = w.heap.size + 1 → Below wA.heap.size wA W → W.cell? ⟨w.heap.size, 3, none⟩ = some (.int .i64 fr) ∧ W.cell? ⟨w.heap.size, 4, none⟩ = some (.int .i64 ct) ∧ W.cell? ⟨w.heap.size, 5, none⟩ = some (.slice ao m cap)) := Q
  clear Q
  cases hg : groundOf t
  · rw [hg] at HG
    have HV : Hid (schemeOf fr ct t = []) := by simp [Hid, schemeOf, hg]
    clear hx
    go_enter Try.func17, Try.ntmps17
    go_wp2_with fail
    refine HG.mono ?_
    rintro e w1 ⟨rfl, hb1⟩
    have hb := Below.step hA hb1
    clear HG hA hb1
    go_wp2
    go_ret
    rw [HV.out]
    exact ⟨_, _, rfl, Or.inl rfl, hb.alloc hb.size _⟩
  · rw [hg] at HG
    have h300 : m ≤ 300 := by have := ground_span hg; have := HM.out; omega
    have ht0 : 0 < t.length := by
      have h9 := hg
      simp only [groundOf, Bool.and_eq_true, decide_eq_true_eq] at h9
      obtain ⟨h3, _⟩ := deep_after rfl h9.1.1.2
      exact h3
    cases hcf : countb fr
    · have HV : Hid (schemeOf fr ct t = []) := by simp [Hid, schemeOf, hcf]
      clear hx hg
      go_enter Try.func17, Try.ntmps17
      go_wp2_with fail
      generalize w.alloc (.cells #[.int .i64 nm, .string na, .int .i64 nd, .int .i64 fr, .int .i64 ct, .slice ao m cap] 39) = wA at *
      refine HG.mono ?_
      rintro e w1 ⟨rfl, hb1⟩
      obtain ⟨q3, q4, q5⟩ := HQ.out wA w1 hKA hZA hb1
      have IC := isCount_any fr
      rw [hcf] at IC
      clear HG
      go_wp2_with fail
      refine (IC w1).mono ?_
      rintro e w2 ⟨rfl, hb2⟩
      have hb := Below.step hA (Below.step hb1 hb2)
      clear hA hb1 hb2 IC q3 q4 q5
      go_wp2
      go_ret
      rw [HV.out]
      exact ⟨_, _, rfl, Or.inl rfl, hb.alloc hb.size _⟩
    · cases hcc : countb ct
      · have HV : Hid (schemeOf fr ct t = []) := by simp [Hid, schemeOf, hcc]
        clear hx hg
        go_enter Try.func17, Try.ntmps17
        go_wp2_with fail
        generalize w.alloc (.cells #[.int .i64 nm, .string na, .int .i64 nd, .int .i64 fr, .int .i64 ct, .slice ao m cap] 39) = wA at *
        refine HG.mono ?_
        rintro e w1 ⟨rfl, hb1⟩
        obtain ⟨q3, q4, q5⟩ := HQ.out wA w1 hKA hZA hb1
        have IC := isCount_any fr
        rw [hcf] at IC
        have IC2 := isCount_any ct
        rw [hcc] at IC2
        clear HG
        go_wp2_with fail
        refine (IC w1).mono ?_
        rintro e w2 ⟨rfl, hb2⟩
        have hb12 := Below.step hb1 hb2
        clear hb1 hb2 IC q3 q4 q5
        obtain ⟨q3, q4, q5⟩ := HQ.out wA w2 hKA hZA hb12
        go_wp2_with fail
        refine (IC2 w2).mono ?_
        rintro e w3 ⟨rfl, hb3⟩
        have hb := Below.step hA (Below.step hb12 hb3)
        clear hA hb12 hb3 IC2 q3 q4 q5
        go_wp2
        go_ret
        rw [HV.out]
        exact ⟨_, _, rfl, Or.inl rfl, hb.alloc hb.size _⟩
      · have HV : Hid (schemeOf fr ct t = canonOf (t.map (schNode fr ct))) := by simp [Hid, schemeOf, hg, hcf, hcc]
        have hcr : 0 ≤ fr ∧ fr ≤ 1000000 ∧ 0 ≤ ct ∧ ct ≤ 1000000 := by
          simp only [countb, Bool.and_eq_true, decide_eq_true_eq] at hcf hcc
          omega
        obtain ⟨n1, n2, n3, n4⟩ := hcr
        obtain ⟨b, o, rfl, _⟩ := hx 0 ht0
        have HX : Hid (Nodes w (some ⟨b, o, none⟩) t) := hx
        clear hx hg
        go_enter Try.func17, Try.ntmps17
        go_wp2_with fail
        generalize w.alloc (.cells #[.int .i64 nm, .string na, .int .i64 nd, .int .i64 fr, .int .i64 ct, .slice (some ⟨b, o, none⟩) m cap] 39) = wA at *
        refine HG.mono ?_
        rintro e w1 ⟨rfl, hb1⟩
        obtain ⟨q3, q4, q5⟩ := HQ.out wA w1 hKA hZA hb1
        have IC := isCount_any fr
        rw [hcf] at IC
        have IC2 := isCount_any ct
        rw [hcc] at IC2
        clear HG
        go_wp2_with fail
        refine (IC w1).mono ?_
        rintro e w2 ⟨rfl, hb2⟩
        have hb12 := Below.step hb1 hb2
        clear hb1 hb2 IC q3 q4 q5
        obtain ⟨q3, q4, q5⟩ := HQ.out wA w2 hKA hZA hb12
        go_wp2_with fail
        refine (IC2 w2).mono ?_
        rintro e w3 ⟨rfl, hb3⟩
        have hb13 := Below.step hb12 hb3
        clear hb12 hb3 IC2 q3 q4 q5
        obtain ⟨q3, q4, q5⟩ := HQ.out wA w3 hKA hZA hb13
        have hx3 := (HX.out.below hA).below hb13
        go_wp2_with fail
        refine (clone_any t m HM hm _ cap w3 hx3).mono ?_
        rintro e w4 ⟨g, c, rfl, hg4, hr4, hb4⟩
        have hb14 := Below.step hb13 hb4
        have hgA : wA.heap.size ≤ g := by have := hb13.size; omega
        have HK : Hid (wA.heap[w.heap.size]? = some (.cells #[.int .i64 nm, .string na, .int .i64 nd, .int .i64 fr, .int .i64 ct, .slice (some ⟨b, o, none⟩) m cap] 39 (0, 0))) := hKA
        have HZ : Hid (wA.heap.size = w.heap.size + 1) := hZA
        have hwg : w.heap.size < g := by omega
        clear hb13 hb4 hx3 q3 q4 q5 hKA hZA hg4
        go_wp2
        go_loopw [28] (fun i wr => ∃ (k : Nat), k ≤ m ∧ i = .int .i64 k ∧ Row wr g ((t.take k).map (schNode fr ct) ++ t.drop k) ∧ Below wA.heap.size wA wr)
          (fun i _ => m - (intOf i).toNat)
        case atStart => exact ⟨0, Nat.zero_le _, rfl, by simpa using hr4, hb14⟩
        case round =>
          clear hr4 hb14
          obtain ⟨k, hk, rfl, hrow, hbr⟩ := hrel
          obtain ⟨q3, q4, q5⟩ := HQ.out wA wr HK.out HZ.out hbr
          by_cases hlt : k < m
          · have hltx : k < t.length := by have := HM.out; omega
            have hol : ((t.take k).map (schNode fr ct)).length = k := by simp; omega
            have hdrop : t.drop k = t[k] :: t.drop (k + 1) := (List.drop_eq_getElem_cons hltx)
            have hwf := HW.out t[k] (List.getElem_mem hltx)
            obtain ⟨⟨kd, nu, tx, ks, pl⟩, hxk⟩ : ∃ x, t[k] = x := ⟨_, rfl⟩
            have hsucc := map_take_succ' (schNode fr ct) t k hltx
            rw [hxk] at hwf hdrop hsucc
            obtain ⟨out, hout⟩ : ∃ out, (t.take k).map (schNode fr ct) = out := ⟨_, rfl⟩
            obtain ⟨rest, hrest⟩ : ∃ rest, t.drop (k + 1) = rest := ⟨_, rfl⟩
            rw [hdrop, hout, hrest] at hrow
            rw [hout] at hol hsucc
            have HS : Hid ((t.take (k + 1)).map (schNode fr ct) ++ t.drop (k + 1) = out ++ [schNode fr ct ⟨kd, nu, tx, ks, pl⟩] ++ rest) := by
              show _ = _
              rw [hsucc, hrest]
            have hnu : -9223372036854775808 ≤ nu ∧ nu ≤ 9223372036854775807 := by
              have b1 : IntKind.i64.min = -9223372036854775808 := rfl
              have b2 : IntKind.i64.max = 9223372036854775807 := rfl
              simpa [Lit.wf, b1, b2] using hwf
            obtain ⟨c0, c1, c2, c3, c4⟩ := hrow.mid hol
            simp only at c0 c1 c2 c3 c4
            have hgl : g < wr.heap.size := hrow.lt
            have hwz : w.heap.size < wr.heap.size := by omega
            clear hxk hwf hdrop hsucc hout hrest
            by_cases hP : kd = 60 ∧ fr ≤ nu ∧ nu < fr + ct
            · obtain ⟨rfl, hp1, hp2⟩ := hP
              have HN : Hid (schNode fr ct ⟨60, nu, tx, ks, pl⟩ = ⟨61, nu, tx, ks, pl⟩) := by simp [Hid, schNode, hp1, hp2]
              have hfz := hrow.frozen (k * 5)
              go_wp2
              go_roundw
              case rel =>
                refine ⟨k + 1, by omega, by go_num, ?_, ?_⟩
                · rw [HS.out, HN.out]
                  exact (hrow.putMidK hol).below ((Below.refl _ _).alloc (Nat.le_refl _) _)
                · have b9 := hbr.setCell (p := ⟨g, k * 5, none⟩) hgA (.int .i64 61)
                  exact b9.alloc b9.size _
              case measure => simp [intOf]; omega
            · have HN : Hid (schNode fr ct ⟨kd, nu, tx, ks, pl⟩ = ⟨kd, nu, tx, ks, pl⟩) := by
                show schNode fr ct ⟨kd, nu, tx, ks, pl⟩ = ⟨kd, nu, tx, ks, pl⟩
                unfold schNode
                rw [if_neg hP]
              have hcase : kd ≠ 60 ∨ (kd = 60 ∧ nu < fr) ∨ (kd = 60 ∧ fr ≤ nu ∧ fr + ct ≤ nu) := by omega
              clear hP
              rcases hcase with h9 | ⟨rfl, h9⟩ | ⟨rfl, h9, h8⟩
              · have t9 : (kd == 60) = false := by simpa using h9
                go_wp2
                go_roundw
                case rel => exact ⟨k + 1, by omega, by go_num, by rw [HS.out, HN.out]; simpa using hrow.below ((Below.refl _ _).alloc (Nat.le_refl _) _), hbr.alloc hbr.size _⟩
                case measure => simp [intOf]; omega
              · skip
                go_wp2
                go_roundw
                case rel => exact ⟨k + 1, by omega, by go_num, by rw [HS.out, HN.out]; simpa using hrow.below ((Below.refl _ _).alloc (Nat.le_refl _) _), hbr.alloc hbr.size _⟩
                case measure => simp [intOf]; omega
              · skip
                go_wp2
                go_roundw
                case rel => exact ⟨k + 1, by omega, by go_num, by rw [HS.out, HN.out]; simpa using hrow.below ((Below.refl _ _).alloc (Nat.le_refl _) _), hbr.alloc hbr.size _⟩
                case measure => simp [intOf]; omega
          · obtain rfl : k = m := by omega
            have HE : Hid (Row wr g (t.map (schNode fr ct))) := by
              have := hrow
              rw [List.take_of_length_le (by have := HM.out; omega), List.drop_of_length_le (by have := HM.out; omega), List.append_nil] at this
              exact this
            have HMk : Hid ((t.map (schNode fr ct)).length = k) := by
              show _ = _
              rw [List.length_map]
              exact HM.out
            have HWk : Hid (∀ n ∈ t.map (schNode fr ct), (Lit.int .i64 n.num).wf = true) := by
              intro n hn
              obtain ⟨n', hn', rfl⟩ := List.mem_map.1 hn
              rw [schNode_num]
              exact HW.out n' hn'
            clear hrow
            go_wp2_with fail
            refine (implCanon_any (t.map (schNode fr ct)) k HMk hm HWk _ c wr HE.out.nodes).mono ?_
            rintro e w5 ⟨ag, cg, rfl, hans, hb5⟩
            have hs := hbr.size
            have hs2 := hA.size
            have hb := Below.step hA (Below.step hbr hb5)
            clear hb5 hbr hA q3 q4 q5
            go_wp2
            go_ret
            rw [HV.out]
            exact ⟨ag, cg, rfl, hans.mono (by omega), hb⟩

end Go.Proofs.Ytljdcaoibnikjaa
