import Derived.Test.YtljdcaoibnikjaaRoots
namespace Go.Proofs.Ytljdcaoibnikjaa

open Go.RowKit

def dmx (K : List Sp) : Nat := K.foldl (fun d k => max d k.dp) 0

theorem dmx_dpOf (K : List Sp) : dpOf K = dmx K + 1 := by
  unfold dpOf dmx
  have key : ∀ (l : List Sp) (d : Nat), l.foldl (fun d k => max d (k.dp + 1)) (d + 1) = l.foldl (fun d k => max d k.dp) d + 1 := by
    intro l
    induction l with
    | nil => intro d; rfl
    | cons x l ih =>
      intro d
      simp only [List.foldl_cons]
      have e : max (d + 1) (x.dp + 1) = max d x.dp + 1 := by omega
      rw [e]
      exact ih _
  exact key K 0

theorem dmx_take_succ (K : List Sp) (j : Nat) (h : j < K.length) : dmx (K.take (j + 1)) = max (dmx (K.take j)) K[j].dp := by
  unfold dmx
  rw [List.take_succ_eq_append_getElem h, List.foldl_append]
  rfl

def dps (ys : List Sp) : List Int := ys.map fun s => (s.dp : Int)

set_option maxRecDepth 100000 in
set_option maxHeartbeats 2000000 in
theorem depths_any (t : List Nd) (S ys : List Sp) (m : Nat) (HM : Hid (t.length = m)) (hm : m ≤ 6000) (HA : Hid (after t m = some (S, ys))) (ao : Option Addr) (cap gz cz B : Nat) (w : World) (hx : Nodes w ao t) (hz : Ints w B gz cz m (ys.map szOf)) :
    Calls Try.prog 64 #[.slice ao m cap, .slice (some ⟨gz, 0, none⟩) m cz] w fun e w' => ∃ g c, e = .returned (.slice (some ⟨g, 0, none⟩) m c) ∧ Ints w' w.heap.size g c m (dps ys) ∧ Below w.heap.size w w' := by
  obtain ⟨i0, hi, hz0, hz1, hz2⟩ := info_parts Try.infoI
  have HF : Hid (Fine m S ys) := after_fine HA.out
  have HYL : Hid (ys.length = m) := HF.out.len
  go_enter Try.func64, Try.ntmps64
  go_wp2
  go_loopw [5, 6] (fun v p wr => ∃ (i g c : Nat), i ≤ m ∧ p = .int .i64 i ∧ v = .slice (some ⟨g, 0, none⟩) i c ∧ Ints wr w.heap.size g c i (dps (ys.take i)) ∧ Below w.heap.size w wr) (fun _ p _ => m - (intOf p).toNat)
  case atStart => exact ⟨0, w.heap.size, 0, Nat.zero_le _, rfl, rfl, Ints.empty (Nat.le_refl _), (Below.refl _ w).alloc (Nat.le_refl _) _⟩
  case round =>
    obtain ⟨i, g, c, him, rfl, rfl, hout, hb⟩ := hrel
    by_cases hlt : i < m
    · obtain ⟨K, hK⟩ := kids_at HA.out i hlt
      obtain ⟨q, hq⟩ : ∃ q, K.length = q := ⟨_, rfl⟩
      have HK : Hid (KidsAt t ys i K) := hK
      have HQ : Hid (K.length = q) := hq
      have hqm : q ≤ 6000 := by have := hK.len; omega
      have hxr := hx.below hb
      have hzr := hz.below hb
      clear hK hq hx hz
      go_wp2_with fail
      refine (roots_any t ys K m i q HM hm HK HQ hlt HYL ao cap gz cz B wr hxr hzr).mono ?_
      rintro e w1 ⟨G, rfl, hroots, hb1⟩
      have hout1 := hout.below hb1
      have hbb := hb.trans (hb1.mono hb.size)
      clear hb hb1 hout hxr hzr
      go_wp2
      go_loop [7, 9] (fun dv kv => ∃ (j : Nat), j ≤ q ∧ kv = .int .i64 j ∧ dv = .int .i64 (dmx (K.take j) : Int)) (fun _ kv => q - (intOf kv).toNat)
      case atStart => exact ⟨0, Nat.zero_le _, rfl, rfl⟩
      case round =>
        obtain ⟨j, hj, rfl, rfl⟩ := hrel
        by_cases hjq : j < q
        · have hjK : j < K.length := by have := HQ.out; omega
          obtain ⟨s, hs⟩ : ∃ s, K[j] = s := ⟨_, rfl⟩
          obtain ⟨hmem, hfr, hrt⟩ := HK.out.mem j hjK
          rw [hs] at hmem hfr hrt
          have cr : w1.cell? ⟨G, j, none⟩ = some (.int .i64 (s.rt : Int)) := by
            rw [hroots.at j (by simp [rts]; exact hjK)]
            simp [rts, hs]
          have co : w1.cell? ⟨g, s.rt, none⟩ = some (.int .i64 (s.dp : Int)) := by
            have hyl : s.rt < (ys.take i).length := by have := HYL.out; simp; omega
            rw [hout1.at s.rt (by simp only [dps, List.length_map]; exact hyl)]
            have h8 := (List.getElem?_eq_some_iff.1 hmem).2
            simp [dps, h8]
          have HD : Hid (dmx (K.take (j + 1)) = max (dmx (K.take j)) s.dp) := by have h9 := dmx_take_succ K j hjK; rw [hs] at h9; exact h9
          obtain ⟨d, hd⟩ : ∃ d, dmx (K.take j) = d := ⟨_, rfl⟩
          have HDD : Hid (dmx (K.take j) = d) := hd
          rw [hd]
          clear hs hmem hroots hout1 hd
          by_cases hgt : d < s.dp
          · go_wp2
            go_round
            case rel => exact ⟨j + 1, by omega, by go_num, by rw [HD.out, HDD.out]; congr 1; omega⟩
            case measure => simp [intOf]; omega
          · go_wp2
            go_round
            case rel => exact ⟨j + 1, by omega, by go_num, by rw [HD.out, HDD.out]; congr 1; omega⟩
            case measure => simp [intOf]; omega
        · have HE : Hid (K.take j = K) := List.take_of_length_le (by have := HQ.out; omega)
          rw [HE.out]
          have HDP : Hid (((dmx K : Nat) : Int) + 1 = ((ys[i]'(by have := HYL.out; omega)).dp : Int)) := by
            obtain ⟨h9, e9⟩ := HK.out.dp
            show ((dmx K : Nat) : Int) + 1 = ((ys[i]'(by have := HYL.out; omega)).dp : Int)
            rw [e9, dmx_dpOf]
            omega
          have hdb : dmx K ≤ 10000 := by
            have h8 := (HF.out.root i (by have := HYL.out; omega)).2.2.2
            have := HDP.out
            omega
          obtain ⟨d, hd⟩ : ∃ d, dmx K = d := ⟨_, rfl⟩
          rw [hd] at hdb HDP ⊢
          clear hroots hd
          have hob := hout1.block
          go_wp2_with (at_builtin; refine wpList_append2 _ rfl (.tmp 43) (.tmp 46) 49 rfl w.heap.size 3 i0 _ 1 8 Try.underlying49 hi hz0 hz1 hz2 rfl (by decide) g i c _ rfl (hout1.alloc _).2 ⟨_, 0, none⟩ 1 1 [.int .i64 ((d : Int) + 1)] rfl rfl (one_cell _ _) (one_one _) ?a3 ?a4 ?a5 ?_)
          case a3 => unfold maxLen; omega
          case a4 => omega
          case a5 => have := hbb.size; simp; omega
          intro g2 c2 w2 hown2 hgrow2 hwh
          have hI2 : Ints w2 w.heap.size g2 c2 (i + 1) (dps (ys.take (i + 1))) := by
            have h9 := Ints.push hown2 hout1.1 rfl
            have e9 : dps (ys.take (i + 1)) = dps (ys.take i) ++ [(d : Int) + 1] := by
              rw [List.take_succ_eq_append_getElem (by have := HYL.out; omega)]
              rw [HDP.out]
              simp only [dps, List.map_append, List.map_cons, List.map_nil]
            rw [e9]
            exact h9
          have hb2 : Below w.heap.size w w2 := (hbb.alloc hbb.size _).grown hgrow2 (by have := hbb.size; simp; omega) (fun q hq => by cases hq; exact hob.1)
          clear hown2 hgrow2 hwh hout1 hbb
          go_wp2
          go_roundw
          case rel => exact ⟨i + 1, g2, c2, by omega, by go_num, rfl, hI2, hb2⟩
          case measure => simp [intOf]; omega
    · have hie : i = m := by omega
      subst hie
      have hfin : Ints wr w.heap.size g c i (dps ys) := by
        rw [List.take_of_length_le (by have := HYL.out; omega)] at hout
        exact hout
      clear hx hz hout
      go_wp2
      go_ret
      exact ⟨_, _, rfl, hfin, hb⟩

theorem deepOf_some {t : List Nd} {S ys : List Sp} {m : Nat} (hm : t.length = m) (h6 : m ≤ 6000) (h0 : 0 < m) (h : after t m = some (S, ys)) :
    ∃ s, ys[m - 1]? = some s ∧ deepOf t = (if s.fr = 0 ∧ s.dp ≤ 300 then s.dp else 0) ∧ s.rt = m - 1 ∧ s.fr ≤ m - 1 ∧ 1 ≤ s.dp ∧ s.dp ≤ m := by
  have hf := after_fine h
  have hl : m - 1 < ys.length := by have := hf.len; omega
  have hr := hf.root (m - 1) hl
  refine ⟨ys[m - 1], List.getElem?_eq_getElem hl, ?_, hr.1, hr.2.1, hr.2.2.1, by omega⟩
  unfold deepOf
  rw [if_neg (by omega), hm, h]
  have hg : ys.getLast? = some ys[m - 1] := by
    have := hf.len
    rw [List.getLast?_eq_getElem?]
    have e : ys.length - 1 = m - 1 := by omega
    rw [e, List.getElem?_eq_getElem hl]
  simp only [hg]

theorem deepOf_none {t : List Nd} (h : after t t.length = none) : deepOf t = 0 := by
  unfold deepOf
  split
  · rfl
  · rw [h]

theorem deepOf_great {t : List Nd} (h : 6000 < t.length) : deepOf t = 0 := by
  unfold deepOf
  rw [if_pos h]

theorem deepOf_nil {t : List Nd} (h : t.length = 0) : deepOf t = 0 := by
  have : t = [] := List.eq_nil_of_length_eq_zero h
  subst this
  rfl

set_option maxRecDepth 100000 in
set_option maxHeartbeats 1000000 in
theorem specGood_any (t : List Nd) (m : Nat) (HM : Hid (t.length = m)) (hm : m ≤ 1048576) (ao : Option Addr) (cap : Nat) (w : World) (hx : Nodes w ao t) :
    Calls Try.prog 41 #[.slice ao m cap] w fun e w' => e = .returned (.bool (decide (0 < deepOf t))) ∧ Below w.heap.size w w' := by
  by_cases h0 : m = 0
  · subst h0
    have HD : Hid (deepOf t = 0) := deepOf_nil HM.out
    clear hx
    go_enter Try.func41, Try.ntmps41
    go_wp2
    go_ret
    exact ⟨by rw [HD.out]; rfl, Below.refl _ _⟩
  by_cases h6 : m ≤ 6000
  · have h0' : ((m : Int) == 0) = false := by simp; omega
    go_enter Try.func41, Try.ntmps41
    go_wp2_with fail
    refine (sizes_any t m HM h6 ao cap w hx).mono ?_
    rintro e w1 ⟨gz, cz, n, rfl, hz, hb⟩
    have hx1 := hx.below hb
    clear hx
    cases hA : after t m with
    | none =>
      have HD : Hid (deepOf t = 0) := deepOf_none (by rw [HM.out]; exact hA)
      have hn0 : n = 0 := by
        have h9 := hz.1
        unfold sizesOf at h9
        rw [HM.out, hA] at h9
        simpa using h9.symm
      subst hn0
      clear hz hA hx1
      go_wp2
      go_ret
      exact ⟨by rw [HD.out]; rfl, hb⟩
    | some p =>
      obtain ⟨S, ys⟩ := p
      have HA : Hid (after t m = some (S, ys)) := hA
      have hsz : sizesOf t = ys.map szOf := by unfold sizesOf; rw [HM.out, hA]
      rw [hsz] at hz
      have hyl := (after_fine hA).len
      have hnm : n = m := by have h9 := hz.1; simp at h9; omega
      subst hnm
      obtain ⟨s, hs, hd1, hd2, hd3, hd4, hd5⟩ := deepOf_some HM.out h6 (by omega) hA
      have HD : Hid (deepOf t = if s.fr = 0 ∧ s.dp ≤ 300 then s.dp else 0) := hd1
      have cz1 : w1.cell? ⟨gz, n - 1, none⟩ = some (.int .i64 ((n : Int) - (s.fr : Int))) := by
        rw [hz.at (n - 1) (by simp; omega)]
        obtain ⟨h8, h9⟩ := List.getElem?_eq_some_iff.1 hs
        simp [szOf, h9]
        omega
      have HYS : Hid (ys[n - 1]? = some s) := hs
      have HYL : Hid (ys.length = n) := hyl
      have hbz := hz.block
      clear hA hsz hd1 hs hyl
      by_cases hfr : s.fr = 0
      · rw [hfr] at cz1
        have cz2 : w1.cell? ⟨gz, n - 1, none⟩ = some (.int .i64 (n : Int)) := by simpa using cz1
        clear cz1
        go_wp2_with fail
        refine (depths_any t S ys n HM h6 HA ao cap gz cz w.heap.size w1 hx1 hz).mono ?_
        rintro e w2 ⟨g, c, rfl, hd, hb2⟩
        have cd : w2.cell? ⟨g, n - 1, none⟩ = some (.int .i64 (s.dp : Int)) := by
          rw [hd.at (n - 1) (by have := HYL.out; simp [dps]; omega)]
          obtain ⟨h8, h9⟩ := List.getElem?_eq_some_iff.1 HYS.out
          simp [dps, h9]
        have hbb := Below.step hb hb2
        have HV : Hid (deepOf t = if s.dp ≤ 300 then s.dp else 0) := by rw [HD.out, hfr]; simp [Hid]
        clear hz hx1 hd hb hb2 cz2
        by_cases h3 : s.dp ≤ 300
        · go_wp2
          go_ret
          exact ⟨by rw [HV.out, if_pos h3]; congr 2; simp; omega, hbb⟩
        · go_wp2
          go_ret
          exact ⟨by rw [HV.out, if_neg h3]; congr 2; simp; omega, hbb⟩
      · have HV : Hid (deepOf t = 0) := by rw [HD.out, if_neg (by omega)]; rfl
        have hne : (((n : Int) - (s.fr : Int)) != (n : Int)) = true := by simp; omega
        clear hz hx1
        go_wp2
        go_ret
        exact ⟨by rw [HV.out]; rfl, hb⟩
  · have HD : Hid (deepOf t = 0) := deepOf_great (by have := HM.out; omega)
    have h0' : ((m : Int) == 0) = false := by simp; omega
    clear hx
    go_enter Try.func41, Try.ntmps41
    go_wp2
    go_ret
    exact ⟨by rw [HD.out]; rfl, Below.refl _ _⟩

end Go.Proofs.Ytljdcaoibnikjaa
