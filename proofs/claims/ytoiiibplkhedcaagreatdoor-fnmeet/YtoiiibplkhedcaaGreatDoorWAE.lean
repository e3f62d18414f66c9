import Derived.Test.YtoiiibplkhedcaaGreatDoorWAD
set_option maxRecDepth 100000
set_option maxHeartbeats 2000000
namespace Go.Proofs.YtoiiibplkhedcaaGreatDoor
open Go.RowKit
def dmx (K : List Sp) : Nat := K.foldl (fun d k => max d k.dp) 0
theorem Jau (K : List Sp) : dpOf K = dmx K + 1 := by
  unfold dpOf dmx
  have key : ∀ (l : List Sp) (d : Nat), l.foldl (fun d k => max d (k.dp + 1)) (d + 1) = l.foldl (fun d k => max d k.dp) d + 1 := by
    intro l
    induction l with
    | nil => intro d; rfl
    | cons x l ih =>
      intro d
      simp only [List.foldl_cons]
      have e : max (d + 1) (x.dp + 1) = max d x.dp + 1 := by omega
      rw [e]
      exact ih _
  exact key K 0
theorem Qmz (K : List Sp) (j : Nat) (h : j < K.length) : dmx (K.take (j + 1)) = max (dmx (K.take j)) K[j].dp := by
  unfold dmx
  rw [List.take_succ_eq_append_getElem h, List.foldl_append]
  rfl
def dps (ys : List Sp) : List Int := ys.map fun s => (s.dp : Int)
theorem Qub (t : List Nd) (S ys : List Sp) (m : Nat) (HM : Hid (t.length = m)) (hm : m ≤ 6000) (HA : Hid (Qag t m = some (S, ys))) (ao : Option Addr) (cap gz cz B : Nat) (w : World) (hx : Nodes w ao t) (hz : Ints w B gz cz m (ys.map szOf)) :
    Calls Tryz.prog 89 #[.slice ao m cap, .slice (some ⟨gz, 0, none⟩) m cz] w fun e w' => ∃ g c, e = .returned (.slice (some ⟨g, 0, none⟩) m c) ∧ Ints w' w.heap.size g c m (dps ys) ∧ Below w.heap.size w w' := by
  obtain ⟨i0, hi, hz0, hz1, hz2⟩ := info_parts Tryz.infoI
  have HF : Hid (Fine m S ys) := Qaf HA.out
  have HYL : Hid (ys.length = m) := HF.out.len
  go_enter Tryz.func89, Tryz.ntmps89
  go_wp2
  go_loopw [5, 6] (fun v p wr => ∃ (i g c : Nat), i ≤ m ∧ p = .int .i64 i ∧ v = .slice (some ⟨g, 0, none⟩) i c ∧ Ints wr w.heap.size g c i (dps (ys.take i)) ∧ Below w.heap.size w wr) (fun _ p _ => m - (intOf p).toNat)
  case atStart => exact ⟨0, w.heap.size, 0, Nat.zero_le _, rfl, rfl, Ints.empty (Nat.le_refl _), (Below.refl _ w).alloc (Nat.le_refl _) _⟩
  case round =>
    obtain ⟨i, g, c, him, rfl, rfl, hout, hb⟩ := hrel
    by_cases hlt : i < m
    · obtain ⟨K, hK⟩ := Jce HA.out i hlt
      obtain ⟨q, hq⟩ : ∃ q, K.length = q := ⟨_, rfl⟩
      have HK : Hid (KidsAt t ys i K) := hK
      have HQ : Hid (K.length = q) := hq
      have hqm : q ≤ 6000 := by have := hK.len; omega
      have hxr := hx.below hb
      have hzr := hz.below hb
      clear hK hq hx hz
      go_wp2_with fail
      refine (Qfn t ys K m i q HM hm HK HQ hlt HYL ao cap gz cz B wr hxr hzr).mono ?_
      rintro e w1 ⟨G, rfl, hroots, hb1⟩
      have hout1 := hout.below hb1
      have hbb := hb.trans (hb1.mono hb.size)
      clear hb hb1 hout hxr hzr
      go_wp2
      go_loop [7, 9] (fun dv kv => ∃ (j : Nat), j ≤ q ∧ kv = .int .i64 j ∧ dv = .int .i64 (dmx (K.take j) : Int)) (fun _ kv => q - (intOf kv).toNat)
      case atStart => exact ⟨0, Nat.zero_le _, rfl, rfl⟩
      case round =>
        obtain ⟨j, hj, rfl, rfl⟩ := hrel
        by_cases hjq : j < q
        · have hjK : j < K.length := by have := HQ.out; omega
          obtain ⟨s, hs⟩ : ∃ s, K[j] = s := ⟨_, rfl⟩
          obtain ⟨hmem, hfr, hrt⟩ := HK.out.mem j hjK
          rw [hs] at hmem hfr hrt
          have cr : w1.cell? ⟨G, j, none⟩ = some (.int .i64 (s.rt : Int)) := by
            rw [hroots.at j (by simp [rts]; exact hjK)]
            simp [rts, hs]
          have co : w1.cell? ⟨g, s.rt, none⟩ = some (.int .i64 (s.dp : Int)) := by
            have hyl : s.rt < (ys.take i).length := by have := HYL.out; simp; omega
            rw [hout1.at s.rt (by simp only [dps, List.length_map]; exact hyl)]
            have h8 := (List.getElem?_eq_some_iff.1 hmem).2
            simp [dps, h8]
          have HD : Hid (dmx (K.take (j + 1)) = max (dmx (K.take j)) s.dp) := by have h9 := Qmz K j hjK; rw [hs] at h9; exact h9
          obtain ⟨d, hd⟩ : ∃ d, dmx (K.take j) = d := ⟨_, rfl⟩
          have HDD : Hid (dmx (K.take j) = d) := hd
          rw [hd]
          clear hs hmem hroots hout1 hd
          by_cases hgt : d < s.dp
          · go_wp2
            go_round
            case rel => exact ⟨j + 1, by omega, by go_num, by rw [HD.out, HDD.out]; congr 1; omega⟩
            case measure => simp [intOf]; omega
          · go_wp2
            go_round
            case rel => exact ⟨j + 1, by omega, by go_num, by rw [HD.out, HDD.out]; congr 1; omega⟩
            case measure => simp [intOf]; omega
        · have HE : Hid (K.take j = K) := List.take_of_length_le (by have := HQ.out; omega)
          rw [HE.out]
          have HDP : Hid (((dmx K : Nat) : Int) + 1 = ((ys[i]'(by have := HYL.out; omega)).dp : Int)) := by
            obtain ⟨h9, e9⟩ := HK.out.dp
            show ((dmx K : Nat) : Int) + 1 = ((ys[i]'(by have := HYL.out; omega)).dp : Int)
            rw [e9, Jau]
            omega
          have hdb : dmx K ≤ 10000 := by
            have h8 := (HF.out.root i (by have := HYL.out; omega)).2.2.2
            have := HDP.out
            omega
          obtain ⟨d, hd⟩ : ∃ d, dmx K = d := ⟨_, rfl⟩
          rw [hd] at hdb HDP ⊢
          clear hroots hd
          have hob := hout1.block
          go_wp2_with (at_builtin; refine Qac _ rfl (.tmp 43) (.tmp 46) 40 rfl w.heap.size 3 i0 _ 1 8 Tryz.underlying40 hi hz0 hz1 hz2 rfl (by decide) g i c _ rfl (hout1.alloc _).2 ⟨_, 0, none⟩ 1 1 [.int .i64 ((d : Int) + 1)] rfl rfl (Qdg _ _) (Qeh _) ?a3 ?a4 ?a5 ?_)
          case a3 => unfold maxLen; omega
          case a4 => omega
          case a5 => have := hbb.size; simp; omega
          intro g2 c2 w2 hown2 hgrow2 hwh
          have hI2 : Ints w2 w.heap.size g2 c2 (i + 1) (dps (ys.take (i + 1))) := by
            have h9 := Ints.push hown2 hout1.1 rfl
            have e9 : dps (ys.take (i + 1)) = dps (ys.take i) ++ [(d : Int) + 1] := by
              rw [List.take_succ_eq_append_getElem (by have := HYL.out; omega)]
              rw [HDP.out]
              simp only [dps, List.map_append, List.map_cons, List.map_nil]
            rw [e9]
            exact h9
          have hb2 : Below w.heap.size w w2 := (hbb.alloc hbb.size _).grown hgrow2 (by have := hbb.size; simp; omega) (fun q hq => by cases hq; exact hob.1)
          clear hown2 hgrow2 hwh hout1 hbb
          go_wp2
          go_roundw
          case rel => exact ⟨i + 1, g2, c2, by omega, by go_num, rfl, hI2, hb2⟩
          case measure => simp [intOf]; omega
    · have hie : i = m := by omega
      subst hie
      have hfin : Ints wr w.heap.size g c i (dps ys) := by
        rw [List.take_of_length_le (by have := HYL.out; omega)] at hout
        exact hout
      clear hx hz hout
      go_wp2
      go_ret
      exact ⟨_, _, rfl, hfin, hb⟩
theorem Qki {t : List Nd} {S ys : List Sp} {m : Nat} (hm : t.length = m) (h6 : m ≤ 6000) (h0 : 0 < m) (h : Qag t m = some (S, ys)) :
    ∃ s, ys[m - 1]? = some s ∧ deepOf t = (if s.fr = 0 ∧ s.dp ≤ 300 then s.dp else 0) ∧ s.rt = m - 1 ∧ s.fr ≤ m - 1 ∧ 1 ≤ s.dp ∧ s.dp ≤ m := by
  have hf := Qaf h
  have hl : m - 1 < ys.length := by have := hf.len; omega
  have hr := hf.root (m - 1) hl
  refine ⟨ys[m - 1], List.getElem?_eq_getElem hl, ?_, hr.1, hr.2.1, hr.2.2.1, by omega⟩
  unfold deepOf
  rw [if_neg (by omega), hm, h]
  have hg : ys.getLast? = some ys[m - 1] := by
    have := hf.len
    rw [List.getLast?_eq_getElem?]
    have e : ys.length - 1 = m - 1 := by omega
    rw [e, List.getElem?_eq_getElem hl]
  simp only [hg]
theorem Qkj {t : List Nd} (h : Qag t t.length = none) : deepOf t = 0 := by
  unfold deepOf
  split
  · rfl
  · rw [h]
theorem Qis {t : List Nd} (h : 6000 < t.length) : deepOf t = 0 := by
  unfold deepOf
  rw [if_pos h]
theorem Qij {t : List Nd} (h : t.length = 0) : deepOf t = 0 := by
  have : t = [] := List.eq_nil_of_length_eq_zero h
  subst this
  rfl
theorem Qns (t : List Nd) (m : Nat) (HM : Hid (t.length = m)) (hm : m ≤ 1048576) (ao : Option Addr) (cap : Nat) (w : World) (hx : Nodes w ao t) :
    Calls Tryz.prog 52 #[.slice ao m cap] w fun e w' => e = .returned (.bool (decide (0 < deepOf t))) ∧ Below w.heap.size w w' := by
  by_cases h0 : m = 0
  · subst h0
    have HD : Hid (deepOf t = 0) := Qij HM.out
    clear hx
    go_enter Tryz.func52, Tryz.ntmps52
    go_wp2
    go_ret
    exact ⟨by rw [HD.out]; rfl, Below.refl _ _⟩
  by_cases h6 : m ≤ 6000
  · have h0' : ((m : Int) == 0) = false := by simp; omega
    go_enter Tryz.func52, Tryz.ntmps52
    go_wp2_with fail
    refine (Qfm t m HM h6 ao cap w hx).mono ?_
    rintro e w1 ⟨gz, cz, n, rfl, hz, hb⟩
    have hx1 := hx.below hb
    clear hx
    cases hA : Qag t m with
    | none =>
      have HD : Hid (deepOf t = 0) := Qkj (by rw [HM.out]; exact hA)
      have hn0 : n = 0 := by
        have h9 := hz.1
        unfold Qby at h9
        rw [HM.out, hA] at h9
        simpa using h9.symm
      subst hn0
      clear hz hA hx1
      go_wp2
      go_ret
      exact ⟨by rw [HD.out]; rfl, hb⟩
    | some p =>
      obtain ⟨S, ys⟩ := p
      have HA : Hid (Qag t m = some (S, ys)) := hA
      have hsz : Qby t = ys.map szOf := by unfold Qby; rw [HM.out, hA]
      rw [hsz] at hz
      have hyl := (Qaf hA).len
      have hnm : n = m := by have h9 := hz.1; simp at h9; omega
      subst hnm
      obtain ⟨s, hs, hd1, hd2, hd3, hd4, hd5⟩ := Qki HM.out h6 (by omega) hA
      have HD : Hid (deepOf t = if s.fr = 0 ∧ s.dp ≤ 300 then s.dp else 0) := hd1
      have cz1 : w1.cell? ⟨gz, n - 1, none⟩ = some (.int .i64 ((n : Int) - (s.fr : Int))) := by
        rw [hz.at (n - 1) (by simp; omega)]
        obtain ⟨h8, h9⟩ := List.getElem?_eq_some_iff.1 hs
        simp [szOf, h9]
        omega
      have HYS : Hid (ys[n - 1]? = some s) := hs
      have HYL : Hid (ys.length = n) := hyl
      have hbz := hz.block
      clear hA hsz hd1 hs hyl
      by_cases hfr : s.fr = 0
      · rw [hfr] at cz1
        have cz2 : w1.cell? ⟨gz, n - 1, none⟩ = some (.int .i64 (n : Int)) := by simpa using cz1
        clear cz1
        go_wp2_with fail
        refine (Qub t S ys n HM h6 HA ao cap gz cz w.heap.size w1 hx1 hz).mono ?_
        rintro e w2 ⟨g, c, rfl, hd, hb2⟩
        have cd : w2.cell? ⟨g, n - 1, none⟩ = some (.int .i64 (s.dp : Int)) := by
          rw [hd.at (n - 1) (by have := HYL.out; simp [dps]; omega)]
          obtain ⟨h8, h9⟩ := List.getElem?_eq_some_iff.1 HYS.out
          simp [dps, h9]
        have hbb := Below.step hb hb2
        have HV : Hid (deepOf t = if s.dp ≤ 300 then s.dp else 0) := by rw [HD.out, hfr]; simp [Hid]
        clear hz hx1 hd hb hb2 cz2
        by_cases h3 : s.dp ≤ 300
        · go_wp2
          go_ret
          exact ⟨by rw [HV.out, if_pos h3]; congr 2; simp; omega, hbb⟩
        · go_wp2
          go_ret
          exact ⟨by rw [HV.out, if_neg h3]; congr 2; simp; omega, hbb⟩
      · have HV : Hid (deepOf t = 0) := by rw [HD.out, if_neg (by omega)]; rfl
        have hne : (((n : Int) - (s.fr : Int)) != (n : Int)) = true := by simp; omega
        clear hz hx1
        go_wp2
        go_ret
        exact ⟨by rw [HV.out]; rfl, hb⟩
  · have HD : Hid (deepOf t = 0) := Qis (by have := HM.out; omega)
    have h0' : ((m : Int) == 0) = false := by simp; omega
    clear hx
    go_enter Tryz.func52, Tryz.ntmps52
    go_wp2
    go_ret
    exact ⟨by rw [HD.out]; rfl, Below.refl _ _⟩
theorem Qbj (w : World) (n : Nd) : ∀ j u, n.row[j]? = some u →
    (w.alloc (.cells #[.int .i64 n.kind, .int .i64 n.num, .string n.text, .int .i64 n.kids, .int .i64 n.place] 43)).cell? (Addr.add ⟨w.heap.size, 0, none⟩ j) = some u := by
  intro j u hj
  have ad : Addr.add ⟨w.heap.size, 0, none⟩ j = ⟨w.heap.size, j, none⟩ := by
    unfold Addr.add
    split
    · simp_all
    · simp
  rw [ad, cell_of_row _ w.heap.size j _ 43 (0, 0) (heap_alloc_new _ _), ← hj]
  simp [Nd.row]
theorem Qbp (n : Nd) : ∀ u ∈ n.row, u.oneCell' = true := by
  intro u hu
  simp [Nd.row] at hu
  rcases hu with rfl | rfl | rfl | rfl | rfl <;> rfl
theorem Qjv (ks : List Nd) : ∀ u ∈ flat ks, u.oneCell' = true := by
  intro u hu
  unfold flat at hu
  obtain ⟨n, _, hn⟩ := List.mem_flatMap.1 hu
  exact Qbp n u hn
def OwnN (w : World) (B g c l : Nat) (zs : List Nd) : Prop := zs.length = l ∧ w.ownsRow B 43 5 (.slice (some ⟨g, 0, none⟩) l c) l (flat zs)
theorem OwnN.row {w : World} {B g c l : Nat} {zs : List Nd} (h : OwnN w B g c l zs) : B ≤ g ∧ Row w g zs := by
  obtain ⟨hl, ho⟩ := h
  rcases ho.2 with ⟨h', _⟩ | ⟨g2, cap2, cur, he, hb, hh, _, _, _, htake⟩
  · cases h'
  · simp only [Value.slice.injEq, Option.some.injEq, Addr.mk.injEq, and_true, true_and] at he
    obtain ⟨rfl, rfl⟩ := he
    exact ⟨hb, cur, cur.toList.drop (l * 5), hh, by rw [← htake, List.take_append_drop]⟩
theorem OwnN.empty {w : World} {B : Nat} (hB : B ≤ w.heap.size) : OwnN (w.alloc (.cells #[] 43)) B w.heap.size 0 0 [] :=
  ⟨rfl, rfl, Or.inr ⟨_, 0, #[], rfl, hB, heap_alloc_new _ _, Nat.le_refl _, by simp [maxLen], rfl, rfl⟩⟩
theorem OwnN.alloc {w : World} {B g c l : Nat} {zs : List Nd} (h : OwnN w B g c l zs) (o : Obj) : OwnN (w.alloc o) B g c l zs := ⟨h.1, h.2.alloc o⟩
theorem OwnN.below {w w' : World} {B g c l : Nat} {zs : List Nd} (h : OwnN w B g c l zs) (hb : Below w.heap.size w w') : OwnN w' B g c l zs :=
  ⟨h.1, Qah (S := fun _ => False) h.2 (But.ofBelow hb) (fun h => h)⟩
theorem OwnN.push {w : World} {B g c l m : Nat} {zs : List Nd} {x : Nd} (h : w.ownsRow B 43 5 (.slice (some ⟨g, 0, none⟩) m c) m (flat zs ++ x.row)) (hl : zs.length = l) (hm : m = l + 1) : OwnN w B g c (l + 1) (zs ++ [x]) := by
  subst hm
  refine ⟨by simp [hl], ?_⟩
  rw [Qgv]
  have e : flat [x] = x.row := by simp [flat]
  rw [e]
  exact h
theorem Jaw (xs : List Nd) (m : Nat) (HM : Hid (xs.length = m)) (hm : m ≤ 1048576) (ao : Option Addr) (cap : Nat) (w : World) (hx : Nodes w ao xs) :
    Calls Tryz.prog 90 #[.slice ao m cap] w fun e w' => ∃ g c, e = .returned (.slice (some ⟨g, 0, none⟩) m c) ∧ w.heap.size ≤ g ∧ Row w' g xs ∧ Below w.heap.size w w' := by
  obtain ⟨i0, hi, hz0, hz1, hz2⟩ := info_parts Tryz.infoN
  go_enter Tryz.func90, Tryz.ntmps90
  go_wp2
  go_loopw [3, 4] (fun v p wr => ∃ (k g c : Nat), k ≤ m ∧ p = .int .i64 k ∧ v = .slice (some ⟨g, 0, none⟩) k c ∧ OwnN wr w.heap.size g c k (xs.take k) ∧ Below w.heap.size w wr) (fun _ p _ => m - (intOf p).toNat)
  case atStart => exact ⟨0, w.heap.size, 0, Nat.zero_le _, rfl, rfl, OwnN.empty (Nat.le_refl _), (Below.refl _ w).alloc (Nat.le_refl _) _⟩
  case round =>
    obtain ⟨k, g, c, hk, rfl, rfl, hown, hb⟩ := hrel
    by_cases hlt : k < m
    · have hltk : k < xs.length := by have := HM.out; omega
      obtain ⟨b, o, rfl, hn⟩ := hx.below hb k hltk
      obtain ⟨x, hxk⟩ : ∃ x, xs[k] = x := ⟨_, rfl⟩
      rw [hxk] at hn
      obtain ⟨c0, c1, c2, c3, c4⟩ := hn
      have HT : Hid (xs.take (k + 1) = xs.take k ++ [x]) := by show xs.take (k + 1) = _; rw [List.take_succ_eq_append_getElem hltk, hxk]
      have hob := Qad hown.2
      clear hx hxk
      go_wp2_with (at_builtin; refine Qac _ rfl (.tmp 12) (.tmp 17) 23 rfl w.heap.size 43 i0 _ 5 48 Tryz.underlying23 hi hz0 hz1 hz2 rfl (by decide) g k c _ rfl (hown.alloc _).2 ⟨_, 0, none⟩ 1 1 x.row rfl rfl (Qbj _ x) (Qbp x) ?a3 ?a4 ?a5 ?_)
      case a3 => unfold maxLen; omega
      case a4 => omega
      case a5 => have := hb.size; simp; omega
      intro g2 c2' w2 hown2 hgrow2 hwh
      have hO := OwnN.push hown2 hown.1 rfl
      rw [← HT.out] at hO
      have hbb : Below w.heap.size w w2 := (hb.alloc hb.size _).grown hgrow2 (by have := hb.size; simp; omega) (fun q hq => by cases hq; exact hob.1)
      clear hown2 hgrow2 hwh hown hb c0 c1 c2 c3 c4
      go_wp2
      go_roundw
      case rel => exact ⟨k + 1, g2, c2', by omega, by go_num, rfl, hO, hbb⟩
      case measure => simp [intOf]; omega
    · have hke : k = m := by omega
      subst hke
      rw [List.take_of_length_le (by have := HM.out; omega)] at hown
      obtain ⟨hg, hr⟩ := hown.row
      clear hx hown
      go_wp2
      go_ret
      exact ⟨_, _, rfl, hg, hr, hb⟩
def span (t : List Nd) (f i : Nat) : List Nd := (t.take (i + 1)).drop f
theorem Qdr (t : List Nd) (f i : Nat) (hi : i < t.length) : (span t f i).length = i + 1 - f := by simp [span]; omega
theorem Qsw {w : World} {g : Nat} {t : List Nd} (h : Row w g t) (f i : Nat) (hi : i < t.length) : Nodes w (some ⟨g, f * 5, none⟩) (span t f i) := by
  intro j hj
  have hl := Qdr t f i hi
  refine ⟨g, f * 5, rfl, ?_⟩
  have h1 := h.node (f + j) (by omega)
  have e : (f + j) * 5 = f * 5 + j * 5 := by omega
  rw [e] at h1
  have e2 : (span t f i)[j] = t[f + j]'(by omega) := by simp [span]
  rw [e2]
  exact h1
theorem Qii {t : List Nd} {m : Nat} (hm : t.length = m) (hd : 0 < deepOf t) : 0 < m ∧ m ≤ 6000 ∧ ∃ S ys, Qag t m = some (S, ys) ∧ ys.length = m := by
  have h6 : m ≤ 6000 := by
    by_cases h : m ≤ 6000
    · exact h
    · have := Qis (t := t) (by omega)
      omega
  have h0 : 0 < m := by
    by_cases h : m = 0
    · have := Qij (t := t) (by omega)
      omega
    · omega
  cases hA : Qag t m with
  | none =>
    have := Qkj (t := t) (by rw [hm]; exact hA)
    omega
  | some p =>
    obtain ⟨S, ys⟩ := p
    exact ⟨h0, h6, S, ys, rfl, (Qaf hA).len⟩
def Qae (t : List Nd) (K : List Sp) : List (List Nd) := K.map fun s => span t s.fr s.rt
end Go.Proofs.YtoiiibplkhedcaaGreatDoor
namespace Go.Proofs.YtoiiibplkhedcaaGreatDoor
def sh (a : Nat) (s : Sp) : Sp := ⟨s.fr + a, s.rt + a, s.dp⟩
theorem Jcm (a : Nat) (K : List Sp) : dpOf (K.map (sh a)) = dpOf K := by
  unfold dpOf
  rw [List.foldl_map]
  rfl
theorem Jbw (a i : Nat) (K : List Sp) : over (K.map (sh a)) (i + a) = sh a (over K i) := by
  unfold over
  rw [Jcm]
  cases K <;> simp [sh, frOf]
theorem Qst {S S' A : List Sp} {s : Sp} {i a : Nat} {n : Int} (h : step S i n = some (S', s)) : step (A ++ S.map (sh a)) (i + a) n = some (A ++ S'.map (sh a), sh a s) := by
  obtain ⟨h0, h1, h2, h3⟩ := Qdq h
  rw [Qhs h0 (by simp; omega)]
  have e1 : (A ++ S.map (sh a)).length - n.toNat = A.length + (S.length - n.toNat) := by simp; omega
  rw [e1]
  have e2 : (A ++ S.map (sh a)).take (A.length + (S.length - n.toNat)) = A ++ (S.take (S.length - n.toNat)).map (sh a) := by
    rw [List.take_append, List.take_of_length_le (by omega), List.map_take]
    congr 2
    omega
  have e3 : (A ++ S.map (sh a)).drop (A.length + (S.length - n.toNat)) = (S.drop (S.length - n.toNat)).map (sh a) := by
    rw [List.drop_append, List.drop_of_length_le (by omega), List.map_drop, List.nil_append]
    congr 1
    omega
  rw [e2, e3, Jbw, ← h3, h2]
  simp
theorem Qff {a b : List Nd} : ∀ {k : Nat}, k ≤ a.length → Qag (a ++ b) k = Qag a k := by
  intro k
  induction k with
  | zero => intro _; rfl
  | succ k ih =>
    intro hk
    simp only [Qag, ih (by omega)]
    rw [List.getElem?_append_left (by omega)]
theorem Qgb {a b : List Nd} {A ya : List Sp} (ha : Qag a a.length = some (A, ya)) :
    ∀ {k : Nat} {S ys : List Sp}, Qag b k = some (S, ys) → Qag (a ++ b) (a.length + k) = some (A ++ S.map (sh a.length), ya ++ ys.map (sh a.length)) := by
  intro k
  induction k with
  | zero =>
    intro S ys h
    simp only [Qag, Option.some.injEq, Prod.mk.injEq] at h
    obtain ⟨rfl, rfl⟩ := h
    rw [Nat.add_zero, Qff (Nat.le_refl _), ha]
    simp
  | succ k ih =>
    intro S' ys' h
    obtain ⟨S, ys, s, hk, hb, hs, rfl⟩ := Qcq h
    have h1 := ih hb
    have h2 := Qst (A := A) (a := a.length) hs
    have hlt : a.length + k < (a ++ b).length := by simp; omega
    have hg : (a ++ b)[a.length + k] = b[k] := by rw [List.getElem_append_right (by omega)]; simp
    rw [← Nat.add_assoc, Qdm h1 hlt (S' := A ++ S'.map (sh a.length)) (s := sh a.length s) (by rw [hg, Nat.add_comm]; exact h2)]
    simp
def Con : Nat → Nat → List Sp → Prop
  | f, e, [] => f = e
  | f, e, d :: D => d.fr = f ∧ d.fr ≤ d.rt ∧ Con (d.rt + 1) e D
theorem Con.le : ∀ {D : List Sp} {f e : Nat}, Con f e D → f ≤ e := by
  intro D
  induction D with
  | nil => intro f e h; exact Nat.le_of_eq h
  | cons d D ih =>
    intro f e h
    obtain ⟨h1, h2, h3⟩ := h
    have := ih h3
    omega
theorem Con.ge : ∀ {D : List Sp} {f e : Nat}, Con f e D → ∀ x ∈ D, f ≤ x.fr ∧ x.fr ≤ x.rt ∧ x.rt < e := by
  intro D
  induction D with
  | nil => intro f e h x hx; simp at hx
  | cons d D ih =>
    intro f e h x hx
    obtain ⟨h1, h2, h3⟩ := h
    rcases List.mem_cons.1 hx with rfl | hx
    · have := h3.le; omega
    · have := ih h3 x hx; omega
theorem Qms {t : List Nd} {ys K : List Sp} {i : Nat} (h : KidsAt t ys i K) : Con (frOf K i) i K := by
  have key : ∀ n r, r + n = K.length → Con (if h : r < K.length then K[r].fr else i) i (K.drop r) := by
    intro n
    induction n with
    | zero =>
      intro r hr
      rw [dif_neg (by omega), List.drop_of_length_le (by omega)]
      rfl
    | succ n ih =>
      intro r hr
      have hlt : r < K.length := by omega
      rw [dif_pos hlt, List.drop_eq_getElem_cons hlt]
      refine ⟨rfl, (h.mem r hlt).2.1, ?_⟩
      have h2 := ih (r + 1) (by omega)
      by_cases hl : r + 1 < K.length
      · rw [dif_pos hl] at h2
        have h3 := h.next (r + 1) (by omega) hl
        simp only [Nat.add_sub_cancel] at h3
        rw [h3]
        exact h2
      · rw [dif_neg hl] at h2
        have h3 := h.last (by omega)
        have e : K.length - 1 = r := by omega
        simp only [e] at h3
        rw [h3]
        exact h2
  have h1 := key K.length 0 (by omega)
  rw [List.drop_zero] at h1
  cases K with
  | nil => exact h1
  | cons d D => exact h1
theorem Qnb {t : List Nd} : ∀ {D : List Sp} {f e : Nat}, Con f e D → e ≤ t.length → (Qae t D).flatten = (t.take e).drop f := by
  intro D
  induction D with
  | nil => intro f e h he; cases h; simp [Qae]
  | cons d D ih =>
    intro f e h he
    obtain ⟨h1, h2, h3⟩ := h
    have h4 := ih h3 he
    have h5 := h3.le
    have e1 : Qae t (d :: D) = span t d.fr d.rt :: Qae t D := rfl
    rw [e1, List.flatten_cons, h4]
    unfold span
    subst h1
    have e2 : (t.take e).drop d.fr = (((t.take e).take (d.rt + 1)).drop d.fr) ++ (t.take e).drop (d.rt + 1) := by
      conv => lhs; rw [← List.take_append_drop (d.rt + 1) (t.take e)]
      rw [List.drop_append_of_le_length (by simp; omega)]
    rw [e2, List.take_take, Nat.min_eq_left h5]
theorem Jcn {t : List Nd} : ∀ {D : List Sp} {f e : Nat}, Con f e D → e ≤ t.length → (∀ x ∈ D, ∃ ys', Qag (span t x.fr x.rt) (x.rt + 1 - x.fr) = some ([⟨0, x.rt - x.fr, x.dp⟩], ys')) →
    ∃ ys', Qag (Qae t D).flatten (e - f) = some (D.map (fun x => ⟨x.fr - f, x.rt - f, x.dp⟩), ys') := by
  intro D
  induction D with
  | nil => intro f e h he _; cases h; exact ⟨[], by simp [Qae, Qag]⟩
  | cons d D ih =>
    intro f e h he hx
    obtain ⟨h1, h2, h3⟩ := h
    obtain ⟨y1, r1⟩ := hx d (by simp)
    obtain ⟨y2, r2⟩ := ih h3 he (fun x hxx => hx x (List.mem_cons_of_mem _ hxx))
    have h5 := h3.le
    have hl : (span t d.fr d.rt).length = d.rt + 1 - d.fr := Qdr t d.fr d.rt (by omega)
    have e1 : Qae t (d :: D) = span t d.fr d.rt :: Qae t D := rfl
    rw [← hl] at r1
    have r3 := Qgb r1 r2
    rw [e1, List.flatten_cons]
    have e2 : (span t d.fr d.rt).length + (e - (d.rt + 1)) = e - f := by omega
    rw [e2] at r3
    refine ⟨y1 ++ y2.map (sh (span t d.fr d.rt).length), r3.trans ?_⟩
    congr 2
    simp only [List.map_cons, List.map_map, List.singleton_append, List.cons.injEq, Sp.mk.injEq, and_true]
    refine ⟨⟨by omega, by omega⟩, ?_⟩
    apply List.map_congr_left
    intro x hxx
    have := h3.ge x hxx
    simp only [Function.comp, sh, Sp.mk.injEq, and_true]
    omega
theorem Qjb {t : List Nd} {S ys : List Sp} {n : Nat} (h : Qag t n = some (S, ys)) (i : Nat) (hi : i < n) : ∃ K, KidsAt t ys i K ∧ ys[i]? = some (over K i) := by
  obtain ⟨Si, hSi⟩ := Qdn h i (by omega)
  obtain ⟨Sj, hSj⟩ := Qdn h (i + 1) (by omega)
  obtain ⟨S0, ys0, s, hk, ha, hs, he⟩ := Qcq hSj
  rw [hSi] at ha
  simp only [Option.some.injEq, Prod.mk.injEq] at ha
  obtain ⟨rfl, rfl⟩ := ha
  have hf := Qaf hSi
  have hfn := (Qaf h).len
  obtain ⟨h0, h1, _, hov⟩ := Qdq hs
  obtain ⟨f, hf'⟩ : ∃ f, f = Si.length - t[i].kids.toNat := ⟨_, rfl⟩
  rw [← hf'] at hov
  have hlen : (Si.drop f).length = t[i].kids.toNat := by simp; omega
  have hget : ∀ r (h : r < (Si.drop f).length), (Si.drop f)[r] = Si[f + r]'(by simp at h; omega) := fun r h => List.getElem_drop
  have hyi : ys[i]? = some s := by
    have h5 : (ys.take (i + 1))[i]? = some s := by
      rw [he, List.getElem?_append_right (by simp; omega)]
      have h9 : i - (ys.take i).length = 0 := by simp; omega
      rw [h9]
      rfl
    rw [List.getElem?_take, if_pos (by omega)] at h5
    exact h5
  refine ⟨Si.drop f, ⟨⟨hk, by rw [hlen]; omega⟩, ?_, ?_, ?_, ?_, by have := Qkk hf.chain; simp; omega⟩, by rw [hyi, hov]⟩
  · intro hp
    have h2 := (hf.chain.2.2.1 (by simp at hp; omega)).2
    rw [hget]
    have e : f + ((Si.drop f).length - 1) = Si.length - 1 := by simp at hp ⊢; omega
    simp only [e]
    exact h2
  · intro r hr hr'
    rw [hget, hget]
    have h2 := hf.chain.2.1 (f + (r - 1)) (by simp at hr'; omega)
    have e : f + (r - 1) + 1 = f + r := by omega
    simp only [e] at h2
    exact h2
  · intro r hr
    rw [hget]
    have hlt : f + r < Si.length := by simp at hr; omega
    have h2 := hf.mem (f + r) hlt
    have h3 := hf.chain.1 (f + r) hlt
    have h4 := (List.getElem?_eq_some_iff.1 h2).1
    refine ⟨?_, h3.1, h3.2⟩
    rw [List.getElem?_take] at h2
    rw [if_pos (by simp at h4; omega)] at h2
    exact h2
  · refine ⟨by omega, ?_⟩
    obtain ⟨_, h6⟩ := List.getElem?_eq_some_iff.1 hyi
    rw [h6, hov]
    rfl
theorem Qgz (t : List Nd) (f i : Nat) (hi : i < t.length) (hf : f ≤ i) : span t f i = (t.take i).drop f ++ [t[i]] := by
  unfold span
  rw [List.take_succ_eq_append_getElem hi, List.drop_append_of_le_length (by simp; omega)]
theorem Jbr {t : List Nd} {S ys : List Sp} {n : Nat} (h : Qag t n = some (S, ys)) :
    ∀ i, i < n → ∀ s, ys[i]? = some s → ∃ ys', Qag (span t s.fr i) (i + 1 - s.fr) = some ([⟨0, i - s.fr, s.dp⟩], ys') := by
  intro i
  induction i using Nat.strongRecOn with
  | ind i ih =>
    intro hi s hs
    obtain ⟨K, hK, ho⟩ := Qjb h i hi
    rw [ho] at hs
    simp only [Option.some.injEq] at hs
    subst hs
    have hle := Qee h
    have hc := Qms hK
    have hfi : frOf K i ≤ i := hc.le
    obtain ⟨y1, r1⟩ := Jcn (t := t) hc (by omega) (fun x hx => by
      obtain ⟨r, hr, rfl⟩ := List.getElem_of_mem hx
      have hm := hK.mem r hr
      exact ih K[r].rt hm.2.2 (by omega) K[r] hm.1)
    have hfl := Qnb (t := t) hc (by omega)
    show ∃ ys', Qag (span t (frOf K i) i) (i + 1 - frOf K i) = some ([⟨0, i - frOf K i, dpOf K⟩], ys')
    rw [Qgz t (frOf K i) i (by omega) hfi, ← hfl]
    obtain ⟨L, hL⟩ : ∃ L, (Qae t K).flatten = L := ⟨_, rfl⟩
    have hLl : L.length = i - frOf K i := by rw [← hL, hfl]; simp; omega
    rw [hL] at r1 ⊢
    have e1 : i + 1 - frOf K i = (i - frOf K i) + 1 := by omega
    have r2 : Qag (L ++ [t[i]'(by omega)]) (i - frOf K i) = some (K.map (fun x => ⟨x.fr - frOf K i, x.rt - frOf K i, x.dp⟩), y1) := by rw [Qff (a := L) (by omega)]; exact r1
    have hst : step (K.map (fun x => (⟨x.fr - frOf K i, x.rt - frOf K i, x.dp⟩ : Sp))) (i - frOf K i) (t[i]'(by omega)).kids = some ([⟨0, i - frOf K i, dpOf K⟩], ⟨0, i - frOf K i, dpOf K⟩) := by
      obtain ⟨_, hn⟩ := hK.num
      rw [hn, Qhs (by omega) (by simp)]
      have hov : over (K.map (fun x => (⟨x.fr - frOf K i, x.rt - frOf K i, x.dp⟩ : Sp))) (i - frOf K i) = ⟨0, i - frOf K i, dpOf K⟩ := by
        unfold over
        have hd : dpOf (K.map (fun x => (⟨x.fr - frOf K i, x.rt - frOf K i, x.dp⟩ : Sp))) = dpOf K := by
          unfold dpOf
          rw [List.foldl_map]
        rw [hd]
        cases K with
        | nil => simp [frOf]
        | cons d D => simp [frOf]
      simp [hov]
    rw [e1]
    refine ⟨_, Qdm r2 (by simp; omega) (S' := [⟨0, i - frOf K i, dpOf K⟩]) (s := ⟨0, i - frOf K i, dpOf K⟩) ?_⟩
    rw [← hst]
    congr 1
    rw [List.getElem_append_right (by omega)]
    simp
end Go.Proofs.YtoiiibplkhedcaaGreatDoor
