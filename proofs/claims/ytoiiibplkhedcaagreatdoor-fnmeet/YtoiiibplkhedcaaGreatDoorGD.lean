import Derived.Test.YtoiiibplkhedcaaGreatDoorGA
import Derived.BigQuiet
import Derived.Test.YtoiiibplkhedcaaGreatDoorGB
import Derived.Test.YtoiiibplkhedcaaGreatDoorProg
import Derived.Deep.Light
import Derived.Deep.RegionLaw
namespace Go.Proofs.YtoiiibplkhedcaaGreatDoor
open Go.RowKit
theorem Ints.set {w : World} {B g cap n : Nat} {xs : List Int} (h : Ints w B g cap n xs) (j : Nat) (x : Int) : Ints (w.setCell ⟨g, j, none⟩ (.int .i64 x)) B g cap n (xs.set j x) := by
  refine ⟨by simp [h.1], ?_⟩
  have := (h.2.stored j (.int .i64 x)).1
  simpa [ints, List.map_set] using this
theorem Ints.frozen {w : World} {B g cap n : Nat} {xs : List Int} (h : Ints w B g cap n xs) (j : Nat) : w.frozen? ⟨g, j, none⟩ = false := h.2.frozenAt j
def rts (K : List Sp) : List Int := K.map fun s => (s.rt : Int)
theorem roots_step (K : List Sp) (r : Nat) (h : 0 < r) (hr : r ≤ K.length) :
    (List.replicate r (0 : Int) ++ rts (K.drop r)).set (r - 1) ((K[r - 1]'(by omega)).rt : Int) = List.replicate (r - 1) (0 : Int) ++ rts (K.drop (r - 1)) := by
  obtain ⟨r', rfl⟩ : ∃ r', r = r' + 1 := ⟨r - 1, by omega⟩
  simp only [Nat.add_sub_cancel]
  rw [List.replicate_succ', List.append_assoc, List.set_append_right _ _ (by simp)]
  have e : r' - (List.replicate r' (0 : Int)).length = 0 := by simp
  rw [e, List.drop_eq_getElem_cons (show r' < K.length by omega)]
  rfl
theorem make_ints (n : Nat) (h : n ≤ 1048576) (w : World) :
    (Instr.makeSlice 40 (.int .i64 (n : Int)) (.int .i64 (n : Int))).run Tryz.prog w = .ok (.slice (some ⟨w.heap.size, 0, none⟩) n n) (w.alloc (.cells (madeCells #[.int .i64 0] n) 3)) :=
  run_make_row' (P := Tryz.prog) 40 3 (.int .i64 0) 8 Tryz.underlying40 Tryz.infoI rfl .i64 .i64 n (by omega) (by omega) w
theorem made_ints (n : Nat) : (madeCells #[Value.int .i64 0] n).toList = ints (List.replicate n 0) := by
  apply List.ext_getElem?
  intro j
  by_cases hj : j < n
  · simp only [madeCells, Array.toList_map, List.getElem?_map, Array.toList_range, ints]
    rw [List.getElem?_range hj, List.getElem?_replicate, if_pos hj]
    simp [Nat.mod_one]
  · rw [List.getElem?_eq_none (by simp [madeCells]; omega), List.getElem?_eq_none (by simp [ints]; omega)]
theorem Ints.made {w : World} {B n : Nat} (hB : B ≤ w.heap.size) (hn : n ≤ 1048576) : Ints (w.alloc (.cells (madeCells #[.int .i64 0] n) 3)) B w.heap.size n n (List.replicate n 0) := by
  refine ⟨by simp, by simp [ints], Or.inr ⟨_, n, _, rfl, hB, heap_alloc_new _ _, Nat.le_refl _, by unfold maxLen; omega, ?_, ?_⟩⟩
  · simp [madeCells]
  · rw [made_ints, List.take_of_length_le (by simp [ints])]
structure KidsAt (t : List Nd) (ys : List Sp) (i : Nat) (K : List Sp) : Prop where
  num : ∃ h : i < t.length, t[i].kids = (K.length : Int)
  last : ∀ h : 0 < K.length, (K[K.length - 1]'(by omega)).rt + 1 = i
  next : ∀ r (h : 0 < r) (h' : r < K.length), (K[r - 1]'(by omega)).rt + 1 = K[r].fr
  mem : ∀ r (h : r < K.length), ys[K[r].rt]? = some K[r] ∧ K[r].fr ≤ K[r].rt ∧ K[r].rt < i
  dp : ∃ h : i < ys.length, ys[i].dp = dpOf K
  len : K.length ≤ i
theorem kids_at {t : List Nd} {S ys : List Sp} {n : Nat} (h : after t n = some (S, ys)) (i : Nat) (hi : i < n) : ∃ K, KidsAt t ys i K := by
  obtain ⟨Si, hSi⟩ := after_part h i (by omega)
  obtain ⟨Sj, hSj⟩ := after_part h (i + 1) (by omega)
  obtain ⟨S0, ys0, s, hk, ha, hs, he⟩ := after_inv hSj
  rw [hSi] at ha
  simp only [Option.some.injEq, Prod.mk.injEq] at ha
  obtain ⟨rfl, rfl⟩ := ha
  have hf := after_fine hSi
  have hfn := (after_fine h).len
  obtain ⟨h0, h1, _, hov⟩ := step_some hs
  obtain ⟨f, hf'⟩ : ∃ f, f = Si.length - t[i].kids.toNat := ⟨_, rfl⟩
  rw [← hf'] at hov
  have hlen : (Si.drop f).length = t[i].kids.toNat := by simp; omega
  have hget : ∀ r (h : r < (Si.drop f).length), (Si.drop f)[r] = Si[f + r]'(by simp at h; omega) := fun r h => List.getElem_drop
  refine ⟨Si.drop f, ⟨hk, by rw [hlen]; omega⟩, ?_, ?_, ?_, ?_, by have := chain_len hf.chain; simp; omega⟩
  · intro hp
    have h2 := (hf.chain.2.2.1 (by simp at hp; omega)).2
    rw [hget]
    have e : f + ((Si.drop f).length - 1) = Si.length - 1 := by simp at hp ⊢; omega
    simp only [e]
    exact h2
  · intro r hr hr'
    rw [hget, hget]
    have h2 := hf.chain.2.1 (f + (r - 1)) (by simp at hr'; omega)
    have e : f + (r - 1) + 1 = f + r := by omega
    simp only [e] at h2
    exact h2
  · intro r hr
    rw [hget]
    have hlt : f + r < Si.length := by simp at hr; omega
    have h2 := hf.mem (f + r) hlt
    have h3 := hf.chain.1 (f + r) hlt
    have h4 := (List.getElem?_eq_some_iff.1 h2).1
    refine ⟨?_, h3.1, h3.2⟩
    rw [List.getElem?_take] at h2
    rw [if_pos (by simp at h4; omega)] at h2
    exact h2
  · refine ⟨by omega, ?_⟩
    have hyi : ys[i]? = some s := by
      have h5 : (ys.take (i + 1))[i]? = some s := by
        rw [he, List.getElem?_append_right (by simp; omega)]
        have : i - (ys.take i).length = 0 := by simp; omega
        rw [this]
        rfl
      rw [List.getElem?_take, if_pos (by omega)] at h5
      exact h5
    have h6 := (List.getElem?_eq_some_iff.1 hyi).2
    rw [h6, hov]
    rfl
set_option maxHeartbeats 1000000 in
theorem roots_any (t : List Nd) (ys K : List Sp) (m i q : Nat) (HM : Hid (t.length = m)) (hm : m ≤ 6000) (HK : Hid (KidsAt t ys i K)) (HQ : Hid (K.length = q)) (him : i < m) (HYL : Hid (ys.length = m)) (ao : Option Addr) (cap gz cz B : Nat) (w : World) (hx : Nodes w ao t) (hz : Ints w B gz cz m (ys.map szOf)) :
    Calls Tryz.prog 36 #[.slice ao m cap, .slice (some ⟨gz, 0, none⟩) m cz, .int .i64 (i : Int)] w fun e w' => ∃ G, e = .returned (.slice (some ⟨G, 0, none⟩) q q) ∧ Ints w' w.heap.size G q q (rts K) ∧ Below w.heap.size w w' := by
  have hit : i < t.length := by have := HM.out; omega
  obtain ⟨b, o, rfl, hn⟩ := hx i hit
  obtain ⟨_, _, _, c3, _⟩ := hn
  have hkn : t[i].kids = (q : Int) := by obtain ⟨h, e⟩ := HK.out.num; rw [e, HQ.out]
  rw [hkn] at c3
  have hqm : q ≤ 6000 := by have := HK.out.len; have := HQ.out; omega
  have hmk := make_ints q (by omega)
  clear hx hkn
  go_enter Tryz.func36, Tryz.ntmps36
  go_wp2
  clear hmk
  have hB1 : Below w.heap.size w (w.alloc (.cells (madeCells #[.int .i64 0] q) 3)) := (Below.refl _ w).alloc (Nat.le_refl _) _
  go_loopw [9, 10] (fun av kv wr => ∃ (r : Nat) (a : Int), r ≤ q ∧ kv = .int .i64 ((r : Int) - 1) ∧ av = .int .i64 a ∧ (∀ h : 0 < r, ∀ h' : r - 1 < K.length, a = (K[r - 1].rt : Int)) ∧ -1 ≤ a ∧ a ≤ 6000 ∧
      Ints wr w.heap.size w.heap.size q q (List.replicate r 0 ++ rts (K.drop r)) ∧ Below w.heap.size w wr) (fun _ kv _ => (intOf kv + 1).toNat)
  case atStart =>
    refine ⟨q, (i : Int) - 1, Nat.le_refl _, rfl, rfl, ?_, by omega, by omega, ?_, hB1⟩
    · intro h h'
      have h2 := HK.out.last (by omega)
      have h3 := HQ.out
      simp only [h3] at h2
      omega
    · have h9 := Ints.made (w := w) (B := w.heap.size) (n := q) (Nat.le_refl _) (by omega)
      have e9 : List.replicate q (0 : Int) ++ rts (K.drop q) = List.replicate q 0 := by
        rw [List.drop_eq_nil_of_le (by have := HQ.out; omega)]
        simp [rts]
      rw [e9]
      exact h9
  case round =>
    obtain ⟨r, a, hr, rfl, rfl, ha, ha1, ha2, hints, hb⟩ := hrel
    by_cases hr0 : 0 < r
    · have hrK : r - 1 < K.length := by have := HQ.out; omega
      obtain ⟨s, hs⟩ : ∃ s, K[r - 1] = s := ⟨_, rfl⟩
      have ha' := ha hr0 hrK
      rw [hs] at ha'
      subst ha'
      obtain ⟨hmem, hfr, hrt⟩ := HK.out.mem (r - 1) hrK
      rw [hs] at hmem hfr hrt
      have hrm : s.rt < m := by omega
      have hlz : s.rt < ys.length := by have := HYL.out; omega
      have cz1 : wr.cell? ⟨gz, s.rt, none⟩ = some (.int .i64 ((s.rt : Int) - (s.fr : Int) + 1)) := by
        have h9 := (hz.below hb).at s.rt (by simp; exact hlz)
        have h8 := (List.getElem?_eq_some_iff.1 hmem).2
        rw [h9]
        simp [szOf, h8]
      have HST : Hid ((List.replicate r (0 : Int) ++ rts (K.drop r)).set (r - 1) (s.rt : Int) = List.replicate (r - 1) (0 : Int) ++ rts (K.drop (r - 1))) := by
        have h9 := roots_step K r hr0 (by omega)
        rw [hs] at h9
        exact h9
      have HA : Hid (∀ h : 0 < r - 1, ∀ h' : r - 1 - 1 < K.length, (s.fr : Int) - 1 = (K[r - 1 - 1].rt : Int)) := by
        intro h h'
        have h9 := HK.out.next (r - 1) h hrK
        rw [hs] at h9
        omega
      have hf := hints.frozen (r - 1)
      obtain ⟨v0, hv0⟩ : ∃ v, wr.cell? ⟨w.heap.size, r - 1, none⟩ = some v := ⟨_, hints.at (r - 1) (by have := hints.1; omega)⟩
      have hi2 := hints.set (r - 1) (s.rt : Int)
      rw [HST.out] at hi2
      have hb2 := hb.setCell (p := ⟨w.heap.size, r - 1, none⟩) (Nat.le_refl _) (.int .i64 (s.rt : Int))
      have hgz := (hz.below hb).block
      have hgne : gz ≠ w.heap.size := by have := hz.block; omega
      obtain ⟨r', rfl⟩ : ∃ r', r = r' + 1 := ⟨r - 1, by omega⟩
      simp only [Nat.add_sub_cancel] at *
      clear ha hs hmem hints hb hz hB1
      go_wp2
      go_roundw
      case rel => exact ⟨r', (s.fr : Int) - 1, by omega, rfl, by go_num, HA.out, by omega, by omega, hi2, hb2⟩
      case measure => simp [intOf]
    · have hr00 : r = 0 := by omega
      subst hr00
      have hfin : Ints wr w.heap.size w.heap.size q q (rts K) := by simpa using hints
      clear hints ha hz hB1
      go_wp2
      go_ret
      exact ⟨_, rfl, hfin, hb⟩
end Go.Proofs.YtoiiibplkhedcaaGreatDoor

namespace Go.Proofs.YtoiiibplkhedcaaGreatDoor
open Go.RowKit
def dmx (K : List Sp) : Nat := K.foldl (fun d k => max d k.dp) 0
theorem dmx_dpOf (K : List Sp) : dpOf K = dmx K + 1 := by
  unfold dpOf dmx
  have key : ∀ (l : List Sp) (d : Nat), l.foldl (fun d k => max d (k.dp + 1)) (d + 1) = l.foldl (fun d k => max d k.dp) d + 1 := by
    intro l
    induction l with
    | nil => intro d; rfl
    | cons x l ih =>
      intro d
      simp only [List.foldl_cons]
      have e : max (d + 1) (x.dp + 1) = max d x.dp + 1 := by omega
      rw [e]
      exact ih _
  exact key K 0
theorem dmx_take_succ (K : List Sp) (j : Nat) (h : j < K.length) : dmx (K.take (j + 1)) = max (dmx (K.take j)) K[j].dp := by
  unfold dmx
  rw [List.take_succ_eq_append_getElem h, List.foldl_append]
  rfl
def dps (ys : List Sp) : List Int := ys.map fun s => (s.dp : Int)
set_option maxRecDepth 100000 in
set_option maxHeartbeats 2000000 in
theorem depths_any (t : List Nd) (S ys : List Sp) (m : Nat) (HM : Hid (t.length = m)) (hm : m ≤ 6000) (HA : Hid (after t m = some (S, ys))) (ao : Option Addr) (cap gz cz B : Nat) (w : World) (hx : Nodes w ao t) (hz : Ints w B gz cz m (ys.map szOf)) :
    Calls Tryz.prog 89 #[.slice ao m cap, .slice (some ⟨gz, 0, none⟩) m cz] w fun e w' => ∃ g c, e = .returned (.slice (some ⟨g, 0, none⟩) m c) ∧ Ints w' w.heap.size g c m (dps ys) ∧ Below w.heap.size w w' := by
  obtain ⟨i0, hi, hz0, hz1, hz2⟩ := info_parts Tryz.infoI
  have HF : Hid (Fine m S ys) := after_fine HA.out
  have HYL : Hid (ys.length = m) := HF.out.len
  go_enter Tryz.func89, Tryz.ntmps89
  go_wp2
  go_loopw [5, 6] (fun v p wr => ∃ (i g c : Nat), i ≤ m ∧ p = .int .i64 i ∧ v = .slice (some ⟨g, 0, none⟩) i c ∧ Ints wr w.heap.size g c i (dps (ys.take i)) ∧ Below w.heap.size w wr) (fun _ p _ => m - (intOf p).toNat)
  case atStart => exact ⟨0, w.heap.size, 0, Nat.zero_le _, rfl, rfl, Ints.empty (Nat.le_refl _), (Below.refl _ w).alloc (Nat.le_refl _) _⟩
  case round =>
    obtain ⟨i, g, c, him, rfl, rfl, hout, hb⟩ := hrel
    by_cases hlt : i < m
    · obtain ⟨K, hK⟩ := kids_at HA.out i hlt
      obtain ⟨q, hq⟩ : ∃ q, K.length = q := ⟨_, rfl⟩
      have HK : Hid (KidsAt t ys i K) := hK
      have HQ : Hid (K.length = q) := hq
      have hqm : q ≤ 6000 := by have := hK.len; omega
      have hxr := hx.below hb
      have hzr := hz.below hb
      clear hK hq hx hz
      go_wp2_with fail
      refine (roots_any t ys K m i q HM hm HK HQ hlt HYL ao cap gz cz B wr hxr hzr).mono ?_
      rintro e w1 ⟨G, rfl, hroots, hb1⟩
      have hout1 := hout.below hb1
      have hbb := hb.trans (hb1.mono hb.size)
      clear hb hb1 hout hxr hzr
      go_wp2
      go_loop [7, 9] (fun dv kv => ∃ (j : Nat), j ≤ q ∧ kv = .int .i64 j ∧ dv = .int .i64 (dmx (K.take j) : Int)) (fun _ kv => q - (intOf kv).toNat)
      case atStart => exact ⟨0, Nat.zero_le _, rfl, rfl⟩
      case round =>
        obtain ⟨j, hj, rfl, rfl⟩ := hrel
        by_cases hjq : j < q
        · have hjK : j < K.length := by have := HQ.out; omega
          obtain ⟨s, hs⟩ : ∃ s, K[j] = s := ⟨_, rfl⟩
          obtain ⟨hmem, hfr, hrt⟩ := HK.out.mem j hjK
          rw [hs] at hmem hfr hrt
          have cr : w1.cell? ⟨G, j, none⟩ = some (.int .i64 (s.rt : Int)) := by
            rw [hroots.at j (by simp [rts]; exact hjK)]
            simp [rts, hs]
          have co : w1.cell? ⟨g, s.rt, none⟩ = some (.int .i64 (s.dp : Int)) := by
            have hyl : s.rt < (ys.take i).length := by have := HYL.out; simp; omega
            rw [hout1.at s.rt (by simp only [dps, List.length_map]; exact hyl)]
            have h8 := (List.getElem?_eq_some_iff.1 hmem).2
            simp [dps, h8]
          have HD : Hid (dmx (K.take (j + 1)) = max (dmx (K.take j)) s.dp) := by have h9 := dmx_take_succ K j hjK; rw [hs] at h9; exact h9
          obtain ⟨d, hd⟩ : ∃ d, dmx (K.take j) = d := ⟨_, rfl⟩
          have HDD : Hid (dmx (K.take j) = d) := hd
          rw [hd]
          clear hs hmem hroots hout1 hd
          by_cases hgt : d < s.dp
          · go_wp2
            go_round
            case rel => exact ⟨j + 1, by omega, by go_num, by rw [HD.out, HDD.out]; congr 1; omega⟩
            case measure => simp [intOf]; omega
          · go_wp2
            go_round
            case rel => exact ⟨j + 1, by omega, by go_num, by rw [HD.out, HDD.out]; congr 1; omega⟩
            case measure => simp [intOf]; omega
        · have HE : Hid (K.take j = K) := List.take_of_length_le (by have := HQ.out; omega)
          rw [HE.out]
          have HDP : Hid (((dmx K : Nat) : Int) + 1 = ((ys[i]'(by have := HYL.out; omega)).dp : Int)) := by
            obtain ⟨h9, e9⟩ := HK.out.dp
            show ((dmx K : Nat) : Int) + 1 = ((ys[i]'(by have := HYL.out; omega)).dp : Int)
            rw [e9, dmx_dpOf]
            omega
          have hdb : dmx K ≤ 10000 := by
            have h8 := (HF.out.root i (by have := HYL.out; omega)).2.2.2
            have := HDP.out
            omega
          obtain ⟨d, hd⟩ : ∃ d, dmx K = d := ⟨_, rfl⟩
          rw [hd] at hdb HDP ⊢
          clear hroots hd
          have hob := hout1.block
          go_wp2_with (at_builtin; refine wpList_append2 _ rfl (.tmp 43) (.tmp 46) 40 rfl w.heap.size 3 i0 _ 1 8 Tryz.underlying40 hi hz0 hz1 hz2 rfl (by decide) g i c _ rfl (hout1.alloc _).2 ⟨_, 0, none⟩ 1 1 [.int .i64 ((d : Int) + 1)] rfl rfl (one_cell _ _) (one_one _) ?a3 ?a4 ?a5 ?_)
          case a3 => unfold maxLen; omega
          case a4 => omega
          case a5 => have := hbb.size; simp; omega
          intro g2 c2 w2 hown2 hgrow2 hwh
          have hI2 : Ints w2 w.heap.size g2 c2 (i + 1) (dps (ys.take (i + 1))) := by
            have h9 := Ints.push hown2 hout1.1 rfl
            have e9 : dps (ys.take (i + 1)) = dps (ys.take i) ++ [(d : Int) + 1] := by
              rw [List.take_succ_eq_append_getElem (by have := HYL.out; omega)]
              rw [HDP.out]
              simp only [dps, List.map_append, List.map_cons, List.map_nil]
            rw [e9]
            exact h9
          have hb2 : Below w.heap.size w w2 := (hbb.alloc hbb.size _).grown hgrow2 (by have := hbb.size; simp; omega) (fun q hq => by cases hq; exact hob.1)
          clear hown2 hgrow2 hwh hout1 hbb
          go_wp2
          go_roundw
          case rel => exact ⟨i + 1, g2, c2, by omega, by go_num, rfl, hI2, hb2⟩
          case measure => simp [intOf]; omega
    · have hie : i = m := by omega
      subst hie
      have hfin : Ints wr w.heap.size g c i (dps ys) := by
        rw [List.take_of_length_le (by have := HYL.out; omega)] at hout
        exact hout
      clear hx hz hout
      go_wp2
      go_ret
      exact ⟨_, _, rfl, hfin, hb⟩
end Go.Proofs.YtoiiibplkhedcaaGreatDoor

namespace Go.Proofs.YtoiiibplkhedcaaGreatDoor
open Go.RowKit
theorem deepOf_some {t : List Nd} {S ys : List Sp} {m : Nat} (hm : t.length = m) (h6 : m ≤ 6000) (h0 : 0 < m) (h : after t m = some (S, ys)) :
    ∃ s, ys[m - 1]? = some s ∧ deepOf t = (if s.fr = 0 ∧ s.dp ≤ 300 then s.dp else 0) ∧ s.rt = m - 1 ∧ s.fr ≤ m - 1 ∧ 1 ≤ s.dp ∧ s.dp ≤ m := by
  have hf := after_fine h
  have hl : m - 1 < ys.length := by have := hf.len; omega
  have hr := hf.root (m - 1) hl
  refine ⟨ys[m - 1], List.getElem?_eq_getElem hl, ?_, hr.1, hr.2.1, hr.2.2.1, by omega⟩
  unfold deepOf
  rw [if_neg (by omega), hm, h]
  have hg : ys.getLast? = some ys[m - 1] := by
    have := hf.len
    rw [List.getLast?_eq_getElem?]
    have e : ys.length - 1 = m - 1 := by omega
    rw [e, List.getElem?_eq_getElem hl]
  simp only [hg]
theorem deepOf_none {t : List Nd} (h : after t t.length = none) : deepOf t = 0 := by
  unfold deepOf
  split
  · rfl
  · rw [h]
theorem deepOf_great {t : List Nd} (h : 6000 < t.length) : deepOf t = 0 := by
  unfold deepOf
  rw [if_pos h]
theorem deepOf_nil {t : List Nd} (h : t.length = 0) : deepOf t = 0 := by
  have : t = [] := List.eq_nil_of_length_eq_zero h
  subst this
  rfl
set_option maxRecDepth 100000 in
set_option maxHeartbeats 1000000 in
theorem specGood_any (t : List Nd) (m : Nat) (HM : Hid (t.length = m)) (hm : m ≤ 1048576) (ao : Option Addr) (cap : Nat) (w : World) (hx : Nodes w ao t) :
    Calls Tryz.prog 52 #[.slice ao m cap] w fun e w' => e = .returned (.bool (decide (0 < deepOf t))) ∧ Below w.heap.size w w' := by
  by_cases h0 : m = 0
  · subst h0
    have HD : Hid (deepOf t = 0) := deepOf_nil HM.out
    clear hx
    go_enter Tryz.func52, Tryz.ntmps52
    go_wp2
    go_ret
    exact ⟨by rw [HD.out]; rfl, Below.refl _ _⟩
  by_cases h6 : m ≤ 6000
  · have h0' : ((m : Int) == 0) = false := by simp; omega
    go_enter Tryz.func52, Tryz.ntmps52
    go_wp2_with fail
    refine (sizes_any t m HM h6 ao cap w hx).mono ?_
    rintro e w1 ⟨gz, cz, n, rfl, hz, hb⟩
    have hx1 := hx.below hb
    clear hx
    cases hA : after t m with
    | none =>
      have HD : Hid (deepOf t = 0) := deepOf_none (by rw [HM.out]; exact hA)
      have hn0 : n = 0 := by
        have h9 := hz.1
        unfold sizesOf at h9
        rw [HM.out, hA] at h9
        simpa using h9.symm
      subst hn0
      clear hz hA hx1
      go_wp2
      go_ret
      exact ⟨by rw [HD.out]; rfl, hb⟩
    | some p =>
      obtain ⟨S, ys⟩ := p
      have HA : Hid (after t m = some (S, ys)) := hA
      have hsz : sizesOf t = ys.map szOf := by unfold sizesOf; rw [HM.out, hA]
      rw [hsz] at hz
      have hyl := (after_fine hA).len
      have hnm : n = m := by have h9 := hz.1; simp at h9; omega
      subst hnm
      obtain ⟨s, hs, hd1, hd2, hd3, hd4, hd5⟩ := deepOf_some HM.out h6 (by omega) hA
      have HD : Hid (deepOf t = if s.fr = 0 ∧ s.dp ≤ 300 then s.dp else 0) := hd1
      have cz1 : w1.cell? ⟨gz, n - 1, none⟩ = some (.int .i64 ((n : Int) - (s.fr : Int))) := by
        rw [hz.at (n - 1) (by simp; omega)]
        obtain ⟨h8, h9⟩ := List.getElem?_eq_some_iff.1 hs
        simp [szOf, h9]
        omega
      have HYS : Hid (ys[n - 1]? = some s) := hs
      have HYL : Hid (ys.length = n) := hyl
      have hbz := hz.block
      clear hA hsz hd1 hs hyl
      by_cases hfr : s.fr = 0
      · rw [hfr] at cz1
        have cz2 : w1.cell? ⟨gz, n - 1, none⟩ = some (.int .i64 (n : Int)) := by simpa using cz1
        clear cz1
        go_wp2_with fail
        refine (depths_any t S ys n HM h6 HA ao cap gz cz w.heap.size w1 hx1 hz).mono ?_
        rintro e w2 ⟨g, c, rfl, hd, hb2⟩
        have cd : w2.cell? ⟨g, n - 1, none⟩ = some (.int .i64 (s.dp : Int)) := by
          rw [hd.at (n - 1) (by have := HYL.out; simp [dps]; omega)]
          obtain ⟨h8, h9⟩ := List.getElem?_eq_some_iff.1 HYS.out
          simp [dps, h9]
        have hbb := Below.step hb hb2
        have HV : Hid (deepOf t = if s.dp ≤ 300 then s.dp else 0) := by rw [HD.out, hfr]; simp [Hid]
        clear hz hx1 hd hb hb2 cz2
        by_cases h3 : s.dp ≤ 300
        · go_wp2
          go_ret
          exact ⟨by rw [HV.out, if_pos h3]; congr 2; simp; omega, hbb⟩
        · go_wp2
          go_ret
          exact ⟨by rw [HV.out, if_neg h3]; congr 2; simp; omega, hbb⟩
      · have HV : Hid (deepOf t = 0) := by rw [HD.out, if_neg (by omega)]; rfl
        have hne : (((n : Int) - (s.fr : Int)) != (n : Int)) = true := by simp; omega
        clear hz hx1
        go_wp2
        go_ret
        exact ⟨by rw [HV.out]; rfl, hb⟩
  · have HD : Hid (deepOf t = 0) := deepOf_great (by have := HM.out; omega)
    have h0' : ((m : Int) == 0) = false := by simp; omega
    clear hx
    go_enter Tryz.func52, Tryz.ntmps52
    go_wp2
    go_ret
    exact ⟨by rw [HD.out]; rfl, Below.refl _ _⟩
end Go.Proofs.YtoiiibplkhedcaaGreatDoor

namespace Go.Proofs.YtoiiibplkhedcaaGreatDoor
open Go.RowKit
theorem nd_new_cells (w : World) (n : Nd) : ∀ j u, n.row[j]? = some u →
    (w.alloc (.cells #[.int .i64 n.kind, .int .i64 n.num, .string n.text, .int .i64 n.kids, .int .i64 n.place] 43)).cell? (Addr.add ⟨w.heap.size, 0, none⟩ j) = some u := by
  intro j u hj
  have ad : Addr.add ⟨w.heap.size, 0, none⟩ j = ⟨w.heap.size, j, none⟩ := by
    unfold Addr.add
    split
    · simp_all
    · simp
  rw [ad, cell_of_row _ w.heap.size j _ 43 (0, 0) (heap_alloc_new _ _), ← hj]
  simp [Nd.row]
theorem nd_row_one (n : Nd) : ∀ u ∈ n.row, u.oneCell' = true := by
  intro u hu
  simp [Nd.row] at hu
  rcases hu with rfl | rfl | rfl | rfl | rfl <;> rfl
theorem nd_flat_one (ks : List Nd) : ∀ u ∈ flat ks, u.oneCell' = true := by
  intro u hu
  unfold flat at hu
  obtain ⟨n, _, hn⟩ := List.mem_flatMap.1 hu
  exact nd_row_one n u hn
def OwnN (w : World) (B g c l : Nat) (zs : List Nd) : Prop := zs.length = l ∧ w.ownsRow B 43 5 (.slice (some ⟨g, 0, none⟩) l c) l (flat zs)
theorem OwnN.row {w : World} {B g c l : Nat} {zs : List Nd} (h : OwnN w B g c l zs) : B ≤ g ∧ Row w g zs := by
  obtain ⟨hl, ho⟩ := h
  rcases ho.2 with ⟨h', _⟩ | ⟨g2, cap2, cur, he, hb, hh, _, _, _, htake⟩
  · cases h'
  · simp only [Value.slice.injEq, Option.some.injEq, Addr.mk.injEq, and_true, true_and] at he
    obtain ⟨rfl, rfl⟩ := he
    exact ⟨hb, cur, cur.toList.drop (l * 5), hh, by rw [← htake, List.take_append_drop]⟩
theorem OwnN.empty {w : World} {B : Nat} (hB : B ≤ w.heap.size) : OwnN (w.alloc (.cells #[] 43)) B w.heap.size 0 0 [] :=
  ⟨rfl, rfl, Or.inr ⟨_, 0, #[], rfl, hB, heap_alloc_new _ _, Nat.le_refl _, by simp [maxLen], rfl, rfl⟩⟩
theorem OwnN.alloc {w : World} {B g c l : Nat} {zs : List Nd} (h : OwnN w B g c l zs) (o : Obj) : OwnN (w.alloc o) B g c l zs := ⟨h.1, h.2.alloc o⟩
theorem OwnN.below {w w' : World} {B g c l : Nat} {zs : List Nd} (h : OwnN w B g c l zs) (hb : Below w.heap.size w w') : OwnN w' B g c l zs :=
  ⟨h.1, owns_but (S := fun _ => False) h.2 (But.ofBelow hb) (fun h => h)⟩
theorem OwnN.push {w : World} {B g c l m : Nat} {zs : List Nd} {x : Nd} (h : w.ownsRow B 43 5 (.slice (some ⟨g, 0, none⟩) m c) m (flat zs ++ x.row)) (hl : zs.length = l) (hm : m = l + 1) : OwnN w B g c (l + 1) (zs ++ [x]) := by
  subst hm
  refine ⟨by simp [hl], ?_⟩
  rw [flat_append]
  have e : flat [x] = x.row := by simp [flat]
  rw [e]
  exact h
set_option maxHeartbeats 1000000 in
theorem copy_any (xs : List Nd) (m : Nat) (HM : Hid (xs.length = m)) (hm : m ≤ 1048576) (ao : Option Addr) (cap : Nat) (w : World) (hx : Nodes w ao xs) :
    Calls Tryz.prog 90 #[.slice ao m cap] w fun e w' => ∃ g c, e = .returned (.slice (some ⟨g, 0, none⟩) m c) ∧ w.heap.size ≤ g ∧ Row w' g xs ∧ Below w.heap.size w w' := by
  obtain ⟨i0, hi, hz0, hz1, hz2⟩ := info_parts Tryz.infoN
  go_enter Tryz.func90, Tryz.ntmps90
  go_wp2
  go_loopw [3, 4] (fun v p wr => ∃ (k g c : Nat), k ≤ m ∧ p = .int .i64 k ∧ v = .slice (some ⟨g, 0, none⟩) k c ∧ OwnN wr w.heap.size g c k (xs.take k) ∧ Below w.heap.size w wr) (fun _ p _ => m - (intOf p).toNat)
  case atStart => exact ⟨0, w.heap.size, 0, Nat.zero_le _, rfl, rfl, OwnN.empty (Nat.le_refl _), (Below.refl _ w).alloc (Nat.le_refl _) _⟩
  case round =>
    obtain ⟨k, g, c, hk, rfl, rfl, hown, hb⟩ := hrel
    by_cases hlt : k < m
    · have hltk : k < xs.length := by have := HM.out; omega
      obtain ⟨b, o, rfl, hn⟩ := hx.below hb k hltk
      obtain ⟨x, hxk⟩ : ∃ x, xs[k] = x := ⟨_, rfl⟩
      rw [hxk] at hn
      obtain ⟨c0, c1, c2, c3, c4⟩ := hn
      have HT : Hid (xs.take (k + 1) = xs.take k ++ [x]) := by show xs.take (k + 1) = _; rw [List.take_succ_eq_append_getElem hltk, hxk]
      have hob := owns_block hown.2
      clear hx hxk
      go_wp2_with (at_builtin; refine wpList_append2 _ rfl (.tmp 12) (.tmp 17) 23 rfl w.heap.size 43 i0 _ 5 48 Tryz.underlying23 hi hz0 hz1 hz2 rfl (by decide) g k c _ rfl (hown.alloc _).2 ⟨_, 0, none⟩ 1 1 x.row rfl rfl (nd_new_cells _ x) (nd_row_one x) ?a3 ?a4 ?a5 ?_)
      case a3 => unfold maxLen; omega
      case a4 => omega
      case a5 => have := hb.size; simp; omega
      intro g2 c2' w2 hown2 hgrow2 hwh
      have hO := OwnN.push hown2 hown.1 rfl
      rw [← HT.out] at hO
      have hbb : Below w.heap.size w w2 := (hb.alloc hb.size _).grown hgrow2 (by have := hb.size; simp; omega) (fun q hq => by cases hq; exact hob.1)
      clear hown2 hgrow2 hwh hown hb c0 c1 c2 c3 c4
      go_wp2
      go_roundw
      case rel => exact ⟨k + 1, g2, c2', by omega, by go_num, rfl, hO, hbb⟩
      case measure => simp [intOf]; omega
    · have hke : k = m := by omega
      subst hke
      rw [List.take_of_length_le (by have := HM.out; omega)] at hown
      obtain ⟨hg, hr⟩ := hown.row
      clear hx hown
      go_wp2
      go_ret
      exact ⟨_, _, rfl, hg, hr, hb⟩
def span (t : List Nd) (f i : Nat) : List Nd := (t.take (i + 1)).drop f
theorem span_length (t : List Nd) (f i : Nat) (hi : i < t.length) : (span t f i).length = i + 1 - f := by simp [span]; omega
theorem span_nodes {w : World} {g : Nat} {t : List Nd} (h : Row w g t) (f i : Nat) (hi : i < t.length) : Nodes w (some ⟨g, f * 5, none⟩) (span t f i) := by
  intro j hj
  have hl := span_length t f i hi
  refine ⟨g, f * 5, rfl, ?_⟩
  have h1 := h.node (f + j) (by omega)
  have e : (f + j) * 5 = f * 5 + j * 5 := by omega
  rw [e] at h1
  have e2 : (span t f i)[j] = t[f + j]'(by omega) := by simp [span]
  rw [e2]
  exact h1
theorem deep_after {t : List Nd} {m : Nat} (hm : t.length = m) (hd : 0 < deepOf t) : 0 < m ∧ m ≤ 6000 ∧ ∃ S ys, after t m = some (S, ys) ∧ ys.length = m := by
  have h6 : m ≤ 6000 := by
    by_cases h : m ≤ 6000
    · exact h
    · have := deepOf_great (t := t) (by omega)
      omega
  have h0 : 0 < m := by
    by_cases h : m = 0
    · have := deepOf_nil (t := t) (by omega)
      omega
    · omega
  cases hA : after t m with
  | none =>
    have := deepOf_none (t := t) (by rw [hm]; exact hA)
    omega
  | some p =>
    obtain ⟨S, ys⟩ := p
    exact ⟨h0, h6, S, ys, rfl, (after_fine hA).len⟩
end Go.Proofs.YtoiiibplkhedcaaGreatDoor

namespace Go.Proofs.YtoiiibplkhedcaaGreatDoor
open Go.RowKit
def Nd.plainb (n : Nd) : Bool :=
  n.place == 0 &&
    (((n.kind == 60 || n.kind == 61) && n.kids == 0 && decide (1 ≤ n.num) && n.text.size == 0) || (n.kind == 12 && n.num == 0) ||
      (((n.kind == 13 && n.kids == 2) || (n.kind == 14 && n.kids != 1)) && n.num == 0 && n.text.size == 0))
theorem all_false {α : Type} {p : α → Bool} {xs : List α} (k : Nat) (h : k < xs.length) (hf : p xs[k] = false) : xs.all p = false := by
  cases h9 : xs.all p
  · rfl
  · exact absurd (List.all_eq_true.1 h9 _ (List.getElem_mem h)) (by simp [hf])
theorem take_all {α : Type} {p : α → Bool} {xs : List α} (k : Nat) (h : k < xs.length) (ht : p xs[k] = true) (ha : (xs.take k).all p = true) : (xs.take (k + 1)).all p = true := by
  rw [List.take_succ_eq_append_getElem h, List.all_append, ha]
  simp [ht]
set_option maxRecDepth 100000 in
set_option maxHeartbeats 2000000 in
theorem isPlain_any (t : List Nd) (m : Nat) (HM : Hid (t.length = m)) (hm : m ≤ 1048576) (ao : Option Addr) (cap : Nat) (w : World) (hx : Nodes w ao t) :
    Calls Tryz.prog 53 #[.slice ao m cap] w fun e w' => e = .returned (.bool (t.all Nd.plainb)) ∧ Below w.heap.size w w' := by
  go_enter Tryz.func53, Tryz.ntmps53
  go_wp2
  go_loopw [3] (fun i wr => ∃ (k : Nat), k ≤ m ∧ i = .int .i64 k ∧ (t.take k).all Nd.plainb = true ∧ Below w.heap.size w wr) (fun i _ => m - (intOf i).toNat)
  case atStart => exact ⟨0, Nat.zero_le _, rfl, by simp, Below.refl _ _⟩
  case round =>
    obtain ⟨k, hk, rfl, hall, hb⟩ := hrel
    by_cases hlt : k < m
    · have hltx : k < t.length := by have := HM.out; omega
      obtain ⟨⟨kd, nm, tx, ks, pl⟩, hxk⟩ : ∃ x, t[k] = x := ⟨_, rfl⟩
      obtain ⟨b, o, rfl, hcx⟩ := hx.below hb k hltx
      rw [hxk] at hcx
      obtain ⟨c0, c1, c2, c3, c4⟩ := hcx
      simp only at c0 c1 c2 c3 c4
      have hlb : b < wr.heap.size := lt_of_cell c0
      have HF : Hid (Nd.plainb ⟨kd, nm, tx, ks, pl⟩ = false → t.all Nd.plainb = false) := fun h => all_false k hltx (by rw [hxk]; exact h)
      have HT : Hid (Nd.plainb ⟨kd, nm, tx, ks, pl⟩ = true → (t.take (k + 1)).all Nd.plainb = true) := fun h => take_all k hltx (by rw [hxk]; exact h) hall
      clear hx hall hxk
      by_cases hp : pl = 0
      · subst hp
        by_cases h60 : kd = 60 ∨ kd = 61
        · have tk : ((kd : Int) == 60 || (kd : Int) == 61) = true := by simpa using h60
          rcases h60 with rfl | rfl
          all_goals
            by_cases hks : ks = 0
            · subst hks
              by_cases hnm : nm < 1
              · have tn : decide (nm < 1) = true := by simpa using hnm
                go_wp2
                go_ret
                exact ⟨by rw [HF.out (by simp [Nd.plainb]; omega)]; rfl, hb.alloc hb.size _⟩
              · have tn : decide (nm < 1) = false := by simpa using hnm
                by_cases htx : tx.size = 0
                · have tt : decide ((tx.size : Int) > 0) = false := decide_eq_false (by rw [htx]; decide)
                  go_wp2
                  go_roundw
                  case rel => exact ⟨k + 1, by omega, by go_num, HT.out (by simp [Nd.plainb, htx]; omega), hb.alloc hb.size _⟩
                  case measure => simp [intOf]; omega
                · have tt : decide ((tx.size : Int) > 0) = true := by simp; omega
                  go_wp2
                  go_ret
                  exact ⟨by rw [HF.out (by simp [Nd.plainb, htx])]; rfl, hb.alloc hb.size _⟩
            · have ts : ((ks : Int) != 0) = true := by simpa using hks
              go_wp2
              go_ret
              exact ⟨by rw [HF.out (by simp [Nd.plainb, hks])]; rfl, hb.alloc hb.size _⟩
        · have t60 : ((kd : Int) == 60) = false := by simp; omega
          have t61 : ((kd : Int) == 61) = false := by simp; omega
          by_cases h12 : kd = 12
          · subst h12
            by_cases hnm : nm = 0
            · subst hnm
              go_wp2
              go_roundw
              case rel => exact ⟨k + 1, by omega, by go_num, HT.out (by simp [Nd.plainb]), hb.alloc hb.size _⟩
              case measure => simp [intOf]; omega
            · have tn : ((nm : Int) != 0) = true := by simpa using hnm
              go_wp2
              go_ret
              exact ⟨by rw [HF.out (by simp [Nd.plainb, hnm])]; rfl, hb.alloc hb.size _⟩
          · have t12 : ((kd : Int) == 12) = false := by simpa using h12
            by_cases h13 : kd = 13
            · subst h13
              by_cases hks : ks = 2
              · subst hks
                by_cases hnm : nm = 0
                · subst hnm
                  by_cases htx : tx.size = 0
                  · have tt : decide ((tx.size : Int) > 0) = false := decide_eq_false (by rw [htx]; decide)
                    go_wp2
                    go_roundw
                    case rel => exact ⟨k + 1, by omega, by go_num, HT.out (by simp [Nd.plainb, *]), hb.alloc hb.size _⟩
                    case measure => simp [intOf]; omega
                  · have tt : decide ((tx.size : Int) > 0) = true := by simp; omega
                    go_wp2
                    go_ret
                    exact ⟨by rw [HF.out (by simp [Nd.plainb, *])]; rfl, hb.alloc hb.size _⟩
                · have tn : ((nm : Int) != 0) = true := by simpa using hnm
                  go_wp2
                  go_ret
                  exact ⟨by rw [HF.out (by simp [Nd.plainb, *])]; rfl, hb.alloc hb.size _⟩
              · have ts : ((ks : Int) == 2) = false := by simpa using hks
                go_wp2
                go_ret
                exact ⟨by rw [HF.out (by simp [Nd.plainb, hks])]; rfl, hb.alloc hb.size _⟩
            · have t13 : ((kd : Int) == 13) = false := by simpa using h13
              by_cases h14 : kd = 14
              · subst h14
                by_cases hks : ks = 1
                · subst hks
                  go_wp2
                  go_ret
                  exact ⟨by rw [HF.out (by simp [Nd.plainb])]; rfl, hb.alloc hb.size _⟩
                · have ts : ((ks : Int) != 1) = true := by simpa using hks
                  by_cases hnm : nm = 0
                  · subst hnm
                    by_cases htx : tx.size = 0
                    · have tt : decide ((tx.size : Int) > 0) = false := decide_eq_false (by rw [htx]; decide)
                      go_wp2
                      go_roundw
                      case rel => exact ⟨k + 1, by omega, by go_num, HT.out (by simp [Nd.plainb, *]), hb.alloc hb.size _⟩
                      case measure => simp [intOf]; omega
                    · have tt : decide ((tx.size : Int) > 0) = true := by simp; omega
                      go_wp2
                      go_ret
                      exact ⟨by rw [HF.out (by simp [Nd.plainb, *])]; rfl, hb.alloc hb.size _⟩
                  · have tn : ((nm : Int) != 0) = true := by simpa using hnm
                    go_wp2
                    go_ret
                    exact ⟨by rw [HF.out (by simp [Nd.plainb, *])]; rfl, hb.alloc hb.size _⟩
              · have t14 : ((kd : Int) == 14) = false := by simpa using h14
                go_wp2
                go_ret
                exact ⟨by rw [HF.out (by simp [Nd.plainb]; omega)]; rfl, hb.alloc hb.size _⟩
      · have tp : ((pl : Int) != 0) = true := by simpa using hp
        go_wp2
        go_ret
        exact ⟨by rw [HF.out (by simp [Nd.plainb, hp])]; rfl, hb.alloc hb.size _⟩
    · have HA : Hid (t.all Nd.plainb = true) := by
        have h9 := hall
        rw [List.take_of_length_le (by have := HM.out; omega)] at h9
        exact h9
      clear hall hx
      go_wp2
      go_ret
      exact ⟨by rw [HA.out]; rfl, hb⟩
end Go.Proofs.YtoiiibplkhedcaaGreatDoor

namespace Go.Proofs.YtoiiibplkhedcaaGreatDoor
open Go.RowKit
def typeb (t : List Nd) : Bool := decide (t.length ≤ 300) && decide (0 < deepOf t) && t.all Nd.plainb
set_option maxHeartbeats 1000000 in
theorem isType_any (t : List Nd) (m : Nat) (HM : Hid (t.length = m)) (hm : m ≤ 1048576) (ao : Option Addr) (cap : Nat) (w : World) (hx : Nodes w ao t) :
    Calls Tryz.prog 23 #[.slice ao m cap] w fun e w' => e = .returned (.bool (typeb t)) ∧ Below w.heap.size w w' := by
  by_cases h3 : m ≤ 300
  · have t3 : decide ((m : Int) ≤ 300) = true := decide_eq_true (by omega)
    have HV : Hid (typeb t = (decide (0 < deepOf t) && t.all Nd.plainb)) := by
      have h9 : decide (t.length ≤ 300) = true := decide_eq_true (by have := HM.out; omega)
      simp only [typeb, h9, Bool.true_and, Hid]
    go_enter Tryz.func23, Tryz.ntmps23
    go_wp2_with fail
    refine (specGood_any t m HM hm ao cap w hx).mono ?_
    rintro e w1 ⟨rfl, hb1⟩
    cases hg : decide (0 < deepOf t)
    · rw [hg] at HV
      have HW : Hid (typeb t = false) := HV.out
      clear HV hx
      go_wp2
      go_ret
      exact ⟨by rw [HW.out]; rfl, hb1⟩
    · rw [hg] at HV
      have hx1 := hx.below hb1
      go_wp2_with fail
      refine (isPlain_any t m HM hm ao cap w1 hx1).mono ?_
      rintro e w2 ⟨rfl, hb2⟩
      have hb := Below.step hb1 hb2
      have HW : Hid (typeb t = t.all Nd.plainb) := HV.out
      clear HV hx hx1 hb1 hb2
      go_wp2
      go_ret
      exact ⟨by rw [HW.out]; rfl, hb⟩
  · have t3 : decide ((m : Int) ≤ 300) = false := decide_eq_false (by omega)
    have HV : Hid (typeb t = false) := by
      have h9 : decide (t.length ≤ 300) = false := decide_eq_false (by have := HM.out; omega)
      simp only [typeb, h9, Bool.false_and, Hid]
    clear hx
    go_enter Tryz.func23, Tryz.ntmps23
    go_wp2
    go_ret
    exact ⟨by rw [HV.out]; rfl, Below.refl _ _⟩
def Longs (w : World) (B g cap : Nat) (n : Nat) (xs : List Int) : Prop := xs.length = n ∧ w.ownsRow B 2 1 (.slice (some ⟨g, 0, none⟩) n cap) n (ints xs)
theorem Tryz.infoL : (Tryz.prog.info? 2).map (fun i => (i.zero, i.size, i.bytes)) = some (some (.int .i64 0), 1, 8) := by kernel_rfl
theorem Longs.at {w : World} {B g cap n : Nat} {xs : List Int} (h : Longs w B g cap n xs) (j : Nat) (hj : j < xs.length) : w.cell? ⟨g, j, none⟩ = some (.int .i64 xs[j]) := by
  rw [owns_at h.2 j (by have := h.1; omega)]
  simp [ints, List.getElem?_eq_getElem hj]
theorem Longs.alloc {w : World} {B g cap n : Nat} {xs : List Int} (h : Longs w B g cap n xs) (o : Obj) : Longs (w.alloc o) B g cap n xs := ⟨h.1, h.2.alloc o⟩
theorem Longs.but {S : Nat → Prop} {w w' : World} {B g cap n : Nat} {xs : List Int} (h : Longs w B g cap n xs) (hb : But S w w') (hn : ¬ S g) : Longs w' B g cap n xs := ⟨h.1, owns_but h.2 hb hn⟩
theorem Longs.below {w w' : World} {B g cap n : Nat} {xs : List Int} (h : Longs w B g cap n xs) (hb : Below w.heap.size w w') : Longs w' B g cap n xs := h.but (S := fun _ => False) (But.ofBelow hb) (fun h => h)
theorem Longs.kept {w w' : World} {B g cap n k : Nat} {xs : List Int} (h : Longs w B g cap n xs) (hg : w.grownBy w' (some k)) (hne : g ≠ k) : Longs w' B g cap n xs := ⟨h.1, owns_kept h.2 hg hne⟩
theorem Longs.block {w : World} {B g cap n : Nat} {xs : List Int} (h : Longs w B g cap n xs) : B ≤ g ∧ g < w.heap.size := owns_block h.2
theorem Longs.empty {w : World} {B : Nat} (hB : B ≤ w.heap.size) : Longs (w.alloc (.cells #[] 2)) B w.heap.size 0 0 [] :=
  ⟨rfl, rfl, Or.inr ⟨_, 0, #[], rfl, hB, heap_alloc_new _ _, Nat.le_refl _, by simp [maxLen], rfl, rfl⟩⟩
theorem Longs.push {w : World} {B g cap n m : Nat} {xs : List Int} {x : Int} (h : w.ownsRow B 2 1 (.slice (some ⟨g, 0, none⟩) m cap) m (ints xs ++ [.int .i64 x])) (hn : xs.length = n) (hm : m = n + 1) : Longs w B g cap (n + 1) (xs ++ [x]) := by
  subst hm
  refine ⟨by simp [hn], ?_⟩
  simpa [ints] using h
theorem one_cell2 (w : World) (v : Value) : ∀ j u, [v][j]? = some u → (w.alloc (.cells #[v] 2)).cell? (Addr.add ⟨w.heap.size, 0, none⟩ j) = some u := by
  intro j u hj
  match j, hj with
  | 0, hj =>
    simp at hj
    subst hj
    have ad : Addr.add ⟨w.heap.size, 0, none⟩ 0 = ⟨w.heap.size, 0, none⟩ := by unfold Addr.add; simp
    rw [ad, cell_of_row _ w.heap.size 0 _ 2 (0, 0) (heap_alloc_new _ _)]
    rfl
theorem OwnN.but {S : Nat → Prop} {w w' : World} {B g c l : Nat} {zs : List Nd} (h : OwnN w B g c l zs) (hb : But S w w') (hn : ¬ S g) : OwnN w' B g c l zs := ⟨h.1, owns_but h.2 hb hn⟩
theorem OwnN.kept {w w' : World} {B g c l k : Nat} {zs : List Nd} (h : OwnN w B g c l zs) (hg : w.grownBy w' (some k)) (hne : g ≠ k) : OwnN w' B g c l zs := ⟨h.1, owns_kept h.2 hg hne⟩
theorem OwnN.one {w : World} {B : Nat} (hB : B ≤ w.heap.size) (n : Nd) : OwnN (w.alloc (.cells #[.int .i64 n.kind, .int .i64 n.num, .string n.text, .int .i64 n.kids, .int .i64 n.place] 43)) B w.heap.size 1 1 [n] :=
  ⟨rfl, rfl, Or.inr ⟨_, 1, _, rfl, hB, heap_alloc_new _ _, Nat.le_refl _, by simp [maxLen], rfl, by simp [flat, Nd.row]⟩⟩
def placeIn (met : List Int) (x : Int) : Nat := met.findIdx (· == x)
theorem placeIn_found {met : List Int} {x : Int} {j : Nat} (h : j < met.length) (he : met[j] = x) (hall : ∀ i (h : i < met.length), i < j → met[i] ≠ x) : placeIn met x = j := by
  unfold placeIn
  exact (List.findIdx_eq h).2 ⟨by simp [he], fun i hi => by simpa using hall i (by omega) hi⟩
theorem placeIn_none {met : List Int} {x : Int} (hall : ∀ i (h : i < met.length), met[i] ≠ x) : placeIn met x = met.length := by
  unfold placeIn
  refine List.findIdx_eq_length.2 ?_
  intro y hy
  obtain ⟨i, hi, rfl⟩ := List.getElem_of_mem hy
  simpa using hall i hi
def canonStep (s : List Int × List Nd) (n : Nd) : List Int × List Nd :=
  if n.kind = 61 then (if placeIn s.1 n.num = s.1.length then s.1 ++ [n.num] else s.1, s.2 ++ [{ n with num := (placeIn s.1 n.num : Int) + 1 }])
  else (s.1, s.2 ++ [n])
def canonTo (t : List Nd) (k : Nat) : List Int × List Nd := (t.take k).foldl canonStep ([], [])
def canonOf (t : List Nd) : List Nd := if typeb t then (canonTo t t.length).2 else []
theorem canonTo_succ (t : List Nd) (k : Nat) (h : k < t.length) : canonTo t (k + 1) = canonStep (canonTo t k) t[k] := by
  unfold canonTo
  rw [List.take_succ_eq_append_getElem h, List.foldl_append]
  rfl
theorem canonTo_len (t : List Nd) (k : Nat) (h : k ≤ t.length) : (canonTo t k).2.length = k ∧ (canonTo t k).1.length ≤ k := by
  induction k with
  | zero => simp [canonTo]
  | succ k ih =>
    obtain ⟨h1, h2⟩ := ih (by omega)
    rw [canonTo_succ t k (by omega)]
    unfold canonStep
    split
    · refine ⟨by simp [h1], ?_⟩
      simp only
      split
      · simp; omega
      · omega
    · exact ⟨by simp [h1], by simp only; omega⟩
theorem below_drewN (w : World) (n : Nat) : Below w.heap.size w (w.drewN n) := ⟨rfl, rfl, rfl, Nat.le_refl _, fun _ _ => rfl⟩
theorem set_push {w W : World} {g c k gm cm l z : Nat} {out : List Nd} {met : List Int} (ho : OwnN W w.heap.size g c k out) (hm : Longs W w.heap.size gm cm l met) (hb : Below w.heap.size w W) (hz : w.heap.size ≤ z) (hg : g ≠ z) (hgm : gm ≠ z) (v : Int) (tx : ByteArray) (ks pl : Int) :
    OwnN ((W.setCell ⟨z, 1, none⟩ (.int .i64 v)).alloc (.cells #[.int .i64 61, .int .i64 v, .string tx, .int .i64 ks, .int .i64 pl] 43)) w.heap.size g c k out ∧
      Longs ((W.setCell ⟨z, 1, none⟩ (.int .i64 v)).alloc (.cells #[.int .i64 61, .int .i64 v, .string tx, .int .i64 ks, .int .i64 pl] 43)) w.heap.size gm cm l met ∧
      Below w.heap.size w ((W.setCell ⟨z, 1, none⟩ (.int .i64 v)).alloc (.cells #[.int .i64 61, .int .i64 v, .string tx, .int .i64 ks, .int .i64 pl] 43)) ∧
      ∀ j u, (Nd.row ⟨61, v, tx, ks, pl⟩)[j]? = some u → ((W.setCell ⟨z, 1, none⟩ (.int .i64 v)).alloc (.cells #[.int .i64 61, .int .i64 v, .string tx, .int .i64 ks, .int .i64 pl] 43)).cell? (Addr.add ⟨W.heap.size, 0, none⟩ j) = some u := by
  have b3 : But (· = z) W (W.setCell ⟨z, 1, none⟩ (.int .i64 v)) := (But.refl (· = z) W).setCell (p := ⟨z, 1, none⟩) rfl _
  have hs : (W.setCell ⟨z, 1, none⟩ (.int .i64 v)).heap.size = W.heap.size := by simp
  have h1 := (ho.but b3 hg).alloc (.cells #[.int .i64 61, .int .i64 v, .string tx, .int .i64 ks, .int .i64 pl] 43)
  have h2 := (hm.but b3 hgm).alloc (.cells #[.int .i64 61, .int .i64 v, .string tx, .int .i64 ks, .int .i64 pl] 43)
  have h3 : Below w.heap.size w (W.setCell ⟨z, 1, none⟩ (.int .i64 v)) := hb.trans (b3.below hb.size (fun k hk => by omega))
  have h4 := nd_new_cells (W.setCell ⟨z, 1, none⟩ (.int .i64 v)) ⟨61, v, tx, ks, pl⟩
  rw [hs] at h4
  exact ⟨h1, h2, h3.alloc h3.size _, h4⟩
set_option maxRecDepth 100000 in
set_option maxHeartbeats 1000000 in
theorem specCanon_any (t : List Nd) (m : Nat) (HM : Hid (t.length = m)) (hm : m ≤ 1048576) (ao : Option Addr) (cap : Nat) (w : World) (hx : Nodes w ao t) :
    Calls Tryz.prog 16 #[.slice ao m cap] w fun e w' => ∃ g c l, e = .returned (.slice (some ⟨g, 0, none⟩) l c) ∧ w.heap.size ≤ g ∧ (canonOf t).length = l ∧ Row w' g (canonOf t) ∧ Below w.heap.size w w' := by
  obtain ⟨i0, hi, hz0, hz1, hz2⟩ := info_parts Tryz.infoN
  obtain ⟨i1, hj1, hy0, hy1, hy2⟩ := info_parts Tryz.infoL
  go_enter Tryz.func16, Tryz.ntmps16
  have hA : Below w.heap.size w (w.alloc (.cells #[] 43)) := (Below.refl _ w).alloc (Nat.le_refl _) _
  have hO := OwnN.empty (w := w) (B := w.heap.size) (Nat.le_refl _)
  go_wp2_with fail
  refine (isType_any t m HM hm ao cap _ (hx.below hA)).mono ?_
  rintro e w1 ⟨rfl, hb1⟩
  have hO1 := hO.below hb1
  have hb := Below.step hA hb1
  have hx1 := hx.below hb
  clear hO hA hb1
  cases ht : typeb t
  · have HV : Hid (canonOf t = []) := by simp only [canonOf, ht, Hid]; rfl
    clear hx1 hx
    obtain ⟨hg, hr⟩ := hO1.row
    clear hO1
    go_wp2
    go_ret
    exact ⟨_, _, _, rfl, hg, by rw [HV.out]; rfl, by rw [HV.out]; exact hr, hb⟩
  · have HV : Hid (canonOf t = (canonTo t m).2) := by simp only [canonOf, ht, Hid, if_true, HM.out]
    have h3 : m ≤ 300 := by
      have h9 := ht
      simp only [typeb, Bool.and_eq_true, decide_eq_true_eq] at h9
      have := HM.out
      omega
    clear ht
    have hL0 := Longs.empty (w := w1) (B := w.heap.size) hb.size
    have hO2 := hO1.alloc (.cells #[] 2)
    have hb2 := hb.alloc hb.size (.cells #[] 2)
    have hsw : w.heap.size < w1.heap.size := (owns_block hO1.2).2
    go_wp2
    go_loopw [3, 4, 5] (fun vo vm p wr => ∃ (k g c gm cm l : Nat), k ≤ m ∧ p = .int .i64 k ∧ vo = .slice (some ⟨g, 0, none⟩) k c ∧ vm = .slice (some ⟨gm, 0, none⟩) l cm ∧ OwnN wr w.heap.size g c k (canonTo t k).2 ∧ Longs wr w.heap.size gm cm l (canonTo t k).1 ∧ g ≠ gm ∧ Below w.heap.size w wr) (fun _ _ p _ => m - (intOf p).toNat)
    case atStart => exact ⟨0, w.heap.size, 0, w1.heap.size, 0, 0, Nat.zero_le _, rfl, rfl, rfl, hO2, hL0, by omega, hb2⟩
    case round =>
      clear hO1 hO2 hL0 hb2 hx1 hb hsw
      obtain ⟨k, g, c, gm, cm, l, hk, rfl, rfl, rfl, hown, hmet, hne, hbr⟩ := hrel
      by_cases hlt : k < m
      · have hltx : k < t.length := by have := HM.out; omega
        obtain ⟨⟨kd, nm, tx, ks, pl⟩, hxk⟩ : ∃ x, t[k] = x := ⟨_, rfl⟩
        obtain ⟨b, o, rfl, hcx⟩ := hx.below hbr k hltx
        rw [hxk] at hcx
        obtain ⟨c0, c1, c2, c3, c4⟩ := hcx
        simp only at c0 c1 c2 c3 c4
        have hlb : b < wr.heap.size := lt_of_cell c0
        have hob := owns_block hown.2
        have hmb := hmet.block
        have HS : Hid (canonTo t (k + 1) = canonStep (canonTo t k) ⟨kd, nm, tx, ks, pl⟩) := by
          show canonTo t (k + 1) = _
          rw [canonTo_succ t k hltx, hxk]
        obtain ⟨⟨met, out⟩, hst⟩ : ∃ s, canonTo t k = s := ⟨_, rfl⟩
        rw [hst] at hown hmet HS
        simp only at hown hmet
        have hll : l ≤ k := by
          have h9 := (canonTo_len t k (by omega)).2
          rw [hst] at h9
          have := hmet.1
          simp only at h9
          omega
        clear hx hxk hst
        by_cases h61 : kd = 61
        · subst h61
          have hbox := OwnN.one (w := wr) (B := w.heap.size) hbr.size ⟨61, nm, tx, ks, pl⟩
          have hbr0 := hbr.alloc hbr.size (.cells #[.int .i64 61, .int .i64 nm, .string tx, .int .i64 ks, .int .i64 pl] 43)
          have hown0 := hown.alloc (.cells #[.int .i64 61, .int .i64 nm, .string tx, .int .i64 ks, .int .i64 pl] 43)
          have hmet0 := hmet.alloc (.cells #[.int .i64 61, .int .i64 nm, .string tx, .int .i64 ks, .int .i64 pl] 43)
          clear hown hmet
          go_wp2
          obtain ⟨W0, hW0⟩ : ∃ W0, (wr.alloc (.cells #[.int .i64 61, .int .i64 nm, .string tx, .int .i64 ks, .int .i64 pl] 43)) = W0 := ⟨_, rfl⟩
          have hs0 : W0.heap.size = wr.heap.size + 1 := by rw [← hW0]; simp
          rw [hW0] at hbox hbr0 hown0 hmet0 ⊢
          obtain ⟨z, hz⟩ : ∃ z, wr.heap.size = z := ⟨_, rfl⟩
          rw [hz] at hbox hs0 hlb hob hmb ⊢
          clear hW0 hbr hz c0 c1 c2 c3 c4
          go_loopw [7] (fun i wq => ∃ (j : Nat), j ≤ l ∧ i = .int .i64 j ∧ (∀ i (h : i < met.length), i < j → met[i] ≠ nm) ∧ Below W0.heap.size W0 wq) (fun i _ => l - (intOf i).toNat)
          case atStart => exact ⟨0, Nat.zero_le _, rfl, fun i _ h => absurd h (by omega), Below.refl _ _⟩
          case round =>
            obtain ⟨j, hj, rfl, hall, hq⟩ := hrel
            have hbox1 := hbox.below hq
            have hown1 := hown0.below hq
            have hmet1 := hmet0.below hq
            have hbq := Below.step hbr0 hq
            have hzq : z + 1 ≤ wr.heap.size := by have := hq.size; omega
            have hbx := hbox1.row.2
            have hbn := hbx.node 0 (by simp)
            obtain ⟨d0, d1, d2, d3, d4⟩ := hbn
            simp only [List.getElem_cons_zero, Nat.zero_mul, Nat.zero_add] at d0 d1 d2 d3 d4
            clear hbox hown0 hmet0
            by_cases hjl : j < l
            · have hjm : j < met.length := by have := hmet1.1; omega
              have cm1 := hmet1.at j hjm
              by_cases hee : met[j] = nm
              · have tne : (met[j] != nm) = false := by simpa using hee
                have HP : Hid (placeIn met nm = j) := placeIn_found hjm hee hall
                have HT : Hid (canonTo t (k + 1) = (met, out ++ [⟨61, (j : Int) + 1, tx, ks, pl⟩])) := by
                  show canonTo t (k + 1) = _
                  rw [HS.out]
                  have h9 : ¬ j = met.length := by omega
                  simp [canonStep, HP.out, h9]
                have tjl : ((j : Int) == (l : Int)) = false := by simp; omega
                rw [hee] at cm1 tne
                have tnn : (nm != nm) = false := tne
                clear hall hee tne
                go_wp2_with fail
                go_quiet (fail)
                have hdr := below_drewN wr nq
                have hown2 := hown1.below hdr
                have hmet2 := hmet1.below hdr
                have hbq2 := Below.step hbq hdr
                have hsz2 : z + 1 ≤ (wr.drewN nq).heap.size := hzq
                replace hbx := hbx.below hdr
                clear hdr hown1 hmet1 hbox1 d0 d1 d2 d3 d4 cm1 hq hbq
                obtain ⟨d0, d1, d2, d3, d4⟩ := hbx.node 0 (by simp)
                simp only [List.getElem_cons_zero, Nat.zero_mul, Nat.zero_add] at d0 d1 d2 d3 d4
                generalize wr.drewN nq = W2 at *
                obtain ⟨hown3, hmet3, hb3, hcells⟩ := set_push hown2 hmet2 hbq2 (z := z) (by omega) (by omega) (by omega) ((j : Int) + 1) tx ks pl
                have hfz := hbx.frozen 1
                have hsq := hbq2.size
                clear hbx hown2 hmet2 
                go_wp2_with (at_builtin; refine wpList_append2 _ rfl (.tmp 54) (.tmp 56) 23 rfl w.heap.size 43 i0 _ 5 48 Tryz.underlying23 hi hz0 hz1 hz2 rfl (by decide) g k c _ rfl hown3.2 ⟨_, 0, none⟩ 1 1 (Nd.row ⟨61, (j : Int) + 1, tx, ks, pl⟩) rfl rfl hcells (nd_row_one _) ?a3 ?a4 ?a5 ?_)
                case a3 => unfold maxLen; omega
                case a4 => omega
                case a5 => simp; omega
                intro g2 c2' w2 hown4 hgrow2 hwh
                have hO := OwnN.push hown4 hown3.1 rfl
                have hbb : Below w.heap.size w w2 := hb3.grown hgrow2 (by simp; omega) (fun q hq => by cases hq; exact hob.1)
                have hM := hmet3.kept hgrow2 (by omega)
                have hne2 : g2 ≠ gm := by rcases hwh with h | h <;> (try simp at h) <;> omega
                clear hown4 hgrow2 hwh hown3 hmet3 hb3 d0 d1 d2 d3 d4 hcells
                go_wp2
                go_roundw
                case rel => exact ⟨k + 1, g2, c2', gm, cm, l, by omega, by go_num, rfl, rfl, by rw [HT.out]; exact hO, by rw [HT.out]; exact hM, hne2, hbb⟩
                case measure => simp [intOf]; omega
              · have tne : (met[j] != nm) = true := by simpa using hee
                obtain ⟨v, hv⟩ : ∃ v, met[j] = v := ⟨_, rfl⟩
                have HA : Hid (∀ i (h : i < met.length), i < j + 1 → met[i] ≠ nm) := by
                  intro i h hi
                  by_cases e : i = j
                  · subst e; exact hee
                  · exact hall i h (by omega)
                rw [hv] at cm1 tne
                clear hall hee hv
                go_wp2_with fail
                go_quiet (fail)
                go_wp2
                go_roundw
                case rel => exact ⟨j + 1, by omega, by go_num, HA.out, Below.step hq (below_drewN _ _)⟩
                case measure => simp [intOf]; omega
            · have HJ : Hid (j = l) := by show j = l; omega
              have HP : Hid (placeIn met nm = j) := by
                show placeIn met nm = j
                rw [placeIn_none (fun i h => hall i h (by have := hmet1.1; omega)), hmet1.1, HJ.out]
              have HT : Hid (canonTo t (k + 1) = (met ++ [nm], out ++ [⟨61, (j : Int) + 1, tx, ks, pl⟩])) := by
                show canonTo t (k + 1) = _
                rw [HS.out]
                have h9 : j = met.length := by have := hmet1.1; have := HJ.out; omega
                simp [canonStep, HP.out, h9]
              have tjl : ((j : Int) == (l : Int)) = true := by have := HJ.out; simp; omega
              have tlt : decide ((j : Int) < (l : Int)) = false := by have := HJ.out; simp; omega
              clear hall
              go_wp2_with fail
              go_quiet (fail)
              have hdr := below_drewN wr nq
              have hown2 := hown1.below hdr
              have hmet2 := hmet1.below hdr
              have hbox2 := hbox1.below hdr
              have hbq2 := Below.step hbq hdr
              have hsz2 : z + 1 ≤ (wr.drewN nq).heap.size := hzq
              replace hbx := hbx.below hdr
              clear hdr hown1 hmet1 hbox1 d0 d1 d2 d3 d4 hq hbq
              obtain ⟨d0, d1, d2, d3, d4⟩ := hbx.node 0 (by simp)
              simp only [List.getElem_cons_zero, Nat.zero_mul, Nat.zero_add] at d0 d1 d2 d3 d4
              generalize wr.drewN nq = W2 at *
              have hone := one_cell2 W2 (.int .i64 nm)
              have hsq2 := hbq2.size
              go_wp2_with (at_builtin; refine wpList_append2 _ rfl (.tmp 46) (.tmp 49) 75 rfl w.heap.size 2 i1 _ 1 8 Tryz.underlying75 hj1 hy0 hy1 hy2 rfl (by decide) gm l cm _ rfl (hmet2.alloc _).2 ⟨_, 0, none⟩ 1 1 [.int .i64 nm] rfl rfl hone (one_one _) ?b3 ?b4 ?b5 ?_)
              case b3 => unfold maxLen; omega
              case b4 => omega
              case b5 => simp; omega
              intro gm2 cm2 w5 hm5 hgrow5 hwh5
              have hmet5 := Longs.push hm5 hmet2.1 rfl
              have hown5 := (hown2.alloc _).kept hgrow5 hne
              have hbox5 := (hbox2.alloc _).kept hgrow5 (by omega)
              have hbq5 : Below w.heap.size w w5 := (hbq2.alloc hbq2.size _).grown hgrow5 (by simp; omega) (fun q hq => by cases hq; exact hmb.1)
              have hgb5 := hmet5.block
              have hzb5 := owns_block hbox5.2
              have hob5 := owns_block hown5.2
              have hne5 : gm2 ≠ z := by rcases hwh5 with h | h <;> (try simp at h) <;> omega
              have hne6 : gm2 ≠ g := by rcases hwh5 with h | h <;> (try simp at h) <;> omega
              replace hbx := hbox5.row.2
              clear hm5 hgrow5 hwh5 hown2 hmet2 hbox2 d0 d1 d2 d3 d4 hbq2 hone hbox5
              obtain ⟨d0, d1, d2, d3, d4⟩ := hbx.node 0 (by simp)
              simp only [List.getElem_cons_zero, Nat.zero_mul, Nat.zero_add] at d0 d1 d2 d3 d4
              obtain ⟨hown3, hmet3, hb3, hcells⟩ := set_push hown5 hmet5 hbq5 (z := z) (by omega) (by omega) (by omega) ((j : Int) + 1) tx ks pl
              have hfz := hbx.frozen 1
              have hsq := hbq5.size
              clear hbx hown5 hmet5 
              go_wp2_with (at_builtin; refine wpList_append2 _ rfl (.tmp 54) (.tmp 56) 23 rfl w.heap.size 43 i0 _ 5 48 Tryz.underlying23 hi hz0 hz1 hz2 rfl (by decide) g k c _ rfl hown3.2 ⟨_, 0, none⟩ 1 1 (Nd.row ⟨61, (j : Int) + 1, tx, ks, pl⟩) rfl rfl hcells (nd_row_one _) ?a3 ?a4 ?a5 ?_)
              case a3 => unfold maxLen; omega
              case a4 => omega
              case a5 => simp; omega
              intro g2 c2' w2 hown4 hgrow2 hwh
              have hO := OwnN.push hown4 hown3.1 rfl
              have hbb : Below w.heap.size w w2 := hb3.grown hgrow2 (by simp; omega) (fun q hq => by cases hq; exact hob.1)
              have hM := hmet3.kept hgrow2 (by omega)
              have hne2 : g2 ≠ gm2 := by rcases hwh with h | h <;> (try simp at h) <;> omega
              clear hown4 hgrow2 hwh hown3 hmet3 hb3 d0 d1 d2 d3 d4 hcells
              go_wp2
              go_roundw
              case rel => exact ⟨k + 1, g2, c2', gm2, cm2, (l + 1), by omega, by go_num, rfl, rfl, by rw [HT.out]; exact hO, by rw [HT.out]; exact hM, hne2, hbb⟩
              case measure => simp [intOf]; omega
        · have t61 : ((kd : Int) == 61) = false := by simpa using h61
          have HT : Hid (canonTo t (k + 1) = (met, out ++ [⟨kd, nm, tx, ks, pl⟩])) := by
            show canonTo t (k + 1) = _
            rw [HS.out]
            simp [canonStep, h61]
          clear h61
          have hcells := nd_new_cells (wr.alloc (.cells #[.int .i64 kd, .int .i64 nm, .string tx, .int .i64 ks, .int .i64 pl] 43)) ⟨kd, nm, tx, ks, pl⟩
          rw [World.size_alloc] at hcells
          go_wp2_with (at_builtin; refine wpList_append2 _ rfl (.tmp 54) (.tmp 56) 23 rfl w.heap.size 43 i0 _ 5 48 Tryz.underlying23 hi hz0 hz1 hz2 rfl (by decide) g k c _ rfl ((hown.alloc _).alloc _).2 ⟨_, 0, none⟩ 1 1 (Nd.row ⟨kd, nm, tx, ks, pl⟩) rfl rfl hcells (nd_row_one _) ?a3 ?a4 ?a5 ?_)
          case a3 => unfold maxLen; omega
          case a4 => omega
          case a5 => have := hbr.size; simp; omega
          intro g2 c2' w2 hown2 hgrow2 hwh
          have hO := OwnN.push hown2 hown.1 rfl
          have hbb : Below w.heap.size w w2 := ((hbr.alloc hbr.size _).alloc (by have := hbr.size; simp; omega) _).grown hgrow2 (by have := hbr.size; simp; omega) (fun q hq => by cases hq; exact hob.1)
          have hM := ((hmet.alloc _).alloc _).kept hgrow2 (Ne.symm hne)
          have hne2 : g2 ≠ gm := by rcases hwh with h | h <;> (try simp at h) <;> omega
          clear hown2 hgrow2 hwh hown hmet hbr c0 c1 c2 c3 c4
          go_wp2
          go_roundw
          case rel => exact ⟨k + 1, g2, c2', gm, cm, l, by omega, by go_num, rfl, rfl, by rw [HT.out]; exact hO, by rw [HT.out]; exact hM, hne2, hbb⟩
          case measure => simp [intOf]; omega
      · have hke : k = m := by omega
        subst hke
        obtain ⟨hg, hr⟩ := hown.row
        have HL : Hid ((canonTo t k).2.length = k) := hown.1
        clear hown hmet hx
        go_wp2
        go_ret
        exact ⟨_, _, _, rfl, hg, by rw [HV.out]; exact HL.out, by rw [HV.out]; exact hr, hbr⟩
end Go.Proofs.YtoiiibplkhedcaaGreatDoor

namespace Go.Proofs.YtoiiibplkhedcaaGreatDoor
open Go.RowKit
end Go.Proofs.YtoiiibplkhedcaaGreatDoor

namespace Go.Proofs.YtoiiibplkhedcaaGreatDoor
open Go.RowKit
def kidsIn (t : List Nd) (K : List Sp) : List (List Nd) := K.map fun s => span t s.fr s.rt
end Go.Proofs.YtoiiibplkhedcaaGreatDoor

namespace Go.Proofs.YtoiiibplkhedcaaGreatDoor
def sh (a : Nat) (s : Sp) : Sp := ⟨s.fr + a, s.rt + a, s.dp⟩
theorem dpOf_sh (a : Nat) (K : List Sp) : dpOf (K.map (sh a)) = dpOf K := by
  unfold dpOf
  rw [List.foldl_map]
  rfl
theorem over_sh (a i : Nat) (K : List Sp) : over (K.map (sh a)) (i + a) = sh a (over K i) := by
  unfold over
  rw [dpOf_sh]
  cases K <;> simp [sh, frOf]
theorem step_front {S S' A : List Sp} {s : Sp} {i a : Nat} {n : Int} (h : step S i n = some (S', s)) : step (A ++ S.map (sh a)) (i + a) n = some (A ++ S'.map (sh a), sh a s) := by
  obtain ⟨h0, h1, h2, h3⟩ := step_some h
  rw [step_of h0 (by simp; omega)]
  have e1 : (A ++ S.map (sh a)).length - n.toNat = A.length + (S.length - n.toNat) := by simp; omega
  rw [e1]
  have e2 : (A ++ S.map (sh a)).take (A.length + (S.length - n.toNat)) = A ++ (S.take (S.length - n.toNat)).map (sh a) := by
    rw [List.take_append, List.take_of_length_le (by omega), List.map_take]
    congr 2
    omega
  have e3 : (A ++ S.map (sh a)).drop (A.length + (S.length - n.toNat)) = (S.drop (S.length - n.toNat)).map (sh a) := by
    rw [List.drop_append, List.drop_of_length_le (by omega), List.map_drop, List.nil_append]
    congr 1
    omega
  rw [e2, e3, over_sh, ← h3, h2]
  simp
theorem after_front {a b : List Nd} : ∀ {k : Nat}, k ≤ a.length → after (a ++ b) k = after a k := by
  intro k
  induction k with
  | zero => intro _; rfl
  | succ k ih =>
    intro hk
    simp only [after, ih (by omega)]
    rw [List.getElem?_append_left (by omega)]
theorem after_append {a b : List Nd} {A ya : List Sp} (ha : after a a.length = some (A, ya)) :
    ∀ {k : Nat} {S ys : List Sp}, after b k = some (S, ys) → after (a ++ b) (a.length + k) = some (A ++ S.map (sh a.length), ya ++ ys.map (sh a.length)) := by
  intro k
  induction k with
  | zero =>
    intro S ys h
    simp only [after, Option.some.injEq, Prod.mk.injEq] at h
    obtain ⟨rfl, rfl⟩ := h
    rw [Nat.add_zero, after_front (Nat.le_refl _), ha]
    simp
  | succ k ih =>
    intro S' ys' h
    obtain ⟨S, ys, s, hk, hb, hs, rfl⟩ := after_inv h
    have h1 := ih hb
    have h2 := step_front (A := A) (a := a.length) hs
    have hlt : a.length + k < (a ++ b).length := by simp; omega
    have hg : (a ++ b)[a.length + k] = b[k] := by rw [List.getElem_append_right (by omega)]; simp
    rw [← Nat.add_assoc, after_succ h1 hlt (S' := A ++ S'.map (sh a.length)) (s := sh a.length s) (by rw [hg, Nat.add_comm]; exact h2)]
    simp
def Con : Nat → Nat → List Sp → Prop
  | f, e, [] => f = e
  | f, e, d :: D => d.fr = f ∧ d.fr ≤ d.rt ∧ Con (d.rt + 1) e D
theorem Con.le : ∀ {D : List Sp} {f e : Nat}, Con f e D → f ≤ e := by
  intro D
  induction D with
  | nil => intro f e h; exact Nat.le_of_eq h
  | cons d D ih =>
    intro f e h
    obtain ⟨h1, h2, h3⟩ := h
    have := ih h3
    omega
theorem Con.ge : ∀ {D : List Sp} {f e : Nat}, Con f e D → ∀ x ∈ D, f ≤ x.fr ∧ x.fr ≤ x.rt ∧ x.rt < e := by
  intro D
  induction D with
  | nil => intro f e h x hx; simp at hx
  | cons d D ih =>
    intro f e h x hx
    obtain ⟨h1, h2, h3⟩ := h
    rcases List.mem_cons.1 hx with rfl | hx
    · have := h3.le; omega
    · have := ih h3 x hx; omega
theorem kids_con {t : List Nd} {ys K : List Sp} {i : Nat} (h : KidsAt t ys i K) : Con (frOf K i) i K := by
  have key : ∀ n r, r + n = K.length → Con (if h : r < K.length then K[r].fr else i) i (K.drop r) := by
    intro n
    induction n with
    | zero =>
      intro r hr
      rw [dif_neg (by omega), List.drop_of_length_le (by omega)]
      rfl
    | succ n ih =>
      intro r hr
      have hlt : r < K.length := by omega
      rw [dif_pos hlt, List.drop_eq_getElem_cons hlt]
      refine ⟨rfl, (h.mem r hlt).2.1, ?_⟩
      have h2 := ih (r + 1) (by omega)
      by_cases hl : r + 1 < K.length
      · rw [dif_pos hl] at h2
        have h3 := h.next (r + 1) (by omega) hl
        simp only [Nat.add_sub_cancel] at h3
        rw [h3]
        exact h2
      · rw [dif_neg hl] at h2
        have h3 := h.last (by omega)
        have e : K.length - 1 = r := by omega
        simp only [e] at h3
        rw [h3]
        exact h2
  have h1 := key K.length 0 (by omega)
  rw [List.drop_zero] at h1
  cases K with
  | nil => exact h1
  | cons d D => exact h1
theorem con_flat {t : List Nd} : ∀ {D : List Sp} {f e : Nat}, Con f e D → e ≤ t.length → (kidsIn t D).flatten = (t.take e).drop f := by
  intro D
  induction D with
  | nil => intro f e h he; cases h; simp [kidsIn]
  | cons d D ih =>
    intro f e h he
    obtain ⟨h1, h2, h3⟩ := h
    have h4 := ih h3 he
    have h5 := h3.le
    have e1 : kidsIn t (d :: D) = span t d.fr d.rt :: kidsIn t D := rfl
    rw [e1, List.flatten_cons, h4]
    unfold span
    subst h1
    have e2 : (t.take e).drop d.fr = (((t.take e).take (d.rt + 1)).drop d.fr) ++ (t.take e).drop (d.rt + 1) := by
      conv => lhs; rw [← List.take_append_drop (d.rt + 1) (t.take e)]
      rw [List.drop_append_of_le_length (by simp; omega)]
    rw [e2, List.take_take, Nat.min_eq_left h5]
theorem con_run {t : List Nd} : ∀ {D : List Sp} {f e : Nat}, Con f e D → e ≤ t.length → (∀ x ∈ D, ∃ ys', after (span t x.fr x.rt) (x.rt + 1 - x.fr) = some ([⟨0, x.rt - x.fr, x.dp⟩], ys')) →
    ∃ ys', after (kidsIn t D).flatten (e - f) = some (D.map (fun x => ⟨x.fr - f, x.rt - f, x.dp⟩), ys') := by
  intro D
  induction D with
  | nil => intro f e h he _; cases h; exact ⟨[], by simp [kidsIn, after]⟩
  | cons d D ih =>
    intro f e h he hx
    obtain ⟨h1, h2, h3⟩ := h
    obtain ⟨y1, r1⟩ := hx d (by simp)
    obtain ⟨y2, r2⟩ := ih h3 he (fun x hxx => hx x (List.mem_cons_of_mem _ hxx))
    have h5 := h3.le
    have hl : (span t d.fr d.rt).length = d.rt + 1 - d.fr := span_length t d.fr d.rt (by omega)
    have e1 : kidsIn t (d :: D) = span t d.fr d.rt :: kidsIn t D := rfl
    rw [← hl] at r1
    have r3 := after_append r1 r2
    rw [e1, List.flatten_cons]
    have e2 : (span t d.fr d.rt).length + (e - (d.rt + 1)) = e - f := by omega
    rw [e2] at r3
    refine ⟨y1 ++ y2.map (sh (span t d.fr d.rt).length), r3.trans ?_⟩
    congr 2
    simp only [List.map_cons, List.map_map, List.singleton_append, List.cons.injEq, Sp.mk.injEq, and_true]
    refine ⟨⟨by omega, by omega⟩, ?_⟩
    apply List.map_congr_left
    intro x hxx
    have := h3.ge x hxx
    simp only [Function.comp, sh, Sp.mk.injEq, and_true]
    omega
theorem kids_at2 {t : List Nd} {S ys : List Sp} {n : Nat} (h : after t n = some (S, ys)) (i : Nat) (hi : i < n) : ∃ K, KidsAt t ys i K ∧ ys[i]? = some (over K i) := by
  obtain ⟨Si, hSi⟩ := after_part h i (by omega)
  obtain ⟨Sj, hSj⟩ := after_part h (i + 1) (by omega)
  obtain ⟨S0, ys0, s, hk, ha, hs, he⟩ := after_inv hSj
  rw [hSi] at ha
  simp only [Option.some.injEq, Prod.mk.injEq] at ha
  obtain ⟨rfl, rfl⟩ := ha
  have hf := after_fine hSi
  have hfn := (after_fine h).len
  obtain ⟨h0, h1, _, hov⟩ := step_some hs
  obtain ⟨f, hf'⟩ : ∃ f, f = Si.length - t[i].kids.toNat := ⟨_, rfl⟩
  rw [← hf'] at hov
  have hlen : (Si.drop f).length = t[i].kids.toNat := by simp; omega
  have hget : ∀ r (h : r < (Si.drop f).length), (Si.drop f)[r] = Si[f + r]'(by simp at h; omega) := fun r h => List.getElem_drop
  have hyi : ys[i]? = some s := by
    have h5 : (ys.take (i + 1))[i]? = some s := by
      rw [he, List.getElem?_append_right (by simp; omega)]
      have h9 : i - (ys.take i).length = 0 := by simp; omega
      rw [h9]
      rfl
    rw [List.getElem?_take, if_pos (by omega)] at h5
    exact h5
  refine ⟨Si.drop f, ⟨⟨hk, by rw [hlen]; omega⟩, ?_, ?_, ?_, ?_, by have := chain_len hf.chain; simp; omega⟩, by rw [hyi, hov]⟩
  · intro hp
    have h2 := (hf.chain.2.2.1 (by simp at hp; omega)).2
    rw [hget]
    have e : f + ((Si.drop f).length - 1) = Si.length - 1 := by simp at hp ⊢; omega
    simp only [e]
    exact h2
  · intro r hr hr'
    rw [hget, hget]
    have h2 := hf.chain.2.1 (f + (r - 1)) (by simp at hr'; omega)
    have e : f + (r - 1) + 1 = f + r := by omega
    simp only [e] at h2
    exact h2
  · intro r hr
    rw [hget]
    have hlt : f + r < Si.length := by simp at hr; omega
    have h2 := hf.mem (f + r) hlt
    have h3 := hf.chain.1 (f + r) hlt
    have h4 := (List.getElem?_eq_some_iff.1 h2).1
    refine ⟨?_, h3.1, h3.2⟩
    rw [List.getElem?_take] at h2
    rw [if_pos (by simp at h4; omega)] at h2
    exact h2
  · refine ⟨by omega, ?_⟩
    obtain ⟨_, h6⟩ := List.getElem?_eq_some_iff.1 hyi
    rw [h6, hov]
    rfl
theorem span_snoc (t : List Nd) (f i : Nat) (hi : i < t.length) (hf : f ≤ i) : span t f i = (t.take i).drop f ++ [t[i]] := by
  unfold span
  rw [List.take_succ_eq_append_getElem hi, List.drop_append_of_le_length (by simp; omega)]
theorem sub_run {t : List Nd} {S ys : List Sp} {n : Nat} (h : after t n = some (S, ys)) :
    ∀ i, i < n → ∀ s, ys[i]? = some s → ∃ ys', after (span t s.fr i) (i + 1 - s.fr) = some ([⟨0, i - s.fr, s.dp⟩], ys') := by
  intro i
  induction i using Nat.strongRecOn with
  | ind i ih =>
    intro hi s hs
    obtain ⟨K, hK, ho⟩ := kids_at2 h i hi
    rw [ho] at hs
    simp only [Option.some.injEq] at hs
    subst hs
    have hle := after_le h
    have hc := kids_con hK
    have hfi : frOf K i ≤ i := hc.le
    obtain ⟨y1, r1⟩ := con_run (t := t) hc (by omega) (fun x hx => by
      obtain ⟨r, hr, rfl⟩ := List.getElem_of_mem hx
      have hm := hK.mem r hr
      exact ih K[r].rt hm.2.2 (by omega) K[r] hm.1)
    have hfl := con_flat (t := t) hc (by omega)
    show ∃ ys', after (span t (frOf K i) i) (i + 1 - frOf K i) = some ([⟨0, i - frOf K i, dpOf K⟩], ys')
    rw [span_snoc t (frOf K i) i (by omega) hfi, ← hfl]
    obtain ⟨L, hL⟩ : ∃ L, (kidsIn t K).flatten = L := ⟨_, rfl⟩
    have hLl : L.length = i - frOf K i := by rw [← hL, hfl]; simp; omega
    rw [hL] at r1 ⊢
    have e1 : i + 1 - frOf K i = (i - frOf K i) + 1 := by omega
    have r2 : after (L ++ [t[i]'(by omega)]) (i - frOf K i) = some (K.map (fun x => ⟨x.fr - frOf K i, x.rt - frOf K i, x.dp⟩), y1) := by rw [after_front (a := L) (by omega)]; exact r1
    have hst : step (K.map (fun x => (⟨x.fr - frOf K i, x.rt - frOf K i, x.dp⟩ : Sp))) (i - frOf K i) (t[i]'(by omega)).kids = some ([⟨0, i - frOf K i, dpOf K⟩], ⟨0, i - frOf K i, dpOf K⟩) := by
      obtain ⟨_, hn⟩ := hK.num
      rw [hn, step_of (by omega) (by simp)]
      have hov : over (K.map (fun x => (⟨x.fr - frOf K i, x.rt - frOf K i, x.dp⟩ : Sp))) (i - frOf K i) = ⟨0, i - frOf K i, dpOf K⟩ := by
        unfold over
        have hd : dpOf (K.map (fun x => (⟨x.fr - frOf K i, x.rt - frOf K i, x.dp⟩ : Sp))) = dpOf K := by
          unfold dpOf
          rw [List.foldl_map]
        rw [hd]
        cases K with
        | nil => simp [frOf]
        | cons d D => simp [frOf]
      simp [hov]
    rw [e1]
    refine ⟨_, after_succ r2 (by simp; omega) (S' := [⟨0, i - frOf K i, dpOf K⟩]) (s := ⟨0, i - frOf K i, dpOf K⟩) ?_⟩
    rw [← hst]
    congr 1
    rw [List.getElem_append_right (by omega)]
    simp
end Go.Proofs.YtoiiibplkhedcaaGreatDoor

namespace Go.Proofs.YtoiiibplkhedcaaGreatDoor
def One (a : List Nd) : Prop := ∃ s ys, after a a.length = some ([s], ys)
def wt (a : List Nd) : Int := (a.map fun n => 1 - n.kids).sum
theorem wt_append (a b : List Nd) : wt (a ++ b) = wt a + wt b := by simp [wt]
theorem after_wt {a : List Nd} : ∀ {k : Nat} {S ys : List Sp}, after a k = some (S, ys) → (S.length : Int) = wt (a.take k) := by
  intro k
  induction k with
  | zero => intro S ys h; simp only [after, Option.some.injEq, Prod.mk.injEq] at h; obtain ⟨rfl, rfl⟩ := h; rfl
  | succ k ih =>
    intro S' ys' h
    obtain ⟨S, ys, s, hk, ha, hs, rfl⟩ := after_inv h
    obtain ⟨h0, h1, rfl, _⟩ := step_some hs
    have h2 := ih ha
    rw [List.take_succ_eq_append_getElem hk, wt_append, ← h2]
    simp [wt]
    omega
theorem One.ne {a : List Nd} (h : One a) : a ≠ [] := by
  obtain ⟨s, ys, h⟩ := h
  intro e
  subst e
  simp [after] at h
theorem One.wt {a : List Nd} (h : One a) : wt a = 1 := by
  obtain ⟨s, ys, h⟩ := h
  have h1 := after_wt h
  rw [List.take_of_length_le (Nat.le_refl _)] at h1
  rw [← h1]; rfl
theorem One.tail {a : List Nd} (h : One a) (k : Nat) (h0 : 0 < k) (hk : k ≤ a.length) : YtoiiibplkhedcaaGreatDoor.wt (a.drop k) ≤ 0 := by
  have hw := h.wt
  obtain ⟨s, ys, h⟩ := h
  obtain ⟨S, hS⟩ := after_part h k hk
  have h1 := after_wt hS
  have h2 := (after_fine hS).chain.2.2.2
  have h3 : YtoiiibplkhedcaaGreatDoor.wt a = YtoiiibplkhedcaaGreatDoor.wt (a.take k) + YtoiiibplkhedcaaGreatDoor.wt (a.drop k) := by rw [← wt_append, List.take_append_drop]
  have h4 : S.length ≠ 0 := fun e => by have := h2 e; omega
  omega
theorem One.suffix {a b X Y : List Nd} (ha : One a) (hb : One b) (h : X ++ a = Y ++ b) : X = Y ∧ a = b := by
  have key : ∀ {a b X Y : List Nd}, One a → One b → X ++ a = Y ++ b → a.length ≤ b.length → a.length = b.length := by
    intro a b X Y ha hb h hl
    rcases Nat.lt_or_ge a.length b.length with hlt | hge
    · exfalso
      have hla : 0 < a.length := List.length_pos_iff.2 ha.ne
      have e : a = b.drop (b.length - a.length) := by
        have h1 : (X ++ a).drop X.length = (Y ++ b).drop X.length := by rw [h]
        have h2 := congrArg List.length h
        simp only [List.length_append] at h2
        rw [List.drop_left, List.drop_append, List.drop_of_length_le (by omega), List.nil_append] at h1
        have e3 : X.length - Y.length = b.length - a.length := by omega
        rw [e3] at h1
        exact h1
      have h3 := hb.tail (b.length - a.length) (by omega) (by omega)
      rw [← e, ha.wt] at h3
      omega
    · omega
  have hl : a.length = b.length := by
    rcases Nat.le_total a.length b.length with h1 | h1
    · exact key ha hb h h1
    · exact (key hb ha h.symm h1).symm
  exact List.append_inj' h hl
theorem flatten_snoc (A : List (List Nd)) (a : List Nd) : (A ++ [a]).flatten = A.flatten ++ a := by simp
theorem ones_same : ∀ {A B : List (List Nd)}, (∀ x ∈ A, One x) → (∀ x ∈ B, One x) → A.flatten = B.flatten → A = B := by
  intro A
  induction hn : A.length generalizing A with
  | zero =>
    intro B hA hB h
    have : A = [] := List.eq_nil_of_length_eq_zero hn
    subst this
    cases B with
    | nil => rfl
    | cons b B =>
      exfalso
      have h1 := (hB b (by simp)).ne
      simp only [List.flatten_nil, List.flatten_cons] at h
      have := congrArg List.length h
      simp only [List.length_nil, List.length_append] at this
      exact h1 (List.eq_nil_of_length_eq_zero (by omega))
  | succ n ih =>
    intro B hA hB h
    have hne : A ≠ [] := fun e => by simp [e] at hn
    obtain ⟨A', a, rfl⟩ : ∃ A' a, A = A' ++ [a] := ⟨_, _, (List.dropLast_concat_getLast hne).symm⟩
    have hb : B ≠ [] := by
      intro e
      subst e
      have h1 := (hA a (by simp)).ne
      simp only [flatten_snoc, List.flatten_nil, List.append_eq_nil_iff] at h
      exact h1 h.2
    obtain ⟨B', b, rfl⟩ : ∃ B' b, B = B' ++ [b] := ⟨_, _, (List.dropLast_concat_getLast hb).symm⟩
    rw [flatten_snoc, flatten_snoc] at h
    obtain ⟨h1, h2⟩ := (hA a (by simp)).suffix (hB b (by simp)) h
    have h3 := ih (A := A') (by simpa using hn) (fun x hx => hA x (by simp [hx])) (fun x hx => hB x (by simp [hx])) h1
    rw [h3, h2]
theorem ones_run : ∀ {A : List (List Nd)}, (∀ x ∈ A, One x) → ∃ S ys, after A.flatten A.flatten.length = some (S, ys) ∧ S.length = A.length := by
  intro A
  induction hn : A.length generalizing A with
  | zero =>
    intro _
    have : A = [] := List.eq_nil_of_length_eq_zero hn
    subst this
    exact ⟨[], [], rfl, rfl⟩
  | succ n ih =>
    intro hA
    have hne : A ≠ [] := fun e => by simp [e] at hn
    obtain ⟨A', a, rfl⟩ : ∃ A' a, A = A' ++ [a] := ⟨_, _, (List.dropLast_concat_getLast hne).symm⟩
    obtain ⟨S, ys, h1, h2⟩ := ih (A := A') (by simpa using hn) (fun x hx => hA x (by simp [hx]))
    obtain ⟨s, y, h3⟩ := hA a (by simp)
    have h4 := after_append h1 h3
    rw [flatten_snoc, List.length_append, h4]
    exact ⟨_, _, rfl, by simp; simp at h2 hn; omega⟩
theorem One.join {A : List (List Nd)} {n : Nd} (hA : ∀ x ∈ A, One x) (hn : n.kids = (A.length : Int)) : One (A.flatten ++ [n]) := by
  obtain ⟨S, ys, h1, h2⟩ := ones_run hA
  have hst : step S A.flatten.length n.kids = some ([over S A.flatten.length], over S A.flatten.length) := by
    rw [hn, step_of (by omega) (by omega)]
    have e : S.length - (A.length : Int).toNat = 0 := by omega
    rw [e]
    simp
  have h3 : after (A.flatten ++ [n]) A.flatten.length = some (S, ys) := by rw [after_front (Nat.le_refl _)]; exact h1
  refine ⟨over S A.flatten.length, ys ++ [over S A.flatten.length], ?_⟩
  have h4 := after_succ h3 (by simp) (S' := [over S A.flatten.length]) (s := over S A.flatten.length) (by
    rw [List.getElem_append_right (Nat.le_refl _)]
    simp only [Nat.sub_self, List.getElem_singleton]
    exact hst)
  rw [List.length_append]
  exact h4
theorem sub_one {t : List Nd} {S ys : List Sp} {n i : Nat} {s : Sp} (h : after t n = some (S, ys)) (hi : i < n) (hs : ys[i]? = some s) : One (span t s.fr i) := by
  obtain ⟨ys', h1⟩ := sub_run h i hi s hs
  have hle := after_le h
  refine ⟨⟨0, i - s.fr, s.dp⟩, ys', ?_⟩
  rw [span_length t s.fr i (by omega)]
  exact h1
def fillN (θ : Int → List Nd) (n : Nd) : List Nd := if n.kind = 61 then θ n.num else [n]
def fill (θ : Int → List Nd) (a : List Nd) : List Nd := a.flatMap (fillN θ)
theorem fill_append (θ : Int → List Nd) (a b : List Nd) : fill θ (a ++ b) = fill θ a ++ fill θ b := by simp [fill]
theorem fill_flatten (θ : Int → List Nd) (A : List (List Nd)) : fill θ A.flatten = (A.map (fill θ)).flatten := by
  induction A with
  | nil => rfl
  | cons a A ih => rw [List.flatten_cons, fill_append, ih]; rfl
def metas (a : List Nd) : List Int := (a.filter (fun n => n.kind == 61)).map (fun n => n.num)
theorem metas_append (a b : List Nd) : metas (a ++ b) = metas a ++ metas b := by simp [metas]
theorem metas_flatten_mem {A : List (List Nd)} {x : Int} : x ∈ metas A.flatten ↔ ∃ a ∈ A, x ∈ metas a := by
  induction A with
  | nil => simp [metas]
  | cons a A ih => rw [List.flatten_cons, metas_append, List.mem_append, ih]; simp
theorem fill_congr {θ θ' : Int → List Nd} {a : List Nd} (h : ∀ x ∈ metas a, θ x = θ' x) : fill θ a = fill θ' a := by
  induction a with
  | nil => rfl
  | cons n a ih =>
    have e : ∀ θ, fill θ (n :: a) = fillN θ n ++ fill θ a := fun θ => by simp [fill]
    rw [e, e]
    have h1 : fill θ a = fill θ' a := ih (fun x hx => h x (by
      have : metas (n :: a) = metas [n] ++ metas a := metas_append [n] a
      rw [this]; exact List.mem_append_right _ hx))
    rw [h1]
    congr 1
    unfold fillN
    by_cases hk : n.kind = 61
    · rw [if_pos hk, if_pos hk]
      exact h n.num (by simp [metas, hk])
    · rw [if_neg hk, if_neg hk]
def Leafy (a : List Nd) : Prop := ∀ n ∈ a, n.kind = 61 → n.kids = 0
theorem Leafy.sub {a : List Nd} (h : Leafy a) (f i : Nat) : Leafy (span a f i) := by
  intro n hn
  exact h n (List.mem_of_mem_take (List.mem_of_mem_drop hn))
theorem fill_run {θ : Int → List Nd} (hθ : ∀ x, One (θ x)) {a : List Nd} (hl : Leafy a) :
    ∀ {k : Nat} {S ys : List Sp}, after a k = some (S, ys) → ∃ S' ys', after (fill θ (a.take k)) (fill θ (a.take k)).length = some (S', ys') ∧ S'.length = S.length := by
  intro k
  induction k with
  | zero => intro S ys h; simp only [after, Option.some.injEq, Prod.mk.injEq] at h; obtain ⟨rfl, rfl⟩ := h; exact ⟨[], [], rfl, rfl⟩
  | succ k ih =>
    intro S' ys' h
    obtain ⟨S, ys, s, hk, ha, hs, rfl⟩ := after_inv h
    obtain ⟨h0, h1, rfl, _⟩ := step_some hs
    obtain ⟨S1, y1, r1, l1⟩ := ih ha
    rw [List.take_succ_eq_append_getElem hk, fill_append]
    have e : fill θ [a[k]] = fillN θ a[k] := by simp [fill]
    rw [e]
    by_cases h61 : a[k].kind = 61
    · have hz := hl a[k] (List.getElem_mem hk) h61
      obtain ⟨s2, y2, r2⟩ := hθ a[k].num
      have e2 : fillN θ a[k] = θ a[k].num := by rw [fillN, if_pos h61]
      rw [e2, List.length_append, after_append r1 r2]
      refine ⟨_, _, rfl, ?_⟩
      simp [hz]
      omega
    · have e2 : fillN θ a[k] = [a[k]] := by rw [fillN, if_neg h61]
      rw [e2]
      have r3 : after (fill θ (a.take k) ++ [a[k]]) (fill θ (a.take k)).length = some (S1, y1) := by rw [after_front (Nat.le_refl _)]; exact r1
      have hst := step_of (S := S1) (i := (fill θ (a.take k)).length) (n := a[k].kids) h0 (by omega)
      have r4 := after_succ r3 (by simp) (by
        rw [List.getElem_append_right (Nat.le_refl _)]
        simp only [Nat.sub_self, List.getElem_singleton]
        exact hst)
      rw [List.length_append]
      refine ⟨_, _, r4, ?_⟩
      simp
      omega
theorem fill_one {θ : Int → List Nd} (hθ : ∀ x, One (θ x)) {a : List Nd} (hl : Leafy a) (ha : One a) : One (fill θ a) := by
  obtain ⟨s, ys, h⟩ := ha
  obtain ⟨S', ys', h1, h2⟩ := fill_run hθ hl h
  rw [List.take_of_length_le (Nat.le_refl _)] at h1
  match S', h2 with
  | [s'], _ => exact ⟨s', ys', h1⟩
end Go.Proofs.YtoiiibplkhedcaaGreatDoor

namespace Go.Proofs.YtoiiibplkhedcaaGreatDoor
def nums (bs : List (Int × List Nd)) : List Int := bs.map Prod.fst
def Ext (θ : Int → List Nd) (bs : List (Int × List Nd)) : Prop := ∀ p ∈ bs, θ p.1 = p.2
structure MatchOk (bs : List (Int × List Nd)) (G T : List Nd) (bs' : List (Int × List Nd)) : Prop where
  pre : ∀ p ∈ bs, p ∈ bs'
  nodup : (nums bs').Nodup
  one : ∀ p ∈ bs', One p.2
  mem : ∀ x, x ∈ nums bs' ↔ x ∈ nums bs ∨ x ∈ metas G
  fills : ∀ θ, Ext θ bs' → fill θ G = T
  force : ∀ θ, (∀ x, One (θ x)) → Ext θ bs → fill θ G = T → Ext θ bs'
def MatchNo (bs : List (Int × List Nd)) (G T : List Nd) : Prop := ∀ θ, (∀ x, One (θ x)) → Ext θ bs → fill θ G ≠ T
theorem match_new {bs : List (Int × List Nd)} {n : Nd} {T : List Nd} (hk : n.kind = 61) (hn : n.num ∉ nums bs) (hd : (nums bs).Nodup) (ho : ∀ p ∈ bs, One p.2) (hT : One T) : MatchOk bs [n] T (bs ++ [(n.num, T)]) := by
  have hf : ∀ θ, fill θ [n] = θ n.num := fun θ => by simp [fill, fillN, hk]
  refine ⟨fun p hp => by simp [hp], ?_, ?_, ?_, ?_, ?_⟩
  · simp only [nums, List.map_append, List.map_cons, List.map_nil]
    rw [List.nodup_append]
    refine ⟨hd, by simp, ?_⟩
    intro a ha b hb e
    simp at hb
    subst hb
    subst e
    exact hn ha
  · intro p hp
    rcases List.mem_append.1 hp with h | h
    · exact ho p h
    · simp at h; subst h; exact hT
  · intro x
    simp [nums, metas, hk]
  · intro θ h
    rw [hf]
    exact h (n.num, T) (by simp)
  · intro θ _ h1 h2 p hp
    rcases List.mem_append.1 hp with h | h
    · exact h1 p h
    · simp at h; subst h; rw [hf] at h2; exact h2
theorem match_old {bs : List (Int × List Nd)} {n : Nd} {T : List Nd} (hk : n.kind = 61) (hd : (nums bs).Nodup) (ho : ∀ p ∈ bs, One p.2) (hm : (n.num, T) ∈ bs) : MatchOk bs [n] T bs := by
  have hf : ∀ θ, fill θ [n] = θ n.num := fun θ => by simp [fill, fillN, hk]
  refine ⟨fun p hp => hp, hd, ho, ?_, fun θ h => by rw [hf]; exact h _ hm, fun θ _ h _ => h⟩
  intro x
  constructor
  · exact Or.inl
  · rintro (h | h)
    · exact h
    · simp [metas, hk] at h
      subst h
      exact List.mem_map.2 ⟨_, hm, rfl⟩
theorem match_other {bs : List (Int × List Nd)} {n : Nd} {T U : List Nd} (hk : n.kind = 61) (hm : (n.num, U) ∈ bs) (hne : U ≠ T) : MatchNo bs [n] T := by
  have hf : ∀ θ, fill θ [n] = θ n.num := fun θ => by simp [fill, fillN, hk]
  intro θ _ h e
  rw [hf, h _ hm] at e
  exact hne e
theorem match_clash {bs : List (Int × List Nd)} {n n' : Nd} {A B : List Nd} (hk : n.kind ≠ 61) (hne : n ≠ n') : MatchNo bs (A ++ [n]) (B ++ [n']) := by
  intro θ _ _ e
  rw [fill_append] at e
  have hf : fill θ [n] = [n] := by simp [fill, fillN, hk]
  rw [hf] at e
  have := (List.append_inj' e rfl).2
  simp at this
  exact hne this
theorem match_nil {bs : List (Int × List Nd)} (hd : (nums bs).Nodup) (ho : ∀ p ∈ bs, One p.2) : MatchOk bs [] [] bs :=
  ⟨fun p hp => hp, hd, ho, fun x => by simp [metas], fun θ _ => rfl, fun θ _ h _ => h⟩
theorem MatchOk.step {bs bs1 bs2 : List (Int × List Nd)} {G T A B : List Nd} (h1 : MatchOk bs G T bs1) (h2 : MatchOk bs1 A B bs2) (hA : One A) (hl : Leafy A) (hB : One B) : MatchOk bs (G ++ A) (T ++ B) bs2 := by
  refine ⟨fun p hp => h2.pre p (h1.pre p hp), h2.nodup, h2.one, ?_, ?_, ?_⟩
  · intro x
    rw [h2.mem, h1.mem, metas_append, List.mem_append, or_assoc]
  · intro θ h
    rw [fill_append, h2.fills θ h, h1.fills θ (fun p hp => h (p) (h2.pre p hp))]
  · intro θ hθ h e
    rw [fill_append] at e
    obtain ⟨e1, e2⟩ := (fill_one hθ hl hA).suffix hB e
    exact h2.force θ hθ (h1.force θ hθ h e1) e2
theorem MatchOk.over {bs bs' : List (Int × List Nd)} {G T : List Nd} {n : Nd} (h : MatchOk bs G T bs') (hk : n.kind ≠ 61) : MatchOk bs (G ++ [n]) (T ++ [n]) bs' := by
  have hf : ∀ θ, fill θ [n] = [n] := fun θ => by simp [fill, fillN, hk]
  refine ⟨h.pre, h.nodup, h.one, ?_, ?_, ?_⟩
  · intro x
    have hm : metas [n] = [] := by simp [metas, hk]
    rw [h.mem, metas_append, hm, List.append_nil]
  · intro θ hE
    rw [fill_append, hf, h.fills θ hE]
  · intro θ hθ hE e
    rw [fill_append, hf] at e
    exact h.force θ hθ hE (List.append_inj' e rfl).1
theorem MatchNo.kid {bs bs1 : List (Int × List Nd)} {A B : List (List Nd)} {n : Nd} {k : Nat} (hk : n.kind ≠ 61) (hA : ∀ a ∈ A, One a) (hl : ∀ a ∈ A, Leafy a) (hB : ∀ b ∈ B, One b) (hka : k < A.length) (hkb : k < B.length)
    (h1 : MatchOk bs (A.take k).flatten (B.take k).flatten bs1) (h2 : MatchNo bs1 A[k] B[k]) : MatchNo bs (A.flatten ++ [n]) (B.flatten ++ [n]) := by
  intro θ hθ hE e
  have hf : fill θ [n] = [n] := by simp [fill, fillN, hk]
  rw [fill_append, hf, fill_flatten] at e
  have e1 := (List.append_inj' e rfl).1
  have e2 : A.map (fill θ) = B := ones_same (by
    intro x hx
    obtain ⟨a, ha, rfl⟩ := List.mem_map.1 hx
    exact fill_one hθ (hl a ha) (hA a ha)) hB e1
  have e3 : fill θ A[k] = B[k] := by
    have : (A.map (fill θ))[k]'(by simpa using hka) = B[k] := by simp only [e2]
    rw [← this]
    simp
  refine h2 θ hθ (h1.force θ hθ hE ?_) e3
  rw [fill_flatten, List.map_take, e2]
theorem span_kids {t : List Nd} {S ys : List Sp} {n i : Nat} {s : Sp} (h : after t n = some (S, ys)) (hi : i < n) (hs : ys[i]? = some s) (ht : i < t.length) :
    ∃ K, KidsAt t ys i K ∧ span t s.fr i = (kidsIn t K).flatten ++ [t[i]] ∧ (∀ a ∈ kidsIn t K, One a) := by
  obtain ⟨K, hK, ho⟩ := kids_at2 h i hi
  rw [ho] at hs
  simp only [Option.some.injEq] at hs
  subst hs
  have hle := after_le h
  have hc := kids_con hK
  have hfi : frOf K i ≤ i := hc.le
  refine ⟨K, hK, ?_, ?_⟩
  · show span t (frOf K i) i = _
    rw [span_snoc t (frOf K i) i ht hfi, con_flat hc (by omega)]
  · intro a ha
    obtain ⟨x, hx, rfl⟩ := List.mem_map.1 ha
    obtain ⟨r, hr, rfl⟩ := List.getElem_of_mem hx
    have hm := hK.mem r hr
    exact sub_one h (by omega) hm.1
theorem fill_inj {θ θ' : Int → List Nd} (hθ : ∀ x, One (θ x)) (hθ' : ∀ x, One (θ' x)) {t : List Nd} (hl : Leafy t) {S ys : List Sp} {n : Nat} (h : after t n = some (S, ys)) :
    ∀ i, i < n → ∀ s, ys[i]? = some s → fill θ (span t s.fr i) = fill θ' (span t s.fr i) → ∀ x ∈ metas (span t s.fr i), θ x = θ' x := by
  intro i
  induction i using Nat.strongRecOn with
  | ind i ih =>
    intro hi s hs e x hx
    have hle := after_le h
    have hit : i < t.length := by omega
    obtain ⟨K, hK, hsp, hO⟩ := span_kids h hi hs hit
    rw [hsp] at e hx
    by_cases h61 : t[i].kind = 61
    · have hz := hl t[i] (List.getElem_mem hit) h61
      obtain ⟨_, hn⟩ := hK.num
      have hK0 : K = [] := List.eq_nil_of_length_eq_zero (by omega)
      subst hK0
      have hf : ∀ θ, fill θ [t[i]] = θ t[i].num := fun θ => by simp [fill, fillN, h61]
      simp only [kidsIn, List.map_nil, List.flatten_nil, List.nil_append] at e hx
      rw [hf, hf] at e
      simp [metas, h61] at hx
      subst hx
      exact e
    · have hf : ∀ θ, fill θ [t[i]] = [t[i]] := fun θ => by simp [fill, fillN, h61]
      rw [fill_append, fill_append, hf, hf, fill_flatten, fill_flatten] at e
      have e1 := (List.append_inj' e rfl).1
      have hL : ∀ a ∈ kidsIn t K, Leafy a := by
        intro a ha
        obtain ⟨y, hy, rfl⟩ := List.mem_map.1 ha
        exact hl.sub _ _
      have e2 : (kidsIn t K).map (fill θ) = (kidsIn t K).map (fill θ') := ones_same (by
        intro y hy
        obtain ⟨a, ha, rfl⟩ := List.mem_map.1 hy
        exact fill_one hθ (hL a ha) (hO a ha)) (by
        intro y hy
        obtain ⟨a, ha, rfl⟩ := List.mem_map.1 hy
        exact fill_one hθ' (hL a ha) (hO a ha)) e1
      have hm : metas [t[i]] = [] := by simp [metas, h61]
      rw [metas_append, hm, List.append_nil, metas_flatten_mem] at hx
      obtain ⟨a, ha, hxa⟩ := hx
      have e3 : fill θ a = fill θ' a := List.map_inj_left.1 e2 a ha
      obtain ⟨y, hy, rfl⟩ := List.mem_map.1 ha
      obtain ⟨r, hr, rfl⟩ := List.getElem_of_mem hy
      have hmr := hK.mem r hr
      exact ih K[r].rt hmr.2.2 (by omega) K[r] hmr.1 e3 x hxa
def Up (xs : List Int) : Prop := xs.Pairwise (· < ·)
theorem up_same {xs ys : List Int} (hx : Up xs) (hy : Up ys) (h : ∀ x, x ∈ xs ↔ x ∈ ys) : xs = ys := by
  induction xs generalizing ys with
  | nil =>
    cases ys with
    | nil => rfl
    | cons y ys => exact absurd ((h y).2 (by simp)) (by simp)
  | cons x xs ih =>
    cases ys with
    | nil => exact absurd ((h x).1 (by simp)) (by simp)
    | cons y ys =>
      unfold Up at hx hy
      rw [List.pairwise_cons] at hx hy
      have e : x = y := by
        have h1 := (h x).1 (by simp)
        have h2 := (h y).2 (by simp)
        rcases List.mem_cons.1 h1 with h1 | h1
        · exact h1
        · rcases List.mem_cons.1 h2 with h2 | h2
          · exact h2.symm
          · have := hx.1 y h2; have := hy.1 x h1; omega
      subst e
      rw [ih hx.2 hy.2 (fun z => ?_)]
      constructor
      · intro hz
        have h1 := (h z).1 (by simp [hz])
        rcases List.mem_cons.1 h1 with e | h1
        · have := hx.1 z hz; omega
        · exact h1
      · intro hz
        have h1 := (h z).2 (by simp [hz])
        rcases List.mem_cons.1 h1 with e | h1
        · have := hy.1 z hz; omega
        · exact h1
structure InstOk (g t : List Nd) (bs : List (Int × List Nd)) : Prop where
  up : Up (nums bs)
  mem : ∀ x, x ∈ nums bs ↔ x ∈ metas g
  one : ∀ p ∈ bs, One p.2
  fills : ∀ θ, Ext θ bs → fill θ g = t
def InstNo (g t : List Nd) : Prop := ∀ θ, (∀ x, One (θ x)) → fill θ g ≠ t
def pick (bs : List (Int × List Nd)) (x : Int) : List Nd := match bs.find? (fun p => p.1 == x) with
  | some p => p.2
  | none => [Nd.zero]
theorem pick_one {bs : List (Int × List Nd)} (h : ∀ p ∈ bs, One p.2) (x : Int) : One (pick bs x) := by
  unfold pick
  cases hf : bs.find? (fun p => p.1 == x) with
  | some p => exact h p (List.mem_of_find?_eq_some hf)
  | none => exact ⟨_, _, rfl⟩
theorem pick_ext {bs : List (Int × List Nd)} (h : (nums bs).Nodup) : Ext (pick bs) bs := by
  intro p hp
  unfold pick
  induction bs with
  | nil => simp at hp
  | cons b bs ih =>
    simp only [nums, List.map_cons, List.nodup_cons] at h
    rcases List.mem_cons.1 hp with rfl | hp
    · simp
    · have hne : b.1 ≠ p.1 := fun e => h.1 (by rw [e]; exact List.mem_map.2 ⟨p, hp, rfl⟩)
      have hb : (b.1 == p.1) = false := by simpa using hne
      rw [List.find?_cons, hb]
      exact ih h.2 hp
theorem up_nodup {xs : List Int} (h : Up xs) : xs.Nodup := List.Pairwise.imp (fun h => by omega) h
end Go.Proofs.YtoiiibplkhedcaaGreatDoor

namespace Go.Proofs.YtoiiibplkhedcaaGreatDoor
open Go.RowKit
set_option maxHeartbeats 400000 in
theorem bare_any (x : Nd) (w : World) :
    Calls Tryz.prog 91 #[.agg #[.int .i64 x.kind, .int .i64 x.num, .string x.text, .int .i64 x.kids, .int .i64 x.place]] w fun e w' =>
      e = .returned (.agg #[.int .i64 x.kind, .int .i64 x.num, .string x.text, .int .i64 x.kids, .int .i64 0]) ∧ Below w.heap.size w w' := by
  go_enter Tryz.func91, Tryz.ntmps91
  go_wp2
  refine bodyPost_ret (v := .agg #[.int .i64 x.kind, .int .i64 x.num, .string x.text, .int .i64 x.kids, .int .i64 0]) (by simp [results, Tryz.results91, go_sem]) rfl ⟨rfl, ?_⟩
  exact ((Below.refl _ _).alloc (Nat.le_refl _) _).alloc (by simp) _
theorem neqN (x y : Nd) (w : World) :
    (binOp .neq 43 (.agg #[.int .i64 x.kind, .int .i64 x.num, .string x.text, .int .i64 x.kids, .int .i64 0]) (.agg #[.int .i64 y.kind, .int .i64 y.num, .string y.text, .int .i64 y.kids, .int .i64 0])).run Tryz.prog w =
      .ok (.bool (!(x.sameb y))) w := by
  unfold Nd.sameb
  go_simp
  repeat' split
  all_goals simp_all
end Go.Proofs.YtoiiibplkhedcaaGreatDoor

namespace Go.Proofs.YtoiiibplkhedcaaGreatDoor
open Go.RowKit
def flat2 (ms : List (Int × Int)) : List Value := ms.flatMap fun p => [.int .i64 p.1, .int .i64 p.2]
theorem flat2_length (ms : List (Int × Int)) : (flat2 ms).length = ms.length * 2 := by
  induction ms with
  | nil => rfl
  | cons m ms ih => simp only [flat2, List.flatMap_cons, List.length_append, List.length_cons, List.length_nil] at *; omega
theorem flat2_append (a b : List (Int × Int)) : flat2 (a ++ b) = flat2 a ++ flat2 b := by simp [flat2]
theorem flat2_get (ms : List (Int × Int)) (i : Nat) (h : i < ms.length) : (flat2 ms)[i * 2]? = some (.int .i64 ms[i].1) ∧ (flat2 ms)[i * 2 + 1]? = some (.int .i64 ms[i].2) := by
  induction ms generalizing i with
  | nil => simp at h
  | cons m ms ih =>
    cases i with
    | zero => simp [flat2]
    | succ i =>
      have e1 : (i + 1) * 2 = i * 2 + 1 + 1 := by omega
      have h9 := ih i (by simpa using h)
      rw [e1]
      simpa [flat2] using h9
def MRow (w : World) (g : Nat) (ms : List (Int × Int)) : Prop := OwnT 134 w g (flat2 ms)
theorem MRow.at {w : World} {g : Nat} {ms : List (Int × Int)} (h : MRow w g ms) (i : Nat) (hi : i < ms.length) : w.cell? ⟨g, i * 2, none⟩ = some (.int .i64 ms[i].1) ∧ w.cell? ⟨g, i * 2 + 1, none⟩ = some (.int .i64 ms[i].2) := by
  have hl := flat2_length ms
  obtain ⟨h1, h2⟩ := flat2_get ms i hi
  exact ⟨(OwnT.at h _ (by omega)).trans h1, (OwnT.at h _ (by omega)).trans h2⟩
theorem MRow.below {w w' : World} {g : Nat} {ms : List (Int × Int)} (h : MRow w g ms) (hb : Below w.heap.size w w') : MRow w' g ms := OwnT.below h hb
theorem MRow.lt {w : World} {g : Nat} {ms : List (Int × Int)} (h : MRow w g ms) : g < w.heap.size := OwnT.lt h
theorem MRow.kept {w w' : World} {g k : Nat} {ms : List (Int × Int)} (h : MRow w g ms) (hg : w.grownBy w' (some k)) (hne : g ≠ k) : MRow w' g ms := by
  obtain ⟨cur, rest, hh, hc⟩ := h
  exact ⟨cur, rest, (hg.block g (Array.getElem?_eq_some_iff.1 hh).1 (by simpa using hne)).trans hh, hc⟩
def knownIn (ms : List (Int × Int)) (x : Int) : Int := if placeIn (ms.map Prod.fst) x < ms.length then (placeIn (ms.map Prod.fst) x : Int) else -1
set_option maxHeartbeats 1000000 in
theorem known_any (ms : List (Int × Int)) (n : Nat) (HM : Hid (ms.length = n)) (hn : n ≤ 1048576) (x : Int) (g cap : Nat) (w : World) (hr : MRow w g ms) :
    Calls Tryz.prog 68 #[.slice (some ⟨g, 0, none⟩) n cap, .int .i64 x] w fun e w' => e = .returned (.int .i64 (knownIn ms x)) ∧ Below w.heap.size w w' := by
  go_enter Tryz.func68, Tryz.ntmps68
  go_wp2
  go_loopw [5] (fun i wr => ∃ (k : Nat), k ≤ n ∧ i = .int .i64 k ∧ (∀ i (h : i < (ms.map Prod.fst).length), i < k → (ms.map Prod.fst)[i] ≠ x) ∧ Below w.heap.size w wr) (fun i _ => n - (intOf i).toNat)
  case atStart => exact ⟨0, Nat.zero_le _, rfl, fun i _ h => absurd h (by omega), Below.refl _ _⟩
  case round =>
    obtain ⟨k, hk, rfl, hall, hb⟩ := hrel
    by_cases hlt : k < n
    · have hltx : k < ms.length := by have := HM.out; omega
      have hltm : k < (ms.map Prod.fst).length := by simp; exact hltx
      have hrow := hr.below hb
      obtain ⟨c0, _⟩ := hrow.at k hltx
      have hlb := hrow.lt
      by_cases he : ms[k].1 = x
      · have HV : Hid (knownIn ms x = (k : Int)) := by
          have h9 := placeIn_found (x := x) hltm (by simpa using he) hall
          show knownIn ms x = _
          unfold knownIn
          rw [h9, if_pos hltx]
        rw [he] at c0
        have te : ((x : Int) == x) = true := by simp
        clear hall hr hrow he
        go_wp2
        go_ret
        exact ⟨by rw [HV.out]; rfl, hb⟩
      · have te : (ms[k].1 == x) = false := by simpa using he
        have HA : Hid (∀ i (h : i < (ms.map Prod.fst).length), i < k + 1 → (ms.map Prod.fst)[i] ≠ x) := by
          intro i h hi
          by_cases e : i = k
          · subst e; simpa using he
          · exact hall i h (by omega)
        obtain ⟨v, hv⟩ : ∃ v, ms[k].1 = v := ⟨_, rfl⟩
        rw [hv] at c0 te
        clear hall hr hrow he hv
        go_wp2
        go_roundw
        case rel => exact ⟨k + 1, by omega, by go_num, HA.out, hb⟩
        case measure => simp [intOf]; omega
    · have HV : Hid (knownIn ms x = -1) := by
        have h9 := placeIn_none (met := ms.map Prod.fst) (x := x) (fun i h => hall i h (by have := HM.out; simp at h; omega))
        show knownIn ms x = _
        unfold knownIn
        rw [h9, if_neg (by simp)]
      clear hall hr
      go_wp2
      go_ret
      exact ⟨by rw [HV.out]; rfl, hb⟩
def OwnM (w : World) (B g c l : Nat) (ms : List (Int × Int)) : Prop := ms.length = l ∧ w.ownsRow B 134 2 (.slice (some ⟨g, 0, none⟩) l c) l (flat2 ms)
theorem Tryz.infoM : (Tryz.prog.info? 134).map (fun i => (i.zero, i.size, i.bytes)) = some (some (.agg #[.int .i64 0, .int .i64 0]), 2, 16) := by kernel_rfl
theorem OwnM.row {w : World} {B g c l : Nat} {ms : List (Int × Int)} (h : OwnM w B g c l ms) : B ≤ g ∧ MRow w g ms := by
  obtain ⟨hl, ho⟩ := h
  rcases ho.2 with ⟨h', _⟩ | ⟨g2, cap2, cur, he, hb, hh, _, _, _, htake⟩
  · cases h'
  · simp only [Value.slice.injEq, Option.some.injEq, Addr.mk.injEq, and_true, true_and] at he
    obtain ⟨rfl, rfl⟩ := he
    exact ⟨hb, cur, cur.toList.drop (l * 2), hh, by rw [← htake, List.take_append_drop]⟩
theorem OwnM.empty {w : World} {B : Nat} (hB : B ≤ w.heap.size) : OwnM (w.alloc (.cells #[] 134)) B w.heap.size 0 0 [] :=
  ⟨rfl, rfl, Or.inr ⟨_, 0, #[], rfl, hB, heap_alloc_new _ _, Nat.le_refl _, by simp [maxLen], rfl, rfl⟩⟩
theorem OwnM.alloc {w : World} {B g c l : Nat} {ms : List (Int × Int)} (h : OwnM w B g c l ms) (o : Obj) : OwnM (w.alloc o) B g c l ms := ⟨h.1, h.2.alloc o⟩
theorem OwnM.but {S : Nat → Prop} {w w' : World} {B g c l : Nat} {ms : List (Int × Int)} (h : OwnM w B g c l ms) (hb : But S w w') (hn : ¬ S g) : OwnM w' B g c l ms := ⟨h.1, owns_but h.2 hb hn⟩
theorem OwnM.below {w w' : World} {B g c l : Nat} {ms : List (Int × Int)} (h : OwnM w B g c l ms) (hb : Below w.heap.size w w') : OwnM w' B g c l ms := h.but (S := fun _ => False) (But.ofBelow hb) (fun h => h)
theorem OwnM.push {w : World} {B g c l m : Nat} {ms : List (Int × Int)} {x : Int × Int} (h : w.ownsRow B 134 2 (.slice (some ⟨g, 0, none⟩) m c) m (flat2 ms ++ [.int .i64 x.1, .int .i64 x.2])) (hl : ms.length = l) (hm : m = l + 1) : OwnM w B g c (l + 1) (ms ++ [x]) := by
  subst hm
  refine ⟨by simp [hl], ?_⟩
  rw [flat2_append]
  exact h
theorem two_cells (w : World) (a b : Int) : ∀ j u, [Value.int .i64 a, .int .i64 b][j]? = some u → (w.alloc (.cells #[.int .i64 a, .int .i64 b] 134)).cell? (Addr.add ⟨w.heap.size, 0, none⟩ j) = some u := by
  intro j u hj
  have ad : Addr.add ⟨w.heap.size, 0, none⟩ j = ⟨w.heap.size, j, none⟩ := by
    unfold Addr.add
    split
    · simp_all
    · simp
  rw [ad, cell_of_row _ w.heap.size j _ 134 (0, 0) (heap_alloc_new _ _), ← hj]
  simp
theorem two_one (a b : Int) : ∀ u ∈ [Value.int .i64 a, .int .i64 b], u.oneCell' = true := by
  intro u hu
  simp at hu
  rcases hu with rfl | rfl <;> rfl
theorem owns_setOne {w : World} {B e size g c n i : Nat} {xs : List Value} {v : Value} (h : w.ownsRow B e size (.slice (some ⟨g, 0, none⟩) n c) n xs) : (w.setCell ⟨g, i, none⟩ v).ownsRow B e size (.slice (some ⟨g, 0, none⟩) n c) n (xs.set i v) := by
  obtain ⟨hl, ho⟩ := h
  refine ⟨by simp [hl], Or.inr ?_⟩
  rcases ho with ⟨h', _⟩ | ⟨g2, cap2, cur, he, hb, hh, h1, h2, h3, htake⟩
  · cases h'
  · simp only [Value.slice.injEq, Option.some.injEq, Addr.mk.injEq, and_true, true_and] at he
    obtain ⟨rfl, rfl⟩ := he
    exact ⟨_, _, _, rfl, hb, heap_setCell_same _ g i _ e _ hh, h1, h2, by simp [h3], by rw [Array.toList_setIfInBounds, List.take_set, htake]⟩
theorem flat2_set (ms : List (Int × Int)) (j : Nat) (p : Int × Int) : ((flat2 ms).set (j * 2) (.int .i64 p.1)).set (j * 2 + 1) (.int .i64 p.2) = flat2 (ms.set j p) := by
  induction ms generalizing j with
  | nil => simp [flat2]
  | cons m ms ih =>
    cases j with
    | zero => simp [flat2]
    | succ j =>
      have e1 : (j + 1) * 2 = j * 2 + 1 + 1 := by omega
      have h9 := ih j
      rw [e1]
      simp only [flat2, List.flatMap_cons, List.cons_append, List.nil_append, List.set_cons_succ] at h9 ⊢
      rw [h9]
theorem OwnM.put {w : World} {B g c l : Nat} {ms : List (Int × Int)} (h : OwnM w B g c l ms) (j : Nat) (a b : Int) : OwnM ((w.setCell ⟨g, j * 2, none⟩ (.int .i64 a)).setCell ⟨g, j * 2 + 1, none⟩ (.int .i64 b)) B g c l (ms.set j (a, b)) := by
  refine ⟨by simp [h.1], ?_⟩
  have h9 := owns_setOne (v := .int .i64 b) (owns_setOne (v := .int .i64 a) h.2 (i := j * 2)) (i := j * 2 + 1)
  rw [flat2_set ms j (a, b)] at h9
  exact h9
def insR (x : Int × Int) : List (Int × Int) → List (Int × Int)
  | [] => [x]
  | y :: ys => if x.1 < y.1 then y :: insR x ys else x :: y :: ys
def insM (out : List (Int × Int)) (x : Int × Int) : List (Int × Int) := (insR x out.reverse).reverse
def sortedM (ms : List (Int × Int)) : List (Int × Int) := ms.foldl insM []
theorem insR_length (x : Int × Int) (l : List (Int × Int)) : (insR x l).length = l.length + 1 := by
  induction l with
  | nil => rfl
  | cons y ys ih => unfold insR; split <;> simp [ih]
theorem insM_length (out : List (Int × Int)) (x : Int × Int) : (insM out x).length = out.length + 1 := by simp [insM, insR_length]
theorem sortedM_take (ms : List (Int × Int)) (k : Nat) (h : k < ms.length) : sortedM (ms.take (k + 1)) = insM (sortedM (ms.take k)) ms[k] := by
  unfold sortedM
  rw [List.take_succ_eq_append_getElem h, List.foldl_append]
  rfl
theorem sortedM_length (ms : List (Int × Int)) : (sortedM ms).length = ms.length := by
  have : ∀ out, (ms.foldl insM out).length = out.length + ms.length := by
    induction ms with
    | nil => simp
    | cons m ms ih => intro out; rw [List.foldl_cons, ih, insM_length]; simp; omega
  have h9 := this []
  unfold sortedM
  simpa using h9
theorem insM_step (A : List (Int × Int)) (y x : Int × Int) (B : List (Int × Int)) (h : x.1 < y.1) : (insR x (A ++ [y]).reverse).reverse ++ B = (insR x A.reverse).reverse ++ (y :: B) := by
  rw [List.reverse_append]
  simp only [List.reverse_cons, List.reverse_nil, List.nil_append, List.cons_append]
  rw [insR, if_pos h]
  simp
theorem insM_stop (A : List (Int × Int)) (x : Int × Int) (h : ∀ y, A.getLast? = some y → ¬ x.1 < y.1) : (insR x A.reverse).reverse = A ++ [x] := by
  rcases List.eq_nil_or_concat A with rfl | ⟨A', y, rfl⟩
  · rfl
  · rw [List.concat_eq_append, List.reverse_append]
    simp only [List.reverse_cons, List.reverse_nil, List.nil_append, List.cons_append]
    rw [insR, if_neg (h y (by simp))]
    simp
theorem swap_list (A B : List (Int × Int)) (x y : Int × Int) : (((A ++ [y]) ++ x :: B).set (A.length + 1) y).set A.length x = A ++ x :: (y :: B) := by
  induction A with
  | nil => rfl
  | cons a A ih => simp
set_option maxRecDepth 100000 in
set_option maxHeartbeats 1000000 in
theorem sorted_any (ms : List (Int × Int)) (n : Nat) (HM : Hid (ms.length = n)) (hn : n ≤ 1048576) (g0 cap : Nat) (w : World) (hr : MRow w g0 ms) :
    Calls Tryz.prog 72 #[.slice (some ⟨g0, 0, none⟩) n cap] w fun e w' => ∃ g c, e = .returned (.slice (some ⟨g, 0, none⟩) n c) ∧ w.heap.size ≤ g ∧ MRow w' g (sortedM ms) ∧ Below w.heap.size w w' := by
  obtain ⟨i0, hi, hz0, hz1, hz2⟩ := info_parts Tryz.infoM
  go_enter Tryz.func72, Tryz.ntmps72
  go_wp2
  go_loopw [3, 4] (fun v p wr => ∃ (k g c : Nat), k ≤ n ∧ p = .int .i64 k ∧ v = .slice (some ⟨g, 0, none⟩) k c ∧ OwnM wr w.heap.size g c k (sortedM (ms.take k)) ∧ Below w.heap.size w wr) (fun _ p _ => n - (intOf p).toNat)
  case atStart => exact ⟨0, w.heap.size, 0, Nat.zero_le _, rfl, rfl, OwnM.empty (Nat.le_refl _), (Below.refl _ w).alloc (Nat.le_refl _) _⟩
  case round =>
    obtain ⟨k, g, c, hk, rfl, rfl, hown, hb⟩ := hrel
    by_cases hlt : k < n
    · have hltx : k < ms.length := by have := HM.out; omega
      have hrow := hr.below hb
      obtain ⟨c0, c1⟩ := hrow.at k hltx
      obtain ⟨⟨xa, xb⟩, hx⟩ : ∃ x, ms[k] = x := ⟨_, rfl⟩
      rw [hx] at c0 c1
      simp only at c0 c1
      have hlb := hrow.lt
      have hob := owns_block hown.2
      have HS : Hid (sortedM (ms.take (k + 1)) = insM (sortedM (ms.take k)) (xa, xb)) := by
        show sortedM (ms.take (k + 1)) = _
        rw [sortedM_take ms k hltx, hx]
      clear hr hrow hx
      have hl9 := hown.1
      go_wp2_with (at_builtin; refine wpList_append2 _ rfl (.tmp 14) (.tmp 19) 79 rfl w.heap.size 134 i0 _ 2 16 Tryz.underlying79 hi hz0 hz1 hz2 rfl (by decide) g k c _ rfl (hown.alloc _).2 ⟨_, 0, none⟩ 1 1 [.int .i64 xa, .int .i64 xb] rfl rfl (two_cells _ xa xb) (two_one _ _) ?a3 ?a4 ?a5 ?_)
      case a3 => unfold maxLen; omega
      case a4 => omega
      case a5 => have := hb.size; simp; omega
      intro g2 c2 w2 hown2 hgrow2 hwh
      have hO := OwnM.push (x := (xa, xb)) hown2 hown.1 rfl
      have hbb : Below w.heap.size w w2 := (hb.alloc hb.size _).grown hgrow2 (by have := hb.size; simp; omega) (fun q hq => by cases hq; exact hob.1)
      generalize sortedM (ms.take k) = out at *
      clear hown2 hgrow2 hwh hown hb c0 c1 hob hlb
      go_wp2
      go_loopw [5] (fun q wq => ∃ (j : Nat) (A B : List (Int × Int)), q = .int .i64 j ∧ A.length = j ∧ j ≤ k ∧ OwnM wq w.heap.size g2 c2 (k + 1) (A ++ (xa, xb) :: B) ∧ (insR (xa, xb) A.reverse).reverse ++ B = insM out (xa, xb) ∧ Below w.heap.size w wq) (fun q _ => (intOf q).toNat)
      case atStart => exact ⟨k, out, [], by go_num, hl9, Nat.le_refl _, hO, by simp [insM], hbb⟩
      case round =>
        clear hO hbb hl9
        obtain ⟨j, A, B, rfl, hA, hjk, hown, hins, hb⟩ := hrel
        have hrow := hown.row.2
        have hob := owns_block hown.2
        have hln : A.length + (B.length + 1) = k + 1 := by have h9 := hown.1; simpa using h9
        obtain ⟨d0, d1⟩ := hrow.at j (by simp; omega)
        have hxe : (A ++ (xa, xb) :: B)[j]'(by simp; omega) = (xa, xb) := by simp [← hA]
        rw [hxe] at d0 d1
        simp only at d0 d1
        have hfin : OwnM wr w.heap.size g2 c2 (k + 1) (A ++ (xa, xb) :: B) := hown
        by_cases hj0 : 0 < j
        · obtain ⟨A', y, rfl⟩ : ∃ A' y, A = A' ++ [y] := by
            rcases List.eq_nil_or_concat A with rfl | ⟨A', y, rfl⟩
            · simp at hA; omega
            · exact ⟨A', y, by simp⟩
          obtain ⟨ya, yb⟩ := y
          have hA' : A'.length = j - 1 := by simp at hA; omega
          obtain ⟨e0, e1⟩ := hrow.at (j - 1) (by simp; omega)
          have hye : ((A' ++ [(ya, yb)]) ++ (xa, xb) :: B)[j - 1]'(by simp; omega) = (ya, yb) := by
            simp [← hA']
          rw [hye] at e0 e1
          simp only at e0 e1
          by_cases hxy : xa < ya
          · have hst := insM_step A' (ya, yb) (xa, xb) B hxy
            rw [hins] at hst
            have tlt : decide (xa < ya) = true := decide_eq_true hxy
            clear hins hrow hfin hxe hye
            go_wp2_with fail
            go_quiet (fail)
            have hdr := below_drewN wr nq
            have d0' := (hdr.cell (p := ⟨g2, j * 2, none⟩) hob.2).trans d0
            have d1' := (hdr.cell (p := ⟨g2, j * 2 + 1, none⟩) hob.2).trans d1
            have e0' := (hdr.cell (p := ⟨g2, (j - 1) * 2, none⟩) hob.2).trans e0
            have e1' := (hdr.cell (p := ⟨g2, (j - 1) * 2 + 1, none⟩) hob.2).trans e1
            have hown' := hown.below hdr
            have hb' := Below.step hb hdr
            have hob' := owns_block hown'.2
            clear hdr d0 d1 e0 e1 hown hb hob
            generalize wr.drewN nq = W2 at *
            have f0 := OwnT.frozen hown'.row.2 (j * 2)
            have f1 := OwnT.frozen hown'.row.2 (j * 2 + 1)
            have f2 := OwnT.frozen hown'.row.2 ((j - 1) * 2)
            have f3 := OwnT.frozen hown'.row.2 ((j - 1) * 2 + 1)
            have HO : Hid (OwnM (((((W2.setCell ⟨g2, j * 2, none⟩ (.int .i64 ya)).setCell ⟨g2, j * 2 + 1, none⟩ (.int .i64 yb)).setCell ⟨g2, (j - 1) * 2, none⟩ (.int .i64 xa)).setCell ⟨g2, (j - 1) * 2 + 1, none⟩ (.int .i64 xb)).alloc (.cells #[.int .i64 xa, .int .i64 xb] 134)) w.heap.size g2 c2 (k + 1) (A' ++ (xa, xb) :: ((ya, yb) :: B))) := by
              have h9 := ((hown'.put j ya yb).put (j - 1) xa xb).alloc (.cells #[.int .i64 xa, .int .i64 xb] 134)
              have e9 : (((A' ++ [(ya, yb)]) ++ (xa, xb) :: B).set j (ya, yb)).set (j - 1) (xa, xb) = A' ++ (xa, xb) :: ((ya, yb) :: B) := by
                have ej : j = A'.length + 1 := by omega
                rw [ej]
                exact swap_list A' B (xa, xb) (ya, yb)
              rw [e9] at h9
              exact h9
            have HB : Hid (Below w.heap.size w (((((W2.setCell ⟨g2, j * 2, none⟩ (.int .i64 ya)).setCell ⟨g2, j * 2 + 1, none⟩ (.int .i64 yb)).setCell ⟨g2, (j - 1) * 2, none⟩ (.int .i64 xa)).setCell ⟨g2, (j - 1) * 2 + 1, none⟩ (.int .i64 xb)).alloc (.cells #[.int .i64 xa, .int .i64 xb] 134))) := by
              have b4 : But (· = g2) W2 ((((W2.setCell ⟨g2, j * 2, none⟩ (.int .i64 ya)).setCell ⟨g2, j * 2 + 1, none⟩ (.int .i64 yb)).setCell ⟨g2, (j - 1) * 2, none⟩ (.int .i64 xa)).setCell ⟨g2, (j - 1) * 2 + 1, none⟩ (.int .i64 xb)) := ((((But.refl (· = g2) W2).setCell (p := ⟨g2, j * 2, none⟩) rfl _).setCell (p := ⟨g2, j * 2 + 1, none⟩) rfl _).setCell (p := ⟨g2, (j - 1) * 2, none⟩) rfl _).setCell (p := ⟨g2, (j - 1) * 2 + 1, none⟩) rfl _
              have h9 := hb'.trans (b4.below hb'.size (fun q hq => by omega))
              exact h9.alloc h9.size _
            have HI : Hid ((insR (xa, xb) A'.reverse).reverse ++ ((ya, yb) :: B) = insM out (xa, xb)) := hst.symm
            clear hst
            go_wp2
            go_roundw
            case rel => exact ⟨j - 1, A', (ya, yb) :: B, by go_num, hA', by omega, HO.out, HI.out, HB.out⟩
            case measure => simp [intOf]; omega
          · have tlt : decide (xa < ya) = false := decide_eq_false hxy
            have HE : Hid (A' ++ [(ya, yb)] ++ (xa, xb) :: B = insM out (xa, xb)) := by
              show A' ++ [(ya, yb)] ++ (xa, xb) :: B = _
              rw [← hins, insM_stop (A' ++ [(ya, yb)]) (xa, xb) (by intro y hy; simp at hy; subst hy; exact hxy)]
              simp
            clear hins hrow hxe hye hown
            go_wp2_with fail
            go_quiet (fail)
            have hdr := below_drewN wr nq
            have hfin' := hfin.below hdr
            have hb' := Below.step hb hdr
            rw [HE.out, ← HS.out] at hfin'
            clear hdr d0 d1 e0 e1 hfin hb
            generalize wr.drewN nq = W2 at *
            go_wp2
            go_roundw
            case rel => exact ⟨k + 1, g2, c2, by omega, by go_num, rfl, hfin', hb'⟩
            case measure => simp [intOf]; omega
        · have hA0 : A = [] := List.eq_nil_of_length_eq_zero (by omega)
          subst hA0
          have HE : Hid ([] ++ (xa, xb) :: B = insM out (xa, xb)) := by
            show [] ++ (xa, xb) :: B = _
            rw [← hins]
            rfl
          have tj : decide ((j : Int) > 0) = false := decide_eq_false (by omega)
          clear hins hrow hxe hown
          go_wp2_with fail
          go_quiet (fail)
          have hdr := below_drewN wr nq
          have hfin' := hfin.below hdr
          have hb' := Below.step hb hdr
          rw [HE.out, ← HS.out] at hfin'
          clear hdr d0 d1 hfin hb
          generalize wr.drewN nq = W2 at *
          go_wp2
          go_roundw
          case rel => exact ⟨k + 1, g2, c2, by omega, by go_num, rfl, hfin', hb'⟩
          case measure => simp [intOf]; omega
    · have hke : k = n := by omega
      subst hke
      rw [List.take_of_length_le (by have := HM.out; omega)] at hown
      obtain ⟨hg, hrw⟩ := hown.row
      clear hr hown
      go_wp2
      go_ret
      exact ⟨_, _, rfl, hg, hrw, hb⟩
end Go.Proofs.YtoiiibplkhedcaaGreatDoor

namespace Go.Proofs.YtoiiibplkhedcaaGreatDoor
open Go.RowKit
def boundIn (bs : List (Int × List Nd)) (x : Int) : Int := if placeIn (bs.map Prod.fst) x < bs.length then (placeIn (bs.map Prod.fst) x : Int) else -1
set_option maxHeartbeats 1000000 in
theorem bound_any (bs : List (Int × List Nd)) (n : Nat) (HM : Hid (bs.length = n)) (hn : n ≤ 1048576) (x : Int) (ao : Option Addr) (cap : Nat) (w : World) (hr : Binds w ao bs) :
    Calls Tryz.prog 24 #[.slice ao n cap, .int .i64 x] w fun e w' => e = .returned (.int .i64 (boundIn bs x)) ∧ Below w.heap.size w w' := by
  go_enter Tryz.func24, Tryz.ntmps24
  go_wp2
  go_loopw [5] (fun i wr => ∃ (k : Nat), k ≤ n ∧ i = .int .i64 k ∧ (∀ i (h : i < (bs.map Prod.fst).length), i < k → (bs.map Prod.fst)[i] ≠ x) ∧ Below w.heap.size w wr) (fun i _ => n - (intOf i).toNat)
  case atStart => exact ⟨0, Nat.zero_le _, rfl, fun i _ h => absurd h (by omega), Below.refl _ _⟩
  case round =>
    obtain ⟨k, hk, rfl, hall, hb⟩ := hrel
    by_cases hlt : k < n
    · have hltx : k < bs.length := by have := HM.out; omega
      have hltm : k < (bs.map Prod.fst).length := by simp; exact hltx
      obtain ⟨b, o, ai, ci, rfl, c0, _, _⟩ := hr.below hb k hltx
      have hlb : b < wr.heap.size := lt_of_cell c0
      by_cases he : bs[k].1 = x
      · have HV : Hid (boundIn bs x = (k : Int)) := by
          have h9 := placeIn_found (x := x) hltm (by simpa using he) hall
          show boundIn bs x = _
          unfold boundIn
          rw [h9, if_pos hltx]
        rw [he] at c0
        have te : ((x : Int) == x) = true := by simp
        clear hall hr he
        go_wp2
        go_ret
        exact ⟨by rw [HV.out]; rfl, hb⟩
      · have te : (bs[k].1 == x) = false := by simpa using he
        have HA : Hid (∀ i (h : i < (bs.map Prod.fst).length), i < k + 1 → (bs.map Prod.fst)[i] ≠ x) := by
          intro i h hi
          by_cases e : i = k
          · subst e; simpa using he
          · exact hall i h (by omega)
        obtain ⟨v, hv⟩ : ∃ v, bs[k].1 = v := ⟨_, rfl⟩
        rw [hv] at c0 te
        clear hall hr he hv
        go_wp2
        go_roundw
        case rel => exact ⟨k + 1, by omega, by go_num, HA.out, hb⟩
        case measure => simp [intOf]; omega
    · have HV : Hid (boundIn bs x = -1) := by
        have h9 := placeIn_none (met := bs.map Prod.fst) (x := x) (fun i h => hall i h (by have := HM.out; simp at h; omega))
        show boundIn bs x = _
        unfold boundIn
        rw [h9, if_neg (by simp)]
      clear hall hr
      go_wp2
      go_ret
      exact ⟨by rw [HV.out]; rfl, hb⟩
theorem But.cell {S : Nat → Prop} {w w' : World} (h : But S w w') {b o : Nat} (hlt : b < w.heap.size) (hn : ¬ S b) : w'.cell? ⟨b, o, none⟩ = w.cell? ⟨b, o, none⟩ :=
  World.cell?_of_block (a := ⟨b, o, none⟩) (h.block b hlt hn)
theorem Nodes.but {S : Nat → Prop} {w w' : World} {ao : Option Addr} {xs : List Nd} (h : Nodes w ao xs) (hb : But S w w') (hd : ∀ b o, ao = some ⟨b, o, none⟩ → ¬ S b) : Nodes w' ao xs := by
  intro i hi
  obtain ⟨b, o, e, c0, c1, c2, c3, c4⟩ := h i hi
  have hlt : b < w.heap.size := lt_of_cell c0
  have hn := hd b o e
  exact ⟨b, o, e, (hb.cell hlt hn).trans c0, (hb.cell hlt hn).trans c1, (hb.cell hlt hn).trans c2, (hb.cell hlt hn).trans c3, (hb.cell hlt hn).trans c4⟩
theorem But.grown {S : Nat → Prop} {w a b : World} {g : Nat} (h : But S w a) (hg : a.grownBy b (some g)) (hs : g < w.heap.size → S g) : But S w b :=
  ⟨hg.os.trans h.os, hg.tape.trans h.tape, hg.output.trans h.output, Nat.le_trans h.size hg.size, fun i hi hn => (hg.block i (Nat.lt_of_lt_of_le hi h.size) (by
    intro e
    simp only [Option.some.injEq] at e
    subst e
    exact hn (hs hi))).trans (h.block i hi hn)⟩
theorem But.alloc {S : Nat → Prop} {w a : World} (h : But S w a) (o : Obj) : But S w (a.alloc o) := h.trans (But.ofBelow ((Below.refl _ _).alloc (Nat.le_refl _) _))
set_option maxHeartbeats 1000000 in
theorem append_any (B g c l q : Nat) (zs ys : List Nd) (HQ : Hid (ys.length = q)) (hq : q ≤ 1048576) (hl : l ≤ 1048576) (bo : Option Addr) (cap : Nat) (w : World) (ho : OwnN w B g c l zs) (hy : Nodes w bo ys) (hd : ∀ b o, bo = some ⟨b, o, none⟩ → b ≠ g) :
    Calls Tryz.prog 25 #[.slice (some ⟨g, 0, none⟩) l c, .slice bo q cap] w fun e w' => ∃ g' c', e = .returned (.slice (some ⟨g', 0, none⟩) (l + q) c') ∧ OwnN w' B g' c' (l + q) (zs ++ ys) ∧ (g' = g ∨ w.heap.size ≤ g') ∧ But (· = g) w w' := by
  obtain ⟨i0, hi, hz0, hz1, hz2⟩ := info_parts Tryz.infoN
  have hgl := (owns_block ho.2).2
  go_enter Tryz.func25, Tryz.ntmps25
  go_wp2
  go_loopw [0, 5] (fun v p wr => ∃ (k g' c' : Nat), k ≤ q ∧ p = .int .i64 k ∧ v = .slice (some ⟨g', 0, none⟩) (l + k) c' ∧ OwnN wr B g' c' (l + k) (zs ++ ys.take k) ∧ (g' = g ∨ w.heap.size ≤ g') ∧ But (· = g) w wr) (fun _ p _ => q - (intOf p).toNat)
  case atStart => exact ⟨0, g, c, Nat.zero_le _, rfl, rfl, by simpa using ho, Or.inl rfl, But.refl _ _⟩
  case round =>
    obtain ⟨k, g', c', hk, rfl, rfl, hown, hgg, hb⟩ := hrel
    by_cases hlt : k < q
    · have hltk : k < ys.length := by have := HQ.out; omega
      obtain ⟨b, o, rfl, hn⟩ := (hy.but hb hd) k hltk
      obtain ⟨x, hxk⟩ : ∃ x, ys[k] = x := ⟨_, rfl⟩
      rw [hxk] at hn
      obtain ⟨c0, c1, c2, c3, c4⟩ := hn
      have HT : Hid (zs ++ ys.take (k + 1) = zs ++ ys.take k ++ [x]) := by show zs ++ ys.take (k + 1) = _; rw [List.take_succ_eq_append_getElem hltk, hxk, List.append_assoc]
      have hob := owns_block hown.2
      clear hy hxk ho hd
      go_wp2_with (at_builtin; refine wpList_append2 _ rfl (.tmp 12) (.tmp 17) 23 rfl B 43 i0 _ 5 48 Tryz.underlying23 hi hz0 hz1 hz2 rfl (by decide) g' (l + k) c' _ rfl (hown.alloc _).2 ⟨_, 0, none⟩ 1 1 x.row rfl rfl (nd_new_cells _ x) (nd_row_one x) ?a3 ?a4 ?a5 ?_)
      case a3 => unfold maxLen; omega
      case a4 => omega
      case a5 => have := hb.size; simp; omega
      intro g2 c2' w2 hown2 hgrow2 hwh
      have hO := OwnN.push hown2 hown.1 rfl
      rw [← HT.out] at hO
      have hbb : But (· = g) w w2 := (hb.alloc _).grown hgrow2 (by intro h; rcases hgg with h9 | h9 <;> omega)
      have hg2 : g2 = g ∨ w.heap.size ≤ g2 := by
        have := hb.size
        rcases hwh with h | h
        · rcases hgg with h9 | h9 <;> omega
        · right
          omega
      clear hown2 hgrow2 hwh hown hb c0 c1 c2 c3 c4
      go_wp2
      go_roundw
      case rel => exact ⟨k + 1, g2, c2', by omega, by go_num, rfl, hO, hg2, hbb⟩
      case measure => simp [intOf]; omega
    · have hke : k = q := by omega
      subst hke
      rw [List.take_of_length_le (by have := HQ.out; omega)] at hown
      clear hy ho hd
      go_wp2
      go_ret
      exact ⟨_, _, rfl, hown, hgg, hb⟩
def putSub (bs : List (Int × List Nd)) (n : Nd) : List Nd := if n.kind = 61 then ((bs[placeIn (bs.map Prod.fst) n.num]?).map Prod.snd).getD [n] else [n]
def putAll (bs : List (Int × List Nd)) (t : List Nd) : List Nd := t.flatMap (putSub bs)
def putOf (bs : List (Int × List Nd)) (t : List Nd) : List Nd := if typeb t = true ∧ (∀ b ∈ bs, typeb b.2 = true) ∧ (putAll bs t).length ≤ 300 then putAll bs t else []
theorem putAll_take (bs : List (Int × List Nd)) (t : List Nd) (k : Nat) (h : k < t.length) : putAll bs (t.take (k + 1)) = putAll bs (t.take k) ++ putSub bs t[k] := by
  rw [List.take_succ_eq_append_getElem h]
  simp only [putAll, List.flatMap_append, List.flatMap_cons, List.flatMap_nil, List.append_nil]
theorem putAll_le (bs : List (Int × List Nd)) (t : List Nd) (k : Nat) : (putAll bs (t.take k)).length ≤ (putAll bs t).length := by
  have e : putAll bs t = putAll bs (t.take k) ++ putAll bs (t.drop k) := by
    conv => lhs; rw [← List.take_append_drop k t]
    simp only [putAll, List.flatMap_append]
  rw [e]
  simp
theorem typeb_pos {t : List Nd} (h : typeb t = true) : 0 < t.length := by
  simp only [typeb, Bool.and_eq_true, decide_eq_true_eq] at h
  by_cases h0 : t.length = 0
  · have := deepOf_nil h0
    omega
  · omega
theorem typeb_len {t : List Nd} (h : typeb t = true) : t.length ≤ 300 := by
  simp only [typeb, Bool.and_eq_true, decide_eq_true_eq] at h
  exact h.1.1
theorem own_cap {w : World} {B g c l : Nat} {zs : List Nd} (h : OwnN w B g c l zs) : l ≤ c := by
  obtain ⟨_, ho⟩ := h
  rcases ho.2 with ⟨h', _⟩ | ⟨g2, cap2, cur, he, _, _, hc, _⟩
  · cases h'
  · simp only [Value.slice.injEq, Option.some.injEq, Addr.mk.injEq, and_true, true_and] at he
    obtain ⟨rfl, rfl⟩ := he
    exact hc
set_option maxRecDepth 100000 in
set_option maxHeartbeats 2000000 in
theorem specPutC_any (bs : List (Int × List Nd)) (n : Nat) (HN : Hid (bs.length = n)) (hn : n ≤ 1048576) (hm : ∀ b ∈ bs, b.2.length ≤ 1048576) (t : List Nd) (m : Nat) (HM : Hid (t.length = m)) (hml : m ≤ 1048576) (ao bo : Option Addr) (ca cb : Nat) (w : World) (hbs : Binds w ao bs) (hx : Nodes w bo t) :
    Calls Tryz.prog 8 #[.slice ao n ca, .slice bo m cb] w fun e w' => ∃ g c l, e = .returned (.slice (some ⟨g, 0, none⟩) l c) ∧ w.heap.size ≤ g ∧ (putOf bs t).length = l ∧ Row w' g (putOf bs t) ∧ Below w.heap.size w w' ∧ l ≤ c := by
  obtain ⟨i0, hi, hz0, hz1, hz2⟩ := info_parts Tryz.infoN
  go_enter Tryz.func8, Tryz.ntmps8
  have hA : Below w.heap.size w (w.alloc (.cells #[] 43)) := (Below.refl _ w).alloc (Nat.le_refl _) _
  have hO := OwnN.empty (w := w) (B := w.heap.size) (Nat.le_refl _)
  go_wp2_with fail
  refine (isType_any t m HM hml bo cb _ (hx.below hA)).mono ?_
  rintro e w1 ⟨rfl, hb1⟩
  have hO1 := hO.below hb1
  have hb := Below.step hA hb1
  clear hO hA hb1
  cases ht : typeb t
  · have HV : Hid (putOf bs t = []) := by
      show putOf bs t = []
      unfold putOf
      rw [if_neg (fun h => by rw [ht] at h; exact absurd h.1 (by decide))]
    have hcp := own_cap hO1
    obtain ⟨hg, hr⟩ := hO1.row
    clear hO1 hx hbs hm
    go_wp2
    go_ret
    exact ⟨_, _, _, rfl, hg, by rw [HV.out]; rfl, by rw [HV.out]; exact hr, hb, hcp⟩
  · have h3 : m ≤ 300 := by have := typeb_len ht; have := HM.out; omega
    have HT : Hid (typeb t = true) := ht
    clear ht
    go_wp2
    go_loopw [6] (fun p wr => ∃ (k : Nat), k ≤ n ∧ p = .int .i64 k ∧ (∀ b ∈ bs.take k, typeb b.2 = true) ∧ OwnN wr w.heap.size w.heap.size 0 0 [] ∧ Below w.heap.size w wr) (fun p _ => n - (intOf p).toNat)
    case atStart => exact ⟨0, Nat.zero_le _, rfl, by simp, hO1, hb⟩
    case round =>
      clear hO1 hb
      obtain ⟨k, hk, rfl, hall, hnone, hb⟩ := hrel
      by_cases hlt : k < n
      · have hltk : k < bs.length := by have := HN.out; omega
        obtain ⟨b, o, ai, ci, rfl, hc0, hc, hnd⟩ := hbs.below hb k hltk
        have hmk := hm bs[k] (List.getElem_mem hltk)
        have HS : Hid (typeb bs[k].2 = true → ∀ b ∈ bs.take (k + 1), typeb b.2 = true) := by
          intro h9 b hb9
          rw [List.take_succ_eq_append_getElem hltk] at hb9
          rcases List.mem_append.1 hb9 with h8 | h8
          · exact hall b h8
          · simp at h8
            subst h8
            exact h9
        have HF : Hid (typeb bs[k].2 = false → putOf bs t = []) := by
          intro h9
          unfold putOf
          rw [if_neg (fun h => by have := h.2.1 bs[k] (List.getElem_mem hltk); rw [h9] at this; exact absurd this (by decide))]
        obtain ⟨⟨bn, ks⟩, hks⟩ : ∃ p, bs[k] = p := ⟨_, rfl⟩
        rw [hks] at hc hnd hmk hc0 HS HF
        simp only at hc hnd hmk hc0 HS HF
        obtain ⟨l, hl⟩ : ∃ l, ks.length = l := ⟨_, rfl⟩
        have HL : Hid (ks.length = l) := hl
        rw [hl] at hc hmk
        have hlb : b < wr.heap.size := lt_of_cell hc
        clear hbs hx hm hks hl hall
        go_wp2_with fail
        refine (isType_any ks l HL hmk ai ci wr hnd).mono ?_
        rintro e w2 ⟨rfl, hb2⟩
        have hnone2 := hnone.below hb2
        have hbb := Below.step hb hb2
        clear hnone hb hb2 hc hc0 hnd
        cases hty : typeb ks
        · have HV : Hid (putOf bs t = []) := HF.out hty
          have hcp := own_cap hnone2
          obtain ⟨hg, hr⟩ := hnone2.row
          clear hnone2
          go_wp2
          go_ret
          exact ⟨_, _, _, rfl, hg, by rw [HV.out]; rfl, by rw [HV.out]; exact hr, hbb, hcp⟩
        · have HA : Hid (∀ b ∈ bs.take (k + 1), typeb b.2 = true) := HS.out hty
          go_wp2
          go_roundw
          case rel => exact ⟨k + 1, by omega, by go_num, HA.out, hnone2, hbb⟩
          case measure => simp [intOf]; omega
      · have HA : Hid (∀ b ∈ bs, typeb b.2 = true) := by
          have h9 := hall
          rw [List.take_of_length_le (by have := HN.out; omega)] at h9
          exact h9
        have HV : Hid (putOf bs t = if (putAll bs t).length ≤ 300 then putAll bs t else []) := by
          show putOf bs t = _
          unfold putOf
          by_cases hle : (putAll bs t).length ≤ 300
          · rw [if_pos ⟨HT.out, HA.out, hle⟩, if_pos hle]
          · rw [if_neg (fun h => hle h.2.2), if_neg hle]
        have hO3 := OwnN.empty (w := wr) (B := w.heap.size) hb.size
        have hN3 := hnone.alloc (.cells #[] 43)
        have hb3 := hb.alloc hb.size (.cells #[] 43)
        have hnb := (owns_block hnone.2).2
        clear hall hnone hb
        go_wp2
        go_loopw [7, 8] (fun v p wq => ∃ (k g c l : Nat), k ≤ m ∧ p = .int .i64 k ∧ v = .slice (some ⟨g, 0, none⟩) l c ∧ l ≤ 300 ∧ OwnN wq w.heap.size g c l (putAll bs (t.take k)) ∧ g ≠ w.heap.size ∧ OwnN wq w.heap.size w.heap.size 0 0 [] ∧ Below w.heap.size w wq) (fun _ p _ => m - (intOf p).toNat)
        case atStart => exact ⟨0, wr.heap.size, 0, 0, Nat.zero_le _, rfl, rfl, by omega, by simpa [putAll] using hO3, by omega, hN3, hb3⟩
        case round =>
          clear hO3 hN3 hb3 hnb
          obtain ⟨k, g, c, l, hk, rfl, rfl, hl3, hown, hne, hnone, hb⟩ := hrel
          by_cases hlt : k < m
          · have hltx : k < t.length := by have := HM.out; omega
            obtain ⟨⟨kd, nm, tx, ks, pl⟩, hxk⟩ : ∃ x, t[k] = x := ⟨_, rfl⟩
            obtain ⟨b, o, rfl, hcx⟩ := hx.below hb k hltx
            rw [hxk] at hcx
            obtain ⟨c0, c1, c2, c3, c4⟩ := hcx
            simp only at c0 c1 c2 c3 c4
            have hlb : b < wr.heap.size := lt_of_cell c0
            have hob := owns_block hown.2
            have HS : Hid (putAll bs (t.take (k + 1)) = putAll bs (t.take k) ++ putSub bs ⟨kd, nm, tx, ks, pl⟩) := by
              show putAll bs (t.take (k + 1)) = _
              rw [putAll_take bs t k hltx, hxk]
            have HE : Hid (300 < (putAll bs (t.take (k + 1))).length → putOf bs t = []) := by
              intro h9
              have h8 := putAll_le bs t (k + 1)
              rw [HV.out, if_neg (by omega)]
            generalize putAll bs (t.take k) = acc at *
            clear hxk
            by_cases h61 : kd = 61
            · subst h61
              have hbd := hbs.below hb
              go_wp2_with fail
              refine (bound_any bs n HN hn nm ao ca wr hbd).mono ?_
              rintro e w3 ⟨rfl, hb3⟩
              have hown3 := hown.below hb3
              have hnone3 := hnone.below hb3
              have hbb3 := Below.step hb hb3
              have hob := owns_block hown3.2
              obtain ⟨d0, d1, d2, d3, d4⟩ : NodeAt w3 b (o + k * 5) ⟨61, nm, tx, ks, pl⟩ := NodeAt.below ⟨c0, c1, c2, c3, c4⟩ hb3
              simp only at d0 d1 d2 d3 d4
              have hlb3 : b < w3.heap.size := lt_of_cell d0
              clear hown hnone c0 c1 c2 c3 c4 hlb
              by_cases hpl : placeIn (bs.map Prod.fst) nm < bs.length
              · obtain ⟨i, hie⟩ : ∃ i, placeIn (bs.map Prod.fst) nm = i := ⟨_, rfl⟩
                rw [hie] at hpl
                have HBI : Hid (boundIn bs nm = (i : Int)) := by
                  show boundIn bs nm = _
                  unfold boundIn
                  rw [hie, if_pos hpl]
                have hti := HA.out bs[i] (List.getElem_mem hpl)
                have HP : Hid (putSub bs ⟨61, nm, tx, ks, pl⟩ = bs[i].2) := by
                  show putSub bs _ = _
                  simp [putSub, hie, List.getElem?_eq_getElem hpl]
                obtain ⟨b9, o9, ai, ci, rfl, _, hcc0, hnn0⟩ := hbs i hpl
                have hcc := (hbb3.cell (p := ⟨b9, o9 + i * 2 + 1, none⟩) (lt_of_cell hcc0)).trans hcc0
                have hnn := hnn0.below hbb3
                have hdd : ∀ b o, ai = some ⟨b, o, none⟩ → b ≠ g := by
                  intro b8 o8 e8
                  obtain ⟨b7, o7, e7, hn7⟩ := hnn0 0 (typeb_pos hti)
                  rw [e7] at e8
                  simp only [Option.some.injEq, Addr.mk.injEq, and_true] at e8
                  have h6 : b7 < w.heap.size := lt_of_cell hn7.1
                  omega
                obtain ⟨ys, hys⟩ : ∃ ys, bs[i].2 = ys := ⟨_, rfl⟩
                rw [hys] at hcc hnn HP hti
                obtain ⟨q, hq⟩ : ∃ q, ys.length = q := ⟨_, rfl⟩
                have HQ : Hid (ys.length = q) := hq
                have hq3 : q ≤ 300 := by have := typeb_len hti; omega
                have hin : i < n := by have := HN.out; omega
                have hl9 : b9 < w3.heap.size := lt_of_cell hcc
                rw [hq] at hcc
                rw [HP.out] at HS
                rw [HBI.out]
                clear hnn0 hcc0 hti hys hq hie HP hbd
                go_wp2_with fail
                refine (append_any w.heap.size g c l q acc ys HQ (by omega) (by omega) ai ci w3 hown3 hnn hdd).mono ?_
                rintro e w4 ⟨g2, c2', rfl, hO, hg2, hbu⟩
                have hbb : Below w.heap.size w w4 := hbb3.trans (hbu.below hbb3.size (fun q hq => by omega))
                have hN := hnone3.but hbu (Ne.symm hne)
                have hne2 : g2 ≠ w.heap.size := by have := hbb3.size; have := (owns_block hnone3.2).2; omega
                rw [← HS.out] at hO
                have HLn : Hid ((putAll bs (t.take (k + 1))).length = l + q) := hO.1
                clear hown3 hnone3 hbb3 hbu hnn hcc hdd d0 d1 d2 d3 d4 hx hbs hm hb hb3
                by_cases h300 : l + q ≤ 300
                · have tl : decide (((l : Int) + (q : Int)) > 300) = false := decide_eq_false (by omega)
                  go_wp2
                  go_roundw
                  case rel => exact ⟨k + 1, g2, c2', l + q, by omega, by go_num, rfl, h300, hO, hne2, hN, hbb⟩
                  case measure => simp [intOf]; omega
                · have tl : decide (((l : Int) + (q : Int)) > 300) = true := decide_eq_true (by omega)
                  have HW : Hid (putOf bs t = []) := HE.out (by have := HLn.out; omega)
                  have hcp := own_cap hN
                  obtain ⟨hg, hr⟩ := hN.row
                  clear hO hN
                  go_wp2
                  go_ret
                  exact ⟨_, _, _, rfl, hg, by rw [HW.out]; rfl, by rw [HW.out]; exact hr, hbb, hcp⟩
              · have HBI : Hid (boundIn bs nm = -1) := by
                  show boundIn bs nm = _
                  unfold boundIn
                  rw [if_neg hpl]
                have HP : Hid (putSub bs ⟨61, nm, tx, ks, pl⟩ = [⟨61, nm, tx, ks, pl⟩]) := by
                  show putSub bs _ = _
                  simp only [putSub]
                  rw [if_pos trivial, List.getElem?_eq_none (by omega)]
                  rfl
                rw [HP.out] at HS
                rw [HBI.out]
                clear HP hpl hbd hb hb3
                have hcells := nd_new_cells w3 ⟨61, nm, tx, ks, pl⟩
                go_wp2_with (at_builtin; refine wpList_append2 _ rfl (.tmp 58) (.tmp 63) 23 rfl w.heap.size 43 i0 _ 5 48 Tryz.underlying23 hi hz0 hz1 hz2 rfl (by decide) g l c _ rfl (hown3.alloc _).2 ⟨_, 0, none⟩ 1 1 (Nd.row ⟨61, nm, tx, ks, pl⟩) rfl rfl hcells (nd_row_one _) ?a3 ?a4 ?a5 ?_)
                case a3 => unfold maxLen; omega
                case a4 => omega
                case a5 => have := hbb3.size; simp; omega
                intro g2 c2' w2 hown4 hgrow2 hwh
                have hO := OwnN.push hown4 hown3.1 rfl
                have hbb : Below w.heap.size w w2 := (hbb3.alloc hbb3.size _).grown hgrow2 (by have := hbb3.size; simp; omega) (fun q hq => by cases hq; exact hob.1)
                have hN := (hnone3.alloc _).kept hgrow2 (Ne.symm hne)
                have hne2 : g2 ≠ w.heap.size := by have := (owns_block hnone3.2).2; rcases hwh with h | h <;> (try simp at h) <;> omega
                rw [← HS.out] at hO
                have HLn : Hid ((putAll bs (t.take (k + 1))).length = l + 1) := hO.1
                clear hown4 hgrow2 hwh hown3 hnone3 hbb3 hcells d0 d1 d2 d3 d4 hx hbs hm
                by_cases h300 : l + 1 ≤ 300
                · have tl : decide (((l : Int) + 1) > 300) = false := decide_eq_false (by omega)
                  go_wp2
                  go_roundw
                  case rel => exact ⟨k + 1, g2, c2', l + 1, by omega, by go_num, rfl, h300, hO, hne2, hN, hbb⟩
                  case measure => simp [intOf]; omega
                · have tl : decide (((l : Int) + 1) > 300) = true := decide_eq_true (by omega)
                  have HW : Hid (putOf bs t = []) := HE.out (by have := HLn.out; omega)
                  have hcp := own_cap hN
                  obtain ⟨hg, hr⟩ := hN.row
                  clear hO hN
                  go_wp2
                  go_ret
                  exact ⟨_, _, _, rfl, hg, by rw [HW.out]; rfl, by rw [HW.out]; exact hr, hbb, hcp⟩
            · have t61 : ((kd : Int) == 61) = false := by simpa using h61
              have HP : Hid (putSub bs ⟨kd, nm, tx, ks, pl⟩ = [⟨kd, nm, tx, ks, pl⟩]) := by
                show putSub bs _ = _
                simp [putSub, h61]
              rw [HP.out] at HS
              clear h61 HP
              have hcells := nd_new_cells wr ⟨kd, nm, tx, ks, pl⟩
              go_wp2_with (at_builtin; refine wpList_append2 _ rfl (.tmp 58) (.tmp 63) 23 rfl w.heap.size 43 i0 _ 5 48 Tryz.underlying23 hi hz0 hz1 hz2 rfl (by decide) g l c _ rfl (hown.alloc _).2 ⟨_, 0, none⟩ 1 1 (Nd.row ⟨kd, nm, tx, ks, pl⟩) rfl rfl hcells (nd_row_one _) ?a3 ?a4 ?a5 ?_)
              case a3 => unfold maxLen; omega
              case a4 => omega
              case a5 => have := hb.size; simp; omega
              intro g2 c2' w2 hown4 hgrow2 hwh
              have hO := OwnN.push hown4 hown.1 rfl
              have hbb : Below w.heap.size w w2 := (hb.alloc hb.size _).grown hgrow2 (by have := hb.size; simp; omega) (fun q hq => by cases hq; exact hob.1)
              have hN := (hnone.alloc _).kept hgrow2 (Ne.symm hne)
              have hne2 : g2 ≠ w.heap.size := by have := (owns_block hnone.2).2; rcases hwh with h | h <;> (try simp at h) <;> omega
              rw [← HS.out] at hO
              have HLn : Hid ((putAll bs (t.take (k + 1))).length = l + 1) := hO.1
              clear hown4 hgrow2 hwh hown hnone hb hcells c0 c1 c2 c3 c4 hx hbs hm
              by_cases h300 : l + 1 ≤ 300
              · have tl : decide (((l : Int) + 1) > 300) = false := decide_eq_false (by omega)
                go_wp2
                go_roundw
                case rel => exact ⟨k + 1, g2, c2', l + 1, by omega, by go_num, rfl, h300, hO, hne2, hN, hbb⟩
                case measure => simp [intOf]; omega
              · have tl : decide (((l : Int) + 1) > 300) = true := decide_eq_true (by omega)
                have HW : Hid (putOf bs t = []) := HE.out (by have := HLn.out; omega)
                have hcp := own_cap hN
                obtain ⟨hg, hr⟩ := hN.row
                clear hO hN
                go_wp2
                go_ret
                exact ⟨_, _, _, rfl, hg, by rw [HW.out]; rfl, by rw [HW.out]; exact hr, hbb, hcp⟩
          · have hke : k = m := by omega
            subst hke
            rw [List.take_of_length_le (by have := HM.out; omega)] at hown
            have HW : Hid (putOf bs t = putAll bs t) := by
              show putOf bs t = _
              rw [HV.out, if_pos (by have := hown.1; omega)]
            have hcp := own_cap hown
            obtain ⟨hg, hr⟩ := hown.row
            have HL : Hid ((putAll bs t).length = l) := hown.1
            clear hown hnone hx hbs hm
            go_wp2
            go_ret
            exact ⟨_, _, _, rfl, hg, by rw [HW.out]; exact HL.out, by rw [HW.out]; exact hr, hb, hcp⟩
theorem specPut_any (bs : List (Int × List Nd)) (n : Nat) (HN : Hid (bs.length = n)) (hn : n ≤ 1048576) (hm : ∀ b ∈ bs, b.2.length ≤ 1048576) (t : List Nd) (m : Nat) (HM : Hid (t.length = m)) (hml : m ≤ 1048576) (ao bo : Option Addr) (ca cb : Nat) (w : World) (hbs : Binds w ao bs) (hx : Nodes w bo t) :
    Calls Tryz.prog 8 #[.slice ao n ca, .slice bo m cb] w fun e w' => ∃ g c l, e = .returned (.slice (some ⟨g, 0, none⟩) l c) ∧ w.heap.size ≤ g ∧ (putOf bs t).length = l ∧ Row w' g (putOf bs t) ∧ Below w.heap.size w w' := (specPutC_any bs n HN hn hm t m HM hml ao bo ca cb w hbs hx).mono fun _ _ ⟨g, c, l, h1, h2, h3, h4, h5, _⟩ => ⟨g, c, l, h1, h2, h3, h4, h5⟩
end Go.Proofs.YtoiiibplkhedcaaGreatDoor

namespace Go.Proofs.YtoiiibplkhedcaaGreatDoor
open Go.RowKit
def OwnBs (w : World) (B g c l : Nat) (ps : List (Value × Value)) : Prop := ps.length = l ∧ w.ownsRow B 54 2 (.slice (some ⟨g, 0, none⟩) l c) l (cells2 ps)
theorem OwnBs.row {w : World} {B g c l : Nat} {ps : List (Value × Value)} (h : OwnBs w B g c l ps) : B ≤ g ∧ OwnB w g ps := by
  obtain ⟨hl, ho⟩ := h
  rcases ho.2 with ⟨h', _⟩ | ⟨g2, cap2, cur, he, hb, hh, _, _, _, htake⟩
  · cases h'
  · simp only [Value.slice.injEq, Option.some.injEq, Addr.mk.injEq, and_true, true_and] at he
    obtain ⟨rfl, rfl⟩ := he
    exact ⟨hb, cur, cur.toList.drop (l * 2), hh, by rw [← htake, List.take_append_drop]⟩
theorem OwnBs.empty {w : World} {B : Nat} (hB : B ≤ w.heap.size) : OwnBs (w.alloc (.cells #[] 54)) B w.heap.size 0 0 [] :=
  ⟨rfl, rfl, Or.inr ⟨_, 0, #[], rfl, hB, heap_alloc_new _ _, Nat.le_refl _, by simp [maxLen], rfl, rfl⟩⟩
theorem OwnBs.alloc {w : World} {B g c l : Nat} {ps : List (Value × Value)} (h : OwnBs w B g c l ps) (o : Obj) : OwnBs (w.alloc o) B g c l ps := ⟨h.1, h.2.alloc o⟩
theorem OwnBs.but {S : Nat → Prop} {w w' : World} {B g c l : Nat} {ps : List (Value × Value)} (h : OwnBs w B g c l ps) (hb : But S w w') (hn : ¬ S g) : OwnBs w' B g c l ps := ⟨h.1, owns_but h.2 hb hn⟩
theorem OwnBs.below {w w' : World} {B g c l : Nat} {ps : List (Value × Value)} (h : OwnBs w B g c l ps) (hb : Below w.heap.size w w') : OwnBs w' B g c l ps := h.but (S := fun _ => False) (But.ofBelow hb) (fun h => h)
theorem OwnBs.push {w : World} {B g c l m : Nat} {ps : List (Value × Value)} {x : Value × Value} (h : w.ownsRow B 54 2 (.slice (some ⟨g, 0, none⟩) m c) m (cells2 ps ++ [x.1, x.2])) (hl : ps.length = l) (hm : m = l + 1) : OwnBs w B g c (l + 1) (ps ++ [x]) := by
  subst hm
  refine ⟨by simp [hl], ?_⟩
  rw [cells2_append]
  exact h
theorem bind_cells (w : World) (a : Int) (v : Value) : ∀ j u, [Value.int .i64 a, v][j]? = some u → (w.alloc (.cells #[.int .i64 a, v] 54)).cell? (Addr.add ⟨w.heap.size, 0, none⟩ j) = some u := by
  intro j u hj
  have ad : Addr.add ⟨w.heap.size, 0, none⟩ j = ⟨w.heap.size, j, none⟩ := by
    unfold Addr.add
    split
    · simp_all
    · simp
  rw [ad, cell_of_row _ w.heap.size j _ 54 (0, 0) (heap_alloc_new _ _), ← hj]
  simp
theorem bind_one (a : Int) (ao : Option Addr) (l c : Nat) : ∀ u ∈ [Value.int .i64 a, .slice ao l c], u.oneCell' = true := by
  intro u hu
  simp at hu
  rcases hu with rfl | rfl <;> rfl
theorem Row.kept {w w' : World} {g k : Nat} {ys : List Nd} (h : Row w g ys) (hg : w.grownBy w' (some k)) (hne : g ≠ k) : Row w' g ys := by
  have hlt := h.lt
  obtain ⟨cur, rest, hc, he⟩ := h
  exact ⟨cur, rest, (hg.block g hlt (by simpa using hne)).trans hc, he⟩
theorem TwoR.snoc {w w' : World} {g g' gp cp : Nat} {rs : List (Nat × Nat)} {bs : List (Int × List Nd)} {x : Int} {Y : List Nd} (h : TwoR w g rs bs) (ho : OwnB w' g' (leadR rs bs ++ [(.int .i64 x, .slice (some ⟨gp, 0, none⟩) Y.length cp)]))
    (hr : ∀ i (h : i < rs.length) (h' : i < bs.length), Row w' rs[i].1 bs[i].2) (hy : Row w' gp Y) (hne : ∀ r ∈ rs, r.1 ≠ gp) : TwoR w' g' (rs ++ [(gp, cp)]) (bs ++ [(x, Y)]) := by
  refine ⟨by simp [h.len], ?_, ?_, ?_⟩
  · have e : leadR (rs ++ [(gp, cp)]) (bs ++ [(x, Y)]) = leadR rs bs ++ [(.int .i64 x, .slice (some ⟨gp, 0, none⟩) Y.length cp)] := by
      unfold leadR
      rw [List.zipWith_append h.len]
      rfl
    rw [e]
    exact ho
  · intro i h1 h2
    by_cases hi : i < rs.length
    · have hi' : i < bs.length := by have := h.len; omega
      rw [List.getElem_append_left hi, List.getElem_append_left hi']
      exact hr i hi hi'
    · have hl := h.len
      have e : i = rs.length := by simp at h1; omega
      subst e
      rw [List.getElem_append_right (Nat.le_refl _), List.getElem_append_right (by omega)]
      simpa using hy
  · rw [List.map_append, List.nodup_append]
    refine ⟨h.nodup, by simp, ?_⟩
    intro a ha b hb
    simp at hb
    subst hb
    obtain ⟨r, hr1, rfl⟩ := List.mem_map.1 ha
    exact hne r hr1
theorem insM_mem' (out : List (Int × Int)) (x z : Int × Int) : z ∈ insM out x → z = x ∨ z ∈ out := by
  have hR : ∀ l : List (Int × Int), z ∈ insR x l → z = x ∨ z ∈ l := by
    intro l
    induction l with
    | nil => simp [insR]
    | cons y ys ih =>
      unfold insR
      split
      · intro h
        rcases List.mem_cons.1 h with h | h
        · exact Or.inr (by simp [h])
        · rcases ih h with h | h
          · exact Or.inl h
          · exact Or.inr (List.mem_cons_of_mem _ h)
      · intro h
        rcases List.mem_cons.1 h with h | h
        · exact Or.inl h
        · exact Or.inr h
  intro h
  rcases hR _ (List.mem_reverse.1 h) with h | h
  · exact Or.inl h
  · exact Or.inr (List.mem_reverse.1 h)
theorem sortedM_mem (ms : List (Int × Int)) (z : Int × Int) : z ∈ sortedM ms → z ∈ ms := by
  have : ∀ out, z ∈ ms.foldl insM out → z ∈ out ∨ z ∈ ms := by
    induction ms with
    | nil => intro out h; exact Or.inl h
    | cons m ms ih =>
      intro out h
      rw [List.foldl_cons] at h
      rcases ih _ h with h | h
      · rcases insM_mem' _ _ _ h with h | h
        · exact Or.inr (by simp [h])
        · exact Or.inl h
      · exact Or.inr (List.mem_cons_of_mem _ h)
  intro h
  rcases this [] h with h | h
  · simp at h
  · exact h
theorem placeIn_mem {xs : List Int} {x : Int} (h : x ∈ xs) : placeIn xs x < xs.length := by
  unfold placeIn
  exact List.findIdx_lt_length_of_exists ⟨x, h, by simp⟩
end Go.Proofs.YtoiiibplkhedcaaGreatDoor
