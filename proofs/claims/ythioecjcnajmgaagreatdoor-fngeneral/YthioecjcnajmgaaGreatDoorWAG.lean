import Derived.Test.YthioecjcnajmgaaGreatDoorWAF
import Derived.Test.YthioecjcnajmgaaGreatDoorWAA
import Derived.Test.YthioecjcnajmgaaGreatDoorWAE
namespace Go.Proofs.YthioecjcnajmgaaGreatDoor

open Go.RowKit

theorem Ints.set {w : World} {B g cap n : Nat} {xs : List Int} (h : Ints w B g cap n xs) (j : Nat) (x : Int) : Ints (w.setCell ⟨g, j, none⟩ (.int .i64 x)) B g cap n (xs.set j x) := by
  refine ⟨by simp [h.1], ?_⟩
  have := (h.2.stored j (.int .i64 x)).1
  simpa [ints, List.map_set] using this

theorem Ints.frozen {w : World} {B g cap n : Nat} {xs : List Int} (h : Ints w B g cap n xs) (j : Nat) : w.frozen? ⟨g, j, none⟩ = false := h.2.frozenAt j

def rts (K : List Sp) : List Int := K.map fun s => (s.rt : Int)

theorem roots_step (K : List Sp) (r : Nat) (h : 0 < r) (hr : r ≤ K.length) :
    (List.replicate r (0 : Int) ++ rts (K.drop r)).set (r - 1) ((K[r - 1]'(by omega)).rt : Int) = List.replicate (r - 1) (0 : Int) ++ rts (K.drop (r - 1)) := by
  obtain ⟨r', rfl⟩ : ∃ r', r = r' + 1 := ⟨r - 1, by omega⟩
  simp only [Nat.add_sub_cancel]
  rw [List.replicate_succ', List.append_assoc, List.set_append_right _ _ (by simp)]
  have e : r' - (List.replicate r' (0 : Int)).length = 0 := by simp
  rw [e, List.drop_eq_getElem_cons (show r' < K.length by omega)]
  rfl

theorem make_ints (n : Nat) (h : n ≤ 1048576) (w : World) :
    (Instr.makeSlice 53 (.int .i64 (n : Int)) (.int .i64 (n : Int))).run Tryz.prog w = .ok (.slice (some ⟨w.heap.size, 0, none⟩) n n) (w.alloc (.cells (madeCells #[.int .i64 0] n) 3)) :=
  run_make_row' (P := Tryz.prog) 53 3 (.int .i64 0) 8 Tryz.underlying53 Tryz.infoI rfl .i64 .i64 n (by omega) (by omega) w

theorem made_ints (n : Nat) : (madeCells #[Value.int .i64 0] n).toList = ints (List.replicate n 0) := by
  apply List.ext_getElem?
  intro j
  by_cases hj : j < n
  · simp only [madeCells, Array.toList_map, List.getElem?_map, Array.toList_range, ints]
    rw [List.getElem?_range hj, List.getElem?_replicate, if_pos hj]
    simp [Nat.mod_one]
  · rw [List.getElem?_eq_none (by simp [madeCells]; omega), List.getElem?_eq_none (by simp [ints]; omega)]

theorem Ints.made {w : World} {B n : Nat} (hB : B ≤ w.heap.size) (hn : n ≤ 1048576) : Ints (w.alloc (.cells (madeCells #[.int .i64 0] n) 3)) B w.heap.size n n (List.replicate n 0) := by
  refine ⟨by simp, by simp [ints], Or.inr ⟨_, n, _, rfl, hB, heap_alloc_new _ _, Nat.le_refl _, by unfold maxLen; omega, ?_, ?_⟩⟩
  · simp [madeCells]
  · rw [made_ints, List.take_of_length_le (by simp [ints])]

/-- The kids of node i: their places. -/
structure KidsAt (t : List Nd) (ys : List Sp) (i : Nat) (K : List Sp) : Prop where
  num : ∃ h : i < t.length, t[i].kids = (K.length : Int)
  last : ∀ h : 0 < K.length, (K[K.length - 1]'(by omega)).rt + 1 = i
  next : ∀ r (h : 0 < r) (h' : r < K.length), (K[r - 1]'(by omega)).rt + 1 = K[r].fr
  mem : ∀ r (h : r < K.length), ys[K[r].rt]? = some K[r] ∧ K[r].fr ≤ K[r].rt ∧ K[r].rt < i
  dp : ∃ h : i < ys.length, ys[i].dp = dpOf K
  len : K.length ≤ i

theorem kids_atS {t : List Nd} {S ys : List Sp} {n : Nat} (h : after t n = some (S, ys)) (i : Nat) (hi : i < n) : ∃ Si, after t i = some (Si, ys.take i) ∧ ∃ hk : i < t.length, KidsAt t ys i (Si.drop (Si.length - t[i].kids.toNat)) := by
  obtain ⟨Si, hSi⟩ := after_part h i (by omega)
  obtain ⟨Sj, hSj⟩ := after_part h (i + 1) (by omega)
  obtain ⟨S0, ys0, s, hk, ha, hs, he⟩ := after_inv hSj
  rw [hSi] at ha
  simp only [Option.some.injEq, Prod.mk.injEq] at ha
  obtain ⟨rfl, rfl⟩ := ha
  have hf := after_fine hSi
  have hfn := (after_fine h).len
  obtain ⟨h0, h1, _, hov⟩ := step_some hs
  obtain ⟨f, hf'⟩ : ∃ f, f = Si.length - t[i].kids.toNat := ⟨_, rfl⟩
  rw [← hf'] at hov
  have hlen : (Si.drop f).length = t[i].kids.toNat := by simp; omega
  have hget : ∀ r (h : r < (Si.drop f).length), (Si.drop f)[r] = Si[f + r]'(by simp at h; omega) := fun r h => List.getElem_drop
  refine ⟨Si, hSi, hk, ?_⟩
  rw [← hf']
  refine ⟨⟨hk, by rw [hlen]; omega⟩, ?_, ?_, ?_, ?_, by have := chain_len hf.chain; simp; omega⟩
  · intro hp
    have h2 := (hf.chain.2.2.1 (by simp at hp; omega)).2
    rw [hget]
    have e : f + ((Si.drop f).length - 1) = Si.length - 1 := by simp at hp ⊢; omega
    simp only [e]
    exact h2
  · intro r hr hr'
    rw [hget, hget]
    have h2 := hf.chain.2.1 (f + (r - 1)) (by simp at hr'; omega)
    have e : f + (r - 1) + 1 = f + r := by omega
    simp only [e] at h2
    exact h2
  · intro r hr
    rw [hget]
    have hlt : f + r < Si.length := by simp at hr; omega
    have h2 := hf.mem (f + r) hlt
    have h3 := hf.chain.1 (f + r) hlt
    have h4 := (List.getElem?_eq_some_iff.1 h2).1
    refine ⟨?_, h3.1, h3.2⟩
    rw [List.getElem?_take] at h2
    rw [if_pos (by simp at h4; omega)] at h2
    exact h2
  · refine ⟨by omega, ?_⟩
    have hyi : ys[i]? = some s := by
      have h5 : (ys.take (i + 1))[i]? = some s := by
        rw [he, List.getElem?_append_right (by simp; omega)]
        have : i - (ys.take i).length = 0 := by simp; omega
        rw [this]
        rfl
      rw [List.getElem?_take, if_pos (by omega)] at h5
      exact h5
    have h6 := (List.getElem?_eq_some_iff.1 hyi).2
    rw [h6, hov]
    rfl

theorem kids_at {t : List Nd} {S ys : List Sp} {n : Nat} (h : after t n = some (S, ys)) (i : Nat) (hi : i < n) : ∃ K, KidsAt t ys i K := by
  obtain ⟨Si, _, _, h9⟩ := kids_atS h i hi
  exact ⟨_, h9⟩

set_option maxHeartbeats 1000000 in
theorem roots60_any (t : List Nd) (ys K : List Sp) (m i q : Nat) (HM : Hid (t.length = m)) (hm : m ≤ 60000) (HK : Hid (KidsAt t ys i K)) (HQ : Hid (K.length = q)) (him : i < m) (HYL : Hid (ys.length = m)) (ao : Option Addr) (cap gz cz B : Nat) (w : World) (hx : Nodes w ao t) (hz : Ints w B gz cz m (ys.map szOf)) :
    Calls Tryz.prog 38 #[.slice ao m cap, .slice (some ⟨gz, 0, none⟩) m cz, .int .i64 (i : Int)] w fun e w' => ∃ G, e = .returned (.slice (some ⟨G, 0, none⟩) q q) ∧ Ints w' w.heap.size G q q (rts K) ∧ Below w.heap.size w w' := by
  have hit : i < t.length := by have := HM.out; omega
  obtain ⟨b, o, rfl, hn⟩ := hx i hit
  obtain ⟨_, _, _, c3, _⟩ := hn
  have hkn : t[i].kids = (q : Int) := by obtain ⟨h, e⟩ := HK.out.num; rw [e, HQ.out]
  rw [hkn] at c3
  have hqm : q ≤ 60000 := by have := HK.out.len; have := HQ.out; omega
  have hmk := make_ints q (by omega)
  clear hx hkn
  go_enter Tryz.func38, Tryz.ntmps38
  go_wp2
  clear hmk
  have hB1 : Below w.heap.size w (w.alloc (.cells (madeCells #[.int .i64 0] q) 3)) := (Below.refl _ w).alloc (Nat.le_refl _) _
  go_loopw [9, 10] (fun av kv wr => ∃ (r : Nat) (a : Int), r ≤ q ∧ kv = .int .i64 ((r : Int) - 1) ∧ av = .int .i64 a ∧ (∀ h : 0 < r, ∀ h' : r - 1 < K.length, a = (K[r - 1].rt : Int)) ∧ -1 ≤ a ∧ a ≤ 60000 ∧
      Ints wr w.heap.size w.heap.size q q (List.replicate r 0 ++ rts (K.drop r)) ∧ Below w.heap.size w wr) (fun _ kv _ => (intOf kv + 1).toNat)
  case atStart =>
    refine ⟨q, (i : Int) - 1, Nat.le_refl _, rfl, rfl, ?_, by omega, by omega, ?_, hB1⟩
    · intro h h'
      have h2 := HK.out.last (by omega)
      have h3 := HQ.out
      simp only [h3] at h2
      omega
    · have h9 := Ints.made (w := w) (B := w.heap.size) (n := q) (Nat.le_refl _) (by omega)
      have e9 : List.replicate q (0 : Int) ++ rts (K.drop q) = List.replicate q 0 := by
        rw [List.drop_eq_nil_of_le (by have := HQ.out; omega)]
        simp [rts]
      rw [e9]
      exact h9
  case round =>
    obtain ⟨r, a, hr, rfl, rfl, ha, ha1, ha2, hints, hb⟩ := hrel
    by_cases hr0 : 0 < r
    · have hrK : r - 1 < K.length := by have := HQ.out; omega
      obtain ⟨s, hs⟩ : ∃ s, K[r - 1] = s := ⟨_, rfl⟩
      have ha' := ha hr0 hrK
      rw [hs] at ha'
      subst ha'
      obtain ⟨hmem, hfr, hrt⟩ := HK.out.mem (r - 1) hrK
      rw [hs] at hmem hfr hrt
      have hrm : s.rt < m := by omega
      have hlz : s.rt < ys.length := by have := HYL.out; omega
      have cz1 : wr.cell? ⟨gz, s.rt, none⟩ = some (.int .i64 ((s.rt : Int) - (s.fr : Int) + 1)) := by
        have h9 := (hz.below hb).at s.rt (by simp; exact hlz)
        have h8 := (List.getElem?_eq_some_iff.1 hmem).2
        rw [h9]
        simp [szOf, h8]
      have HST : Hid ((List.replicate r (0 : Int) ++ rts (K.drop r)).set (r - 1) (s.rt : Int) = List.replicate (r - 1) (0 : Int) ++ rts (K.drop (r - 1))) := by
        have h9 := roots_step K r hr0 (by omega)
        rw [hs] at h9
        exact h9
      have HA : Hid (∀ h : 0 < r - 1, ∀ h' : r - 1 - 1 < K.length, (s.fr : Int) - 1 = (K[r - 1 - 1].rt : Int)) := by
        intro h h'
        have h9 := HK.out.next (r - 1) h hrK
        rw [hs] at h9
        omega
      have hf := hints.frozen (r - 1)
      obtain ⟨v0, hv0⟩ : ∃ v, wr.cell? ⟨w.heap.size, r - 1, none⟩ = some v := ⟨_, hints.at (r - 1) (by have := hints.1; omega)⟩
      have hi2 := hints.set (r - 1) (s.rt : Int)
      rw [HST.out] at hi2
      have hb2 := hb.setCell (p := ⟨w.heap.size, r - 1, none⟩) (Nat.le_refl _) (.int .i64 (s.rt : Int))
      have hgz := (hz.below hb).block
      have hgne : gz ≠ w.heap.size := by have := hz.block; omega
      obtain ⟨r', rfl⟩ : ∃ r', r = r' + 1 := ⟨r - 1, by omega⟩
      simp only [Nat.add_sub_cancel] at *
      clear ha hs hmem hints hb hz hB1
      go_wp2
      go_roundw
      case rel => exact ⟨r', (s.fr : Int) - 1, by omega, rfl, by go_num, HA.out, by omega, by omega, hi2, hb2⟩
      case measure => simp [intOf]
    · have hr00 : r = 0 := by omega
      subst hr00
      have hfin : Ints wr w.heap.size w.heap.size q q (rts K) := by simpa using hints
      clear hints ha hz hB1
      go_wp2
      go_ret
      exact ⟨_, rfl, hfin, hb⟩

theorem roots_any (t : List Nd) (ys K : List Sp) (m i q : Nat) (HM : Hid (t.length = m)) (hm : m ≤ 6000) (HK : Hid (KidsAt t ys i K)) (HQ : Hid (K.length = q)) (him : i < m) (HYL : Hid (ys.length = m)) (ao : Option Addr) (cap gz cz B : Nat) (w : World) (hx : Nodes w ao t) (hz : Ints w B gz cz m (ys.map szOf)) :
    Calls Tryz.prog 38 #[.slice ao m cap, .slice (some ⟨gz, 0, none⟩) m cz, .int .i64 (i : Int)] w fun e w' => ∃ G, e = .returned (.slice (some ⟨G, 0, none⟩) q q) ∧ Ints w' w.heap.size G q q (rts K) ∧ Below w.heap.size w w' :=
  roots60_any t ys K m i q HM (by omega) HK HQ him HYL ao cap gz cz B w hx hz

def dmx (K : List Sp) : Nat := K.foldl (fun d k => max d k.dp) 0

theorem dmx_dpOf (K : List Sp) : dpOf K = dmx K + 1 := by
  unfold dpOf dmx
  have key : ∀ (l : List Sp) (d : Nat), l.foldl (fun d k => max d (k.dp + 1)) (d + 1) = l.foldl (fun d k => max d k.dp) d + 1 := by
    intro l
    induction l with
    | nil => intro d; rfl
    | cons x l ih =>
      intro d
      simp only [List.foldl_cons]
      have e : max (d + 1) (x.dp + 1) = max d x.dp + 1 := by omega
      rw [e]
      exact ih _
  exact key K 0

theorem dmx_take_succ (K : List Sp) (j : Nat) (h : j < K.length) : dmx (K.take (j + 1)) = max (dmx (K.take j)) K[j].dp := by
  unfold dmx
  rw [List.take_succ_eq_append_getElem h, List.foldl_append]
  rfl

def dps (ys : List Sp) : List Int := ys.map fun s => (s.dp : Int)

set_option maxRecDepth 100000 in
set_option maxHeartbeats 2000000 in
theorem depths_any (t : List Nd) (S ys : List Sp) (m : Nat) (HM : Hid (t.length = m)) (hm : m ≤ 6000) (HA : Hid (after t m = some (S, ys))) (ao : Option Addr) (cap gz cz B : Nat) (w : World) (hx : Nodes w ao t) (hz : Ints w B gz cz m (ys.map szOf)) :
    Calls Tryz.prog 67 #[.slice ao m cap, .slice (some ⟨gz, 0, none⟩) m cz] w fun e w' => ∃ g c, e = .returned (.slice (some ⟨g, 0, none⟩) m c) ∧ Ints w' w.heap.size g c m (dps ys) ∧ Below w.heap.size w w' := by
  obtain ⟨i0, hi, hz0, hz1, hz2⟩ := info_parts Tryz.infoI
  have HF : Hid (Fine m S ys) := after_fine HA.out
  have HYL : Hid (ys.length = m) := HF.out.len
  go_enter Tryz.func67, Tryz.ntmps67
  go_wp2
  go_loopw [5, 6] (fun v p wr => ∃ (i g c : Nat), i ≤ m ∧ p = .int .i64 i ∧ v = .slice (some ⟨g, 0, none⟩) i c ∧ Ints wr w.heap.size g c i (dps (ys.take i)) ∧ Below w.heap.size w wr) (fun _ p _ => m - (intOf p).toNat)
  case atStart => exact ⟨0, w.heap.size, 0, Nat.zero_le _, rfl, rfl, Ints.empty (Nat.le_refl _), (Below.refl _ w).alloc (Nat.le_refl _) _⟩
  case round =>
    obtain ⟨i, g, c, him, rfl, rfl, hout, hb⟩ := hrel
    by_cases hlt : i < m
    · obtain ⟨K, hK⟩ := kids_at HA.out i hlt
      obtain ⟨q, hq⟩ : ∃ q, K.length = q := ⟨_, rfl⟩
      have HK : Hid (KidsAt t ys i K) := hK
      have HQ : Hid (K.length = q) := hq
      have hqm : q ≤ 6000 := by have := hK.len; omega
      have hxr := hx.below hb
      have hzr := hz.below hb
      clear hK hq hx hz
      go_wp2_with fail
      refine (roots_any t ys K m i q HM hm HK HQ hlt HYL ao cap gz cz B wr hxr hzr).mono ?_
      rintro e w1 ⟨G, rfl, hroots, hb1⟩
      have hout1 := hout.below hb1
      have hbb := hb.trans (hb1.mono hb.size)
      clear hb hb1 hout hxr hzr
      go_wp2
      go_loop [7, 9] (fun dv kv => ∃ (j : Nat), j ≤ q ∧ kv = .int .i64 j ∧ dv = .int .i64 (dmx (K.take j) : Int)) (fun _ kv => q - (intOf kv).toNat)
      case atStart => exact ⟨0, Nat.zero_le _, rfl, rfl⟩
      case round =>
        obtain ⟨j, hj, rfl, rfl⟩ := hrel
        by_cases hjq : j < q
        · have hjK : j < K.length := by have := HQ.out; omega
          obtain ⟨s, hs⟩ : ∃ s, K[j] = s := ⟨_, rfl⟩
          obtain ⟨hmem, hfr, hrt⟩ := HK.out.mem j hjK
          rw [hs] at hmem hfr hrt
          have cr : w1.cell? ⟨G, j, none⟩ = some (.int .i64 (s.rt : Int)) := by
            rw [hroots.at j (by simp [rts]; exact hjK)]
            simp [rts, hs]
          have co : w1.cell? ⟨g, s.rt, none⟩ = some (.int .i64 (s.dp : Int)) := by
            have hyl : s.rt < (ys.take i).length := by have := HYL.out; simp; omega
            rw [hout1.at s.rt (by simp only [dps, List.length_map]; exact hyl)]
            have h8 := (List.getElem?_eq_some_iff.1 hmem).2
            simp [dps, h8]
          have HD : Hid (dmx (K.take (j + 1)) = max (dmx (K.take j)) s.dp) := by have h9 := dmx_take_succ K j hjK; rw [hs] at h9; exact h9
          obtain ⟨d, hd⟩ : ∃ d, dmx (K.take j) = d := ⟨_, rfl⟩
          have HDD : Hid (dmx (K.take j) = d) := hd
          rw [hd]
          clear hs hmem hroots hout1 hd
          by_cases hgt : d < s.dp
          · go_wp2
            go_round
            case rel => exact ⟨j + 1, by omega, by go_num, by rw [HD.out, HDD.out]; congr 1; omega⟩
            case measure => simp [intOf]; omega
          · go_wp2
            go_round
            case rel => exact ⟨j + 1, by omega, by go_num, by rw [HD.out, HDD.out]; congr 1; omega⟩
            case measure => simp [intOf]; omega
        · have HE : Hid (K.take j = K) := List.take_of_length_le (by have := HQ.out; omega)
          rw [HE.out]
          have HDP : Hid (((dmx K : Nat) : Int) + 1 = ((ys[i]'(by have := HYL.out; omega)).dp : Int)) := by
            obtain ⟨h9, e9⟩ := HK.out.dp
            show ((dmx K : Nat) : Int) + 1 = ((ys[i]'(by have := HYL.out; omega)).dp : Int)
            rw [e9, dmx_dpOf]
            omega
          have hdb : dmx K ≤ 10000 := by
            have h8 := (HF.out.root i (by have := HYL.out; omega)).2.2.2
            have := HDP.out
            omega
          obtain ⟨d, hd⟩ : ∃ d, dmx K = d := ⟨_, rfl⟩
          rw [hd] at hdb HDP ⊢
          clear hroots hd
          have hob := hout1.block
          go_wp2_with (at_builtin; refine wpList_append2 _ rfl (.tmp 43) (.tmp 46) 53 rfl w.heap.size 3 i0 _ 1 8 Tryz.underlying53 hi hz0 hz1 hz2 rfl (by decide) g i c _ rfl (hout1.alloc _).2 ⟨_, 0, none⟩ 1 1 [.int .i64 ((d : Int) + 1)] rfl rfl (one_cell _ _) (one_one _) ?a3 ?a4 ?a5 ?_)
          case a3 => unfold maxLen; omega
          case a4 => omega
          case a5 => have := hbb.size; simp; omega
          intro g2 c2 w2 hown2 hgrow2 hwh
          have hI2 : Ints w2 w.heap.size g2 c2 (i + 1) (dps (ys.take (i + 1))) := by
            have h9 := Ints.push hown2 hout1.1 rfl
            have e9 : dps (ys.take (i + 1)) = dps (ys.take i) ++ [(d : Int) + 1] := by
              rw [List.take_succ_eq_append_getElem (by have := HYL.out; omega)]
              rw [HDP.out]
              simp only [dps, List.map_append, List.map_cons, List.map_nil]
            rw [e9]
            exact h9
          have hb2 : Below w.heap.size w w2 := (hbb.alloc hbb.size _).grown hgrow2 (by have := hbb.size; simp; omega) (fun q hq => by cases hq; exact hob.1)
          clear hown2 hgrow2 hwh hout1 hbb
          go_wp2
          go_roundw
          case rel => exact ⟨i + 1, g2, c2, by omega, by go_num, rfl, hI2, hb2⟩
          case measure => simp [intOf]; omega
    · have hie : i = m := by omega
      subst hie
      have hfin : Ints wr w.heap.size g c i (dps ys) := by
        rw [List.take_of_length_le (by have := HYL.out; omega)] at hout
        exact hout
      clear hx hz hout
      go_wp2
      go_ret
      exact ⟨_, _, rfl, hfin, hb⟩

theorem deepOf_some {t : List Nd} {S ys : List Sp} {m : Nat} (hm : t.length = m) (h6 : m ≤ 6000) (h0 : 0 < m) (h : after t m = some (S, ys)) :
    ∃ s, ys[m - 1]? = some s ∧ deepOf t = (if s.fr = 0 ∧ s.dp ≤ 300 then s.dp else 0) ∧ s.rt = m - 1 ∧ s.fr ≤ m - 1 ∧ 1 ≤ s.dp ∧ s.dp ≤ m := by
  have hf := after_fine h
  have hl : m - 1 < ys.length := by have := hf.len; omega
  have hr := hf.root (m - 1) hl
  refine ⟨ys[m - 1], List.getElem?_eq_getElem hl, ?_, hr.1, hr.2.1, hr.2.2.1, by omega⟩
  unfold deepOf
  rw [if_neg (by omega), hm, h]
  have hg : ys.getLast? = some ys[m - 1] := by
    have := hf.len
    rw [List.getLast?_eq_getElem?]
    have e : ys.length - 1 = m - 1 := by omega
    rw [e, List.getElem?_eq_getElem hl]
  simp only [hg]

theorem deepOf_none {t : List Nd} (h : after t t.length = none) : deepOf t = 0 := by
  unfold deepOf
  split
  · rfl
  · rw [h]

theorem deepOf_great {t : List Nd} (h : 6000 < t.length) : deepOf t = 0 := by
  unfold deepOf
  rw [if_pos h]

theorem deepOf_nil {t : List Nd} (h : t.length = 0) : deepOf t = 0 := by
  have : t = [] := List.eq_nil_of_length_eq_zero h
  subst this
  rfl

set_option maxRecDepth 100000 in
set_option maxHeartbeats 1000000 in
theorem specGood_any (t : List Nd) (m : Nat) (HM : Hid (t.length = m)) (hm : m ≤ 1048576) (ao : Option Addr) (cap : Nat) (w : World) (hx : Nodes w ao t) :
    Calls Tryz.prog 40 #[.slice ao m cap] w fun e w' => e = .returned (.bool (decide (0 < deepOf t))) ∧ Below w.heap.size w w' := by
  by_cases h0 : m = 0
  · subst h0
    have HD : Hid (deepOf t = 0) := deepOf_nil HM.out
    clear hx
    go_enter Tryz.func40, Tryz.ntmps40
    go_wp2
    go_ret
    exact ⟨by rw [HD.out]; rfl, Below.refl _ _⟩
  by_cases h6 : m ≤ 6000
  · have h0' : ((m : Int) == 0) = false := by simp; omega
    go_enter Tryz.func40, Tryz.ntmps40
    go_wp2_with fail
    refine (sizes_any t m HM h6 ao cap w hx).mono ?_
    rintro e w1 ⟨gz, cz, n, rfl, hz, hb⟩
    have hx1 := hx.below hb
    clear hx
    cases hA : after t m with
    | none =>
      have HD : Hid (deepOf t = 0) := deepOf_none (by rw [HM.out]; exact hA)
      have hn0 : n = 0 := by
        have h9 := hz.1
        unfold sizesOf at h9
        rw [HM.out, hA] at h9
        simpa using h9.symm
      subst hn0
      clear hz hA hx1
      go_wp2
      go_ret
      exact ⟨by rw [HD.out]; rfl, hb⟩
    | some p =>
      obtain ⟨S, ys⟩ := p
      have HA : Hid (after t m = some (S, ys)) := hA
      have hsz : sizesOf t = ys.map szOf := by unfold sizesOf; rw [HM.out, hA]
      rw [hsz] at hz
      have hyl := (after_fine hA).len
      have hnm : n = m := by have h9 := hz.1; simp at h9; omega
      subst hnm
      obtain ⟨s, hs, hd1, hd2, hd3, hd4, hd5⟩ := deepOf_some HM.out h6 (by omega) hA
      have HD : Hid (deepOf t = if s.fr = 0 ∧ s.dp ≤ 300 then s.dp else 0) := hd1
      have cz1 : w1.cell? ⟨gz, n - 1, none⟩ = some (.int .i64 ((n : Int) - (s.fr : Int))) := by
        rw [hz.at (n - 1) (by simp; omega)]
        obtain ⟨h8, h9⟩ := List.getElem?_eq_some_iff.1 hs
        simp [szOf, h9]
        omega
      have HYS : Hid (ys[n - 1]? = some s) := hs
      have HYL : Hid (ys.length = n) := hyl
      have hbz := hz.block
      clear hA hsz hd1 hs hyl
      by_cases hfr : s.fr = 0
      · rw [hfr] at cz1
        have cz2 : w1.cell? ⟨gz, n - 1, none⟩ = some (.int .i64 (n : Int)) := by simpa using cz1
        clear cz1
        go_wp2_with fail
        refine (depths_any t S ys n HM h6 HA ao cap gz cz w.heap.size w1 hx1 hz).mono ?_
        rintro e w2 ⟨g, c, rfl, hd, hb2⟩
        have cd : w2.cell? ⟨g, n - 1, none⟩ = some (.int .i64 (s.dp : Int)) := by
          rw [hd.at (n - 1) (by have := HYL.out; simp [dps]; omega)]
          obtain ⟨h8, h9⟩ := List.getElem?_eq_some_iff.1 HYS.out
          simp [dps, h9]
        have hbb := Below.step hb hb2
        have HV : Hid (deepOf t = if s.dp ≤ 300 then s.dp else 0) := by rw [HD.out, hfr]; simp [Hid]
        clear hz hx1 hd hb hb2 cz2
        by_cases h3 : s.dp ≤ 300
        · go_wp2
          go_ret
          exact ⟨by rw [HV.out, if_pos h3]; congr 2; simp; omega, hbb⟩
        · go_wp2
          go_ret
          exact ⟨by rw [HV.out, if_neg h3]; congr 2; simp; omega, hbb⟩
      · have HV : Hid (deepOf t = 0) := by rw [HD.out, if_neg (by omega)]; rfl
        have hne : (((n : Int) - (s.fr : Int)) != (n : Int)) = true := by simp; omega
        clear hz hx1
        go_wp2
        go_ret
        exact ⟨by rw [HV.out]; rfl, hb⟩
  · have HD : Hid (deepOf t = 0) := deepOf_great (by have := HM.out; omega)
    have h0' : ((m : Int) == 0) = false := by simp; omega
    clear hx
    go_enter Tryz.func40, Tryz.ntmps40
    go_wp2
    go_ret
    exact ⟨by rw [HD.out]; rfl, Below.refl _ _⟩

theorem nd_new_cells (w : World) (n : Nd) : ∀ j u, n.row[j]? = some u →
    (w.alloc (.cells #[.int .i64 n.kind, .int .i64 n.num, .string n.text, .int .i64 n.kids, .int .i64 n.place] 40)).cell? (Addr.add ⟨w.heap.size, 0, none⟩ j) = some u := by
  intro j u hj
  have ad : Addr.add ⟨w.heap.size, 0, none⟩ j = ⟨w.heap.size, j, none⟩ := by
    unfold Addr.add
    split
    · simp_all
    · simp
  rw [ad, cell_of_row _ w.heap.size j _ 40 (0, 0) (heap_alloc_new _ _), ← hj]
  simp [Nd.row]

theorem nd_row_one (n : Nd) : ∀ u ∈ n.row, u.oneCell' = true := by
  intro u hu
  simp [Nd.row] at hu
  rcases hu with rfl | rfl | rfl | rfl | rfl <;> rfl

theorem nd_flat_one (ks : List Nd) : ∀ u ∈ flat ks, u.oneCell' = true := by
  intro u hu
  unfold flat at hu
  obtain ⟨n, _, hn⟩ := List.mem_flatMap.1 hu
  exact nd_row_one n u hn

/-- A slice of nodes of the call's own. -/
def OwnN (w : World) (B g c l : Nat) (zs : List Nd) : Prop := zs.length = l ∧ w.ownsRow B 40 5 (.slice (some ⟨g, 0, none⟩) l c) l (flat zs)

theorem OwnN.row {w : World} {B g c l : Nat} {zs : List Nd} (h : OwnN w B g c l zs) : B ≤ g ∧ Row w g zs := by
  obtain ⟨hl, ho⟩ := h
  rcases ho.2 with ⟨h', _⟩ | ⟨g2, cap2, cur, he, hb, hh, _, _, _, htake⟩
  · cases h'
  · simp only [Value.slice.injEq, Option.some.injEq, Addr.mk.injEq, and_true, true_and] at he
    obtain ⟨rfl, rfl⟩ := he
    exact ⟨hb, cur, cur.toList.drop (l * 5), hh, by rw [← htake, List.take_append_drop]⟩

theorem OwnN.empty {w : World} {B : Nat} (hB : B ≤ w.heap.size) : OwnN (w.alloc (.cells #[] 40)) B w.heap.size 0 0 [] :=
  ⟨rfl, rfl, Or.inr ⟨_, 0, #[], rfl, hB, heap_alloc_new _ _, Nat.le_refl _, by simp [maxLen], rfl, rfl⟩⟩

theorem OwnN.alloc {w : World} {B g c l : Nat} {zs : List Nd} (h : OwnN w B g c l zs) (o : Obj) : OwnN (w.alloc o) B g c l zs := ⟨h.1, h.2.alloc o⟩

theorem OwnN.below {w w' : World} {B g c l : Nat} {zs : List Nd} (h : OwnN w B g c l zs) (hb : Below w.heap.size w w') : OwnN w' B g c l zs :=
  ⟨h.1, owns_but (S := fun _ => False) h.2 (But.ofBelow hb) (fun h => h)⟩

theorem OwnN.push {w : World} {B g c l m : Nat} {zs : List Nd} {x : Nd} (h : w.ownsRow B 40 5 (.slice (some ⟨g, 0, none⟩) m c) m (flat zs ++ x.row)) (hl : zs.length = l) (hm : m = l + 1) : OwnN w B g c (l + 1) (zs ++ [x]) := by
  subst hm
  refine ⟨by simp [hl], ?_⟩
  rw [flat_append]
  have e : flat [x] = x.row := by simp [flat]
  rw [e]
  exact h

/-- The nodes from f on up to i. -/
def span (t : List Nd) (f i : Nat) : List Nd := (t.take (i + 1)).drop f

theorem span_length (t : List Nd) (f i : Nat) (hi : i < t.length) : (span t f i).length = i + 1 - f := by simp [span]; omega

theorem deep_after {t : List Nd} {m : Nat} (hm : t.length = m) (hd : 0 < deepOf t) : 0 < m ∧ m ≤ 6000 ∧ ∃ S ys, after t m = some (S, ys) ∧ ys.length = m := by
  have h6 : m ≤ 6000 := by
    by_cases h : m ≤ 6000
    · exact h
    · have := deepOf_great (t := t) (by omega)
      omega
  have h0 : 0 < m := by
    by_cases h : m = 0
    · have := deepOf_nil (t := t) (by omega)
      omega
    · omega
  cases hA : after t m with
  | none =>
    have := deepOf_none (t := t) (by rw [hm]; exact hA)
    omega
  | some p =>
    obtain ⟨S, ys⟩ := p
    exact ⟨h0, h6, S, ys, rfl, (after_fine hA).len⟩

/-- The kids themselves. -/
def kidsIn (t : List Nd) (K : List Sp) : List (List Nd) := K.map fun s => span t s.fr s.rt

end Go.Proofs.YthioecjcnajmgaaGreatDoor
