import Derived.Test.YtekogjmmfhbinaaSizes
import Derived.Test.YtekogjmmfhbinaaOwn
namespace Go.Proofs.Ytekogjmmfhbinaa

open Go.RowKit

theorem Ints.set {w : World} {B g cap n : Nat} {xs : List Int} (h : Ints w B g cap n xs) (j : Nat) (x : Int) : Ints (w.setCell ⟨g, j, none⟩ (.int .i64 x)) B g cap n (xs.set j x) := by
  refine ⟨by simp [h.1], ?_⟩
  have := (h.2.stored j (.int .i64 x)).1
  simpa [ints, List.map_set] using this

theorem Ints.frozen {w : World} {B g cap n : Nat} {xs : List Int} (h : Ints w B g cap n xs) (j : Nat) : w.frozen? ⟨g, j, none⟩ = false := h.2.frozenAt j

def rts (K : List Sp) : List Int := K.map fun s => (s.rt : Int)

theorem roots_step (K : List Sp) (r : Nat) (h : 0 < r) (hr : r ≤ K.length) :
    (List.replicate r (0 : Int) ++ rts (K.drop r)).set (r - 1) ((K[r - 1]'(by omega)).rt : Int) = List.replicate (r - 1) (0 : Int) ++ rts (K.drop (r - 1)) := by
  obtain ⟨r', rfl⟩ : ∃ r', r = r' + 1 := ⟨r - 1, by omega⟩
  simp only [Nat.add_sub_cancel]
  rw [List.replicate_succ', List.append_assoc, List.set_append_right _ _ (by simp)]
  have e : r' - (List.replicate r' (0 : Int)).length = 0 := by simp
  rw [e, List.drop_eq_getElem_cons (show r' < K.length by omega)]
  rfl

theorem make_ints (n : Nat) (h : n ≤ 1048576) (w : World) :
    (Instr.makeSlice 37 (.int .i64 (n : Int)) (.int .i64 (n : Int))).run Try.prog w = .ok (.slice (some ⟨w.heap.size, 0, none⟩) n n) (w.alloc (.cells (madeCells #[.int .i64 0] n) 3)) :=
  run_make_row' (P := Try.prog) 37 3 (.int .i64 0) 8 Try.underlying37 Try.infoI rfl .i64 .i64 n (by omega) (by omega) w

theorem made_ints (n : Nat) : (madeCells #[Value.int .i64 0] n).toList = ints (List.replicate n 0) := by
  apply List.ext_getElem?
  intro j
  by_cases hj : j < n
  · simp only [madeCells, Array.toList_map, List.getElem?_map, Array.toList_range, ints]
    rw [List.getElem?_range hj, List.getElem?_replicate, if_pos hj]
    simp [Nat.mod_one]
  · rw [List.getElem?_eq_none (by simp [madeCells]; omega), List.getElem?_eq_none (by simp [ints]; omega)]

theorem Ints.made {w : World} {B n : Nat} (hB : B ≤ w.heap.size) (hn : n ≤ 1048576) : Ints (w.alloc (.cells (madeCells #[.int .i64 0] n) 3)) B w.heap.size n n (List.replicate n 0) := by
  refine ⟨by simp, by simp [ints], Or.inr ⟨_, n, _, rfl, hB, heap_alloc_new _ _, Nat.le_refl _, by unfold maxLen; omega, ?_, ?_⟩⟩
  · simp [madeCells]
  · rw [made_ints, List.take_of_length_le (by simp [ints])]

/-- The kids of node i: their places. -/
structure KidsAt (t : List Nd) (ys : List Sp) (i : Nat) (K : List Sp) : Prop where
  num : ∃ h : i < t.length, t[i].kids = (K.length : Int)
  last : ∀ h : 0 < K.length, (K[K.length - 1]'(by omega)).rt + 1 = i
  next : ∀ r (h : 0 < r) (h' : r < K.length), (K[r - 1]'(by omega)).rt + 1 = K[r].fr
  mem : ∀ r (h : r < K.length), ys[K[r].rt]? = some K[r] ∧ K[r].fr ≤ K[r].rt ∧ K[r].rt < i
  dp : ∃ h : i < ys.length, ys[i].dp = dpOf K
  len : K.length ≤ i

theorem kids_atS {t : List Nd} {S ys : List Sp} {n : Nat} (h : after t n = some (S, ys)) (i : Nat) (hi : i < n) : ∃ Si, after t i = some (Si, ys.take i) ∧ ∃ hk : i < t.length, KidsAt t ys i (Si.drop (Si.length - t[i].kids.toNat)) := by
  obtain ⟨Si, hSi⟩ := after_part h i (by omega)
  obtain ⟨Sj, hSj⟩ := after_part h (i + 1) (by omega)
  obtain ⟨S0, ys0, s, hk, ha, hs, he⟩ := after_inv hSj
  rw [hSi] at ha
  simp only [Option.some.injEq, Prod.mk.injEq] at ha
  obtain ⟨rfl, rfl⟩ := ha
  have hf := after_fine hSi
  have hfn := (after_fine h).len
  obtain ⟨h0, h1, _, hov⟩ := step_some hs
  obtain ⟨f, hf'⟩ : ∃ f, f = Si.length - t[i].kids.toNat := ⟨_, rfl⟩
  rw [← hf'] at hov
  have hlen : (Si.drop f).length = t[i].kids.toNat := by simp; omega
  have hget : ∀ r (h : r < (Si.drop f).length), (Si.drop f)[r] = Si[f + r]'(by simp at h; omega) := fun r h => List.getElem_drop
  refine ⟨Si, hSi, hk, ?_⟩
  rw [← hf']
  refine ⟨⟨hk, by rw [hlen]; omega⟩, ?_, ?_, ?_, ?_, by have := chain_len hf.chain; simp; omega⟩
  · intro hp
    have h2 := (hf.chain.2.2.1 (by simp at hp; omega)).2
    rw [hget]
    have e : f + ((Si.drop f).length - 1) = Si.length - 1 := by simp at hp ⊢; omega
    simp only [e]
    exact h2
  · intro r hr hr'
    rw [hget, hget]
    have h2 := hf.chain.2.1 (f + (r - 1)) (by simp at hr'; omega)
    have e : f + (r - 1) + 1 = f + r := by omega
    simp only [e] at h2
    exact h2
  · intro r hr
    rw [hget]
    have hlt : f + r < Si.length := by simp at hr; omega
    have h2 := hf.mem (f + r) hlt
    have h3 := hf.chain.1 (f + r) hlt
    have h4 := (List.getElem?_eq_some_iff.1 h2).1
    refine ⟨?_, h3.1, h3.2⟩
    rw [List.getElem?_take] at h2
    rw [if_pos (by simp at h4; omega)] at h2
    exact h2
  · refine ⟨by omega, ?_⟩
    have hyi : ys[i]? = some s := by
      have h5 : (ys.take (i + 1))[i]? = some s := by
        rw [he, List.getElem?_append_right (by simp; omega)]
        have : i - (ys.take i).length = 0 := by simp; omega
        rw [this]
        rfl
      rw [List.getElem?_take, if_pos (by omega)] at h5
      exact h5
    have h6 := (List.getElem?_eq_some_iff.1 hyi).2
    rw [h6, hov]
    rfl

set_option maxHeartbeats 1000000 in
theorem roots60_any (t : List Nd) (ys K : List Sp) (m i q : Nat) (HM : Hid (t.length = m)) (hm : m ≤ 60000) (HK : Hid (KidsAt t ys i K)) (HQ : Hid (K.length = q)) (him : i < m) (HYL : Hid (ys.length = m)) (ao : Option Addr) (cap gz cz B : Nat) (w : World) (hx : Nodes w ao t) (hz : Ints w B gz cz m (ys.map szOf)) :
    Calls Try.prog 31 #[.slice ao m cap, .slice (some ⟨gz, 0, none⟩) m cz, .int .i64 (i : Int)] w fun e w' => ∃ G, e = .returned (.slice (some ⟨G, 0, none⟩) q q) ∧ Ints w' w.heap.size G q q (rts K) ∧ Below w.heap.size w w' := by
  have hit : i < t.length := by have := HM.out; omega
  obtain ⟨b, o, rfl, hn⟩ := hx i hit
  obtain ⟨_, _, _, c3, _⟩ := hn
  have hkn : t[i].kids = (q : Int) := by obtain ⟨h, e⟩ := HK.out.num; rw [e, HQ.out]
  rw [hkn] at c3
  have hqm : q ≤ 60000 := by have := HK.out.len; have := HQ.out; omega
  have hmk := make_ints q (by omega)
  clear hx hkn
  go_enter Try.func31, Try.ntmps31
  go_wp2
  clear hmk
  have hB1 : Below w.heap.size w (w.alloc (.cells (madeCells #[.int .i64 0] q) 3)) := (Below.refl _ w).alloc (Nat.le_refl _) _
  go_loopw [9, 10] (fun av kv wr => ∃ (r : Nat) (a : Int), r ≤ q ∧ kv = .int .i64 ((r : Int) - 1) ∧ av = .int .i64 a ∧ (∀ h : 0 < r, ∀ h' : r - 1 < K.length, a = (K[r - 1].rt : Int)) ∧ -1 ≤ a ∧ a ≤ 60000 ∧
      Ints wr w.heap.size w.heap.size q q (List.replicate r 0 ++ rts (K.drop r)) ∧ Below w.heap.size w wr) (fun _ kv _ => (intOf kv + 1).toNat)
  case atStart =>
    refine ⟨q, (i : Int) - 1, Nat.le_refl _, rfl, rfl, ?_, by omega, by omega, ?_, hB1⟩
    · intro h h'
      have h2 := HK.out.last (by omega)
      have h3 := HQ.out
      simp only [h3] at h2
      omega
    · have h9 := Ints.made (w := w) (B := w.heap.size) (n := q) (Nat.le_refl _) (by omega)
      have e9 : List.replicate q (0 : Int) ++ rts (K.drop q) = List.replicate q 0 := by
        rw [List.drop_eq_nil_of_le (by have := HQ.out; omega)]
        simp [rts]
      rw [e9]
      exact h9
  case round =>
    obtain ⟨r, a, hr, rfl, rfl, ha, ha1, ha2, hints, hb⟩ := hrel
    by_cases hr0 : 0 < r
    · have hrK : r - 1 < K.length := by have := HQ.out; omega
      obtain ⟨s, hs⟩ : ∃ s, K[r - 1] = s := ⟨_, rfl⟩
      have ha' := ha hr0 hrK
      rw [hs] at ha'
      subst ha'
      obtain ⟨hmem, hfr, hrt⟩ := HK.out.mem (r - 1) hrK
      rw [hs] at hmem hfr hrt
      have hrm : s.rt < m := by omega
      have hlz : s.rt < ys.length := by have := HYL.out; omega
      have cz1 : wr.cell? ⟨gz, s.rt, none⟩ = some (.int .i64 ((s.rt : Int) - (s.fr : Int) + 1)) := by
        have h9 := (hz.below hb).at s.rt (by simp; exact hlz)
        have h8 := (List.getElem?_eq_some_iff.1 hmem).2
        rw [h9]
        simp [szOf, h8]
      have HST : Hid ((List.replicate r (0 : Int) ++ rts (K.drop r)).set (r - 1) (s.rt : Int) = List.replicate (r - 1) (0 : Int) ++ rts (K.drop (r - 1))) := by
        have h9 := roots_step K r hr0 (by omega)
        rw [hs] at h9
        exact h9
      have HA : Hid (∀ h : 0 < r - 1, ∀ h' : r - 1 - 1 < K.length, (s.fr : Int) - 1 = (K[r - 1 - 1].rt : Int)) := by
        intro h h'
        have h9 := HK.out.next (r - 1) h hrK
        rw [hs] at h9
        omega
      have hf := hints.frozen (r - 1)
      obtain ⟨v0, hv0⟩ : ∃ v, wr.cell? ⟨w.heap.size, r - 1, none⟩ = some v := ⟨_, hints.at (r - 1) (by have := hints.1; omega)⟩
      have hi2 := hints.set (r - 1) (s.rt : Int)
      rw [HST.out] at hi2
      have hb2 := hb.setCell (p := ⟨w.heap.size, r - 1, none⟩) (Nat.le_refl _) (.int .i64 (s.rt : Int))
      have hgz := (hz.below hb).block
      have hgne : gz ≠ w.heap.size := by have := hz.block; omega
      obtain ⟨r', rfl⟩ : ∃ r', r = r' + 1 := ⟨r - 1, by omega⟩
      simp only [Nat.add_sub_cancel] at *
      clear ha hs hmem hints hb hz hB1
      go_wp2
      go_roundw
      case rel => exact ⟨r', (s.fr : Int) - 1, by omega, rfl, by go_num, HA.out, by omega, by omega, hi2, hb2⟩
      case measure => simp [intOf]
    · have hr00 : r = 0 := by omega
      subst hr00
      have hfin : Ints wr w.heap.size w.heap.size q q (rts K) := by simpa using hints
      clear hints ha hz hB1
      go_wp2
      go_ret
      exact ⟨_, rfl, hfin, hb⟩

end Go.Proofs.Ytekogjmmfhbinaa
