import Derived.Test.YtekogjmmfhbinaaKnI
import Derived.Test.YtekogjmmfhbinaaRoots
import Derived.Deep.RegionHeld3
namespace Go.Proofs.Ytekogjmmfhbinaa

open Go.RowKit

theorem twoS_of {α : Type} {l : List α} (h : l.length = 2) : ∃ a b, l = [a, b] := by
  match l, h with
  | [a, b], _ => exact ⟨a, b, rfl⟩

set_option maxRecDepth 20000 in
set_option maxHeartbeats 4000000 in
theorem l14Known_any (t : List Nd) (m : Nat) (HM : Hid (t.length = m)) (hm : m ≤ 60000) (S ys : List Sp) (HA : Hid (after t m = some (S, ys))) (HAPP : Hid (∀ i, i < m → (ndAt t i).kind = 77 → (kidsRt t i).length = 2)) (ao : Option Addr) (cap gz cz B : Nat) :
    ∀ (f i : Nat) (w : World), i < f → i < m → Nodes w ao t → Ints w B gz cz m (ys.map szOf) → Calls Try.prog 16 #[.slice ao m cap, .slice (some ⟨gz, 0, none⟩) m cz, .int .i64 (i : Int)] w fun e w' => e = .returned (.bool (kn t f i)) ∧ Below w.heap.size w w' := by
  intro f
  induction f with
  | zero => intro i w h; exact absurd h (Nat.not_lt_zero _)
  | succ f ih =>
    intro i w hif him hx hz
    have hit : i < t.length := by have := HM.out; omega
    obtain ⟨b0, o0, rfl, hn⟩ := hx i hit
    have HXT : Hid (t[i] = ndAt t i) := by show t[i] = _; rw [ndAt_get hit]
    rw [HXT.out] at hn
    obtain ⟨c0, -⟩ := hn
    have hlb : b0 < w.heap.size := lt_of_cell c0
    have HIH : Hid (∀ (i : Nat) (w : World), i < f → i < m → Nodes w (some ⟨b0, o0, none⟩) t → Ints w B gz cz m (ys.map szOf) → Calls Try.prog 16 #[.slice (some ⟨b0, o0, none⟩) m cap, .slice (some ⟨gz, 0, none⟩) m cz, .int .i64 (i : Int)] w fun e w' => e = .returned (.bool (kn t f i)) ∧ Below w.heap.size w w') := ih
    have HV : Hid (kn t (f + 1) i = (if (ndAt t i).kind = 72 ∨ (ndAt t i).kind = 73 ∨ (ndAt t i).kind = 74 then true
      else if (ndAt t i).kind = 75 then (kidsRt t i).all (kn t f)
      else (ndAt t i).kind == 77 && ((ndAt t ((kidsRt t i).getD 0 0)).kind == 74 && kn t f ((kidsRt t i).getD 1 0)))) := rfl
    have HAP : Hid ((ndAt t i).kind = 77 → (kidsRt t i).length = 2) := HAPP.out i him
    have HLT : Hid (∀ r ∈ kidsRt t i, r < i) := kidsRt_lt HA.out him
    obtain ⟨Si, hSi, hkt, hK⟩ := kids_atS HA.out i him
    have hKR := kidsRt_eq hSi hkt
    obtain ⟨K, hKe⟩ : ∃ K, Si.drop (Si.length - (t[i]).kids.toNat) = K := ⟨_, rfl⟩
    rw [hKe] at hK hKR
    obtain ⟨q, hq⟩ : ∃ q, K.length = q := ⟨_, rfl⟩
    have HQ : Hid (K.length = q) := hq
    have hq6 : q ≤ 60000 := by have := hK.len; omega
    have HYL : Hid (ys.length = m) := (after_fine HA.out).len
    have HRT := roots60_any t ys K m i q HM hm hK hq him HYL (some ⟨b0, o0, none⟩) cap gz cz B w hx hz
    have HRK : Hid (rts K = (kidsRt t i).map fun (n : Nat) => (n : Int)) := by show _ = _; rw [hKR]; unfold rts; simp
    have HRL : Hid ((kidsRt t i).length = q) := by show _ = _; rw [hKR, List.length_map]; exact hq
    have HX : Hid (Nodes w (some ⟨b0, o0, none⟩) t) := hx
    have HZ : Hid (Ints w B gz cz m (ys.map szOf)) := hz
    obtain ⟨kd, hkd⟩ : ∃ kd, (ndAt t i).kind = kd := ⟨_, rfl⟩
    rw [hkd] at c0 HV HAP
    clear ih hSi hkt hK hKR hKe hq hx hz hkd
    have hbr := Below.refl w.heap.size w
    by_cases h7 : kd = 72 ∨ kd = 73 ∨ kd = 74
    · have HR : Hid (kn t (f + 1) i = true) := by show _ = _; rw [HV.out, if_pos h7]
      clear HV HRT
      rcases h7 with rfl | rfl | rfl
      all_goals
        go_enter Try.func16, Try.ntmps16
        go_wp2
        go_ret
        exact ⟨by rw [HR.out]; rfl, hbr⟩
    have t72 : (kd == 72) = false := by simp; omega
    have t73 : (kd == 73) = false := by simp; omega
    have t74 : (kd == 74) = false := by simp; omega
    by_cases h75 : kd = 75
    · subst h75
      have HR : Hid (kn t (f + 1) i = (kidsRt t i).all (kn t f)) := by show _ = _; rw [HV.out, if_neg h7, if_pos rfl]
      clear HV HAP
      go_enter Try.func16, Try.ntmps16
      go_wp2_with fail
      refine HRT.mono ?_
      rintro e w1 ⟨G, rfl, hG, hb1⟩
      clear HRT
      have HG : Hid (Ints w1 w.heap.size G q q (rts K)) := hG
      have hGb := hG.block
      clear hG
      go_wp2
      go_loopw [9] (fun v wr => ∃ j : Nat, j ≤ q ∧ v = .int .i64 (j : Int) ∧ (∀ r ∈ (kidsRt t i).take j, kn t f r = true) ∧ Below w1.heap.size w1 wr) (fun v _ => q - (intOf v).toNat)
      case atStart => exact ⟨0, Nat.zero_le _, rfl, by simp, Below.refl _ _⟩
      case round =>
        obtain ⟨j, hj, rfl, hall, hb⟩ := hrel
        by_cases hjq : j < q
        · have hjl : j < (kidsRt t i).length := by have := HRL.out; omega
          obtain ⟨r, hr⟩ : ∃ r, (kidsRt t i)[j] = r := ⟨_, rfl⟩
          have hri : r < i := HLT.out r (by rw [← hr]; exact List.getElem_mem hjl)
          have hc1 : wr.cell? ⟨G, j, none⟩ = some (.int .i64 (r : Int)) := by
            have h9 := (HG.out.below hb).at j (by have h8 := HRK.out; rw [h8]; simpa using hjl)
            rw [h9]
            simp [HRK.out, hr]
          have hbb := Below.step hb1 hb
          have HC := HIH.out r wr (by omega) (by omega) (HX.out.below hbb) (HZ.out.below hbb)
          obtain ⟨v, hv⟩ : ∃ v, kn t f r = v := ⟨_, rfl⟩
          rw [hv] at HC
          have hGr : G < wr.heap.size := lt_of_cell hc1
          cases v
          · have HF : Hid (kn t (f + 1) i = false) := by
              show _ = _
              rw [HR.out, List.all_eq_false]
              exact ⟨r, by rw [← hr]; exact List.getElem_mem hjl, by rw [hv]; simp⟩
            clear hall hv hr HR
            go_wp2_with fail
            refine HC.mono ?_
            rintro e w2 ⟨rfl, hb2⟩
            have hbe := Below.step hbb hb2
            clear HC hb2 hb hbb hb1 hc1
            go_wp2
            go_ret
            exact ⟨by rw [HF.out]; rfl, hbe⟩
          · have HALL : Hid (∀ r ∈ (kidsRt t i).take (j + 1), kn t f r = true) := by
              intro x hx
              rw [List.take_succ_eq_append_getElem hjl, List.mem_append] at hx
              rcases hx with hx | hx
              · exact hall x hx
              · simp at hx; rw [hx, hr]; exact hv
            clear hall hv hr
            go_wp2_with fail
            refine HC.mono ?_
            rintro e w2 ⟨rfl, hb2⟩
            have hbe := Below.step hb hb2
            clear HC hb2 hb hbb hc1
            go_wp2
            go_roundw
            case rel => exact ⟨j + 1, by omega, by go_num, HALL.out, hbe⟩
            case measure => simp [intOf]; omega
        · have HF : Hid (kn t (f + 1) i = true) := by
            show _ = _
            rw [HR.out, List.all_eq_true]
            intro x hx
            exact hall x (by rw [List.take_of_length_le (by have := HRL.out; omega)]; exact hx)
          have hbb := Below.step hb1 hb
          clear hall hb hb1
          go_wp2
          go_ret
          exact ⟨by rw [HF.out]; rfl, hbb⟩
    have t75 : (kd == 75) = false := by simpa using h75
    by_cases h77 : kd = 77
    rotate_left
    · have t77 : (kd == 77) = false := by simpa using h77
      have HR : Hid (kn t (f + 1) i = false) := by show _ = _; rw [HV.out, if_neg h7, if_neg h75, t77]; rfl
      clear HV HAP
      go_enter Try.func16, Try.ntmps16
      go_wp2_with fail
      refine HRT.mono ?_
      rintro e w1 ⟨G, rfl, hG, hb1⟩
      clear HRT hG
      go_wp2
      go_ret
      exact ⟨by rw [HR.out]; rfl, hb1⟩
    subst h77
    have hq2 : q = 2 := by have := HAP.out rfl; have := HRL.out; omega
    subst hq2
    obtain ⟨r0, r1, hr⟩ : ∃ r0 r1, kidsRt t i = [r0, r1] := twoS_of (HAP.out rfl)
    have hl0 : r0 < i := HLT.out r0 (by rw [hr]; simp)
    have hl1 : r1 < i := HLT.out r1 (by rw [hr]; simp)
    have HR : Hid (kn t (f + 1) i = ((ndAt t r0).kind == 74 && kn t f r1)) := by
      show _ = _
      rw [HV.out, if_neg h7, if_neg h75, hr]
      simp
    have HRK2 : Hid (rts K = [(r0 : Int), (r1 : Int)]) := by show _ = _; rw [HRK.out, hr]; rfl
    clear HV HAP HRK hr HLT HRL
    go_enter Try.func16, Try.ntmps16
    go_wp2_with fail
    refine HRT.mono ?_
    rintro e w1 ⟨G, rfl, hG, hb1⟩
    rw [HRK2.out] at hG
    have p0 : w1.cell? ⟨G, 0, none⟩ = some (.int .i64 (r0 : Int)) := by rw [hG.at 0 (by simp)]; rfl
    have p1 : w1.cell? ⟨G, 1, none⟩ = some (.int .i64 (r1 : Int)) := by rw [hG.at 1 (by simp)]; rfl
    have lG : G < w1.heap.size := lt_of_cell p0
    have hr0t : r0 < t.length := by have := HM.out; omega
    have q0 : w1.cell? ⟨b0, o0 + r0 * 5, none⟩ = some (.int .i64 (ndAt t r0).kind) := by
      obtain ⟨b9, o9, e9, hn9⟩ := HX.out.below hb1 r0 hr0t
      simp only [Option.some.injEq, Addr.mk.injEq, and_true] at e9
      obtain ⟨rfl, rfl⟩ := e9
      rw [ndAt_get hr0t]
      exact hn9.1
    obtain ⟨k0, hk0⟩ : ∃ k0, (ndAt t r0).kind = k0 := ⟨_, rfl⟩
    rw [hk0] at q0 HR
    have lb1 : b0 < w1.heap.size := lt_of_cell q0
    clear HRT hG hk0
    by_cases h74 : k0 = 74
    · subst h74
      have HC : Hid (∀ wr, Below w1.heap.size w1 wr → Calls Try.prog 16 #[.slice (some ⟨b0, o0, none⟩) m cap, .slice (some ⟨gz, 0, none⟩) m cz, .int .i64 (r1 : Int)] wr fun e w' => e = .returned (.bool (kn t f r1)) ∧ Below wr.heap.size wr w') := by
        intro wr hb
        have hbb := Below.step hb1 hb
        exact HIH.out r1 wr (by omega) (by omega) (HX.out.below hbb) (HZ.out.below hbb)
      go_wp2_with fail
      refine (HC.out w1 (Below.refl _ _)).mono ?_
      rintro e w2 ⟨rfl, hb2⟩
      have hbb := Below.step hb1 hb2
      clear HC hb2
      obtain ⟨v, hv⟩ : ∃ v, kn t f r1 = v := ⟨_, rfl⟩
      rw [hv] at HR ⊢
      clear hv
      cases v
      all_goals
        go_wp2
        go_ret
        exact ⟨by rw [HR.out]; rfl, hbb⟩
    · have t0 : (k0 == 74) = false := by simpa using h74
      rw [t0] at HR
      go_wp2
      go_ret
      exact ⟨by rw [HR.out]; rfl, hb1⟩

end Go.Proofs.Ytekogjmmfhbinaa
