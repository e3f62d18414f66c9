import Derived.Test.YtemancdlnakkmaaGreatWAD
import Derived.Test.YtemancdlnakkmaaGreatWAA
import Derived.Test.YtemancdlnakkmaaGreatWAF
import Derived.Deep.RegionWith
import Derived.BigQuiet
namespace Go.Proofs.YtemancdlnakkmaaGreat
open Go.RowKit
set_option maxHeartbeats 2000000 in
set_option maxRecDepth 20000 in
theorem letter_any (k : Int) (w : World) :
    Calls Tryz.prog 24 #[.int .i64 k] w fun e w' => e = .returned (.int .u8 (letK k : Int)) ∧ w' = w := by
  unfold letK
  by_cases h1 : k = 84
  · subst h1
    go_enter Tryz.func24, Tryz.ntmps24
    go_wp2
    go_ret
    exact ⟨rfl, rfl⟩
  have t1 : (k == 84) = false := by simpa using h1
  by_cases h2 : k = 82
  · subst h2
    go_enter Tryz.func24, Tryz.ntmps24
    go_wp2
    go_ret
    exact ⟨rfl, rfl⟩
  have t2 : (k == 82) = false := by simpa using h2
  by_cases h3 : k = 90 ∨ k = 91 ∨ k = 15 ∨ k = 17 ∨ k = 18 ∨ k = 19 ∨ k = 20
  · rcases h3 with rfl | rfl | rfl | rfl | rfl | rfl | rfl
    all_goals
      go_enter Tryz.func24, Tryz.ntmps24
      go_wp2
      go_ret
      exact ⟨rfl, rfl⟩
  have u1 : (k == 90) = false := by simp; omega
  have u2 : (k == 91) = false := by simp; omega
  have u3 : (k == 15) = false := by simp; omega
  have u4 : (k == 17) = false := by simp; omega
  have u5 : (k == 18) = false := by simp; omega
  have u6 : (k == 19) = false := by simp; omega
  have u7 : (k == 20) = false := by simp; omega
  rw [if_neg h1, if_neg h2, if_neg h3]
  by_cases h4 : 70 ≤ k ∧ k ≤ 89
  · have v1 : decide (k ≥ 70) = true := decide_eq_true h4.1
    have v2 : decide (k ≤ 89) = true := decide_eq_true h4.2
    rw [if_pos h4]
    go_enter Tryz.func24, Tryz.ntmps24
    go_wp2
    go_ret
    exact ⟨rfl, rfl⟩
  rw [if_neg h4]
  by_cases h5 : k = 60 ∨ k = 12 ∨ k = 13 ∨ k = 14
  · rw [if_pos h5]
    rcases h5 with rfl | rfl | rfl | rfl
    all_goals
      go_enter Tryz.func24, Tryz.ntmps24
      go_wp2
      go_ret
      exact ⟨rfl, rfl⟩
  have x1 : (k == 60) = false := by simp; omega
  have x2 : (k == 12) = false := by simp; omega
  have x3 : (k == 13) = false := by simp; omega
  have x4 : (k == 14) = false := by simp; omega
  rw [if_neg h5]
  by_cases h6 : k = 62
  · subst h6
    go_enter Tryz.func24, Tryz.ntmps24
    go_wp2
    go_ret
    exact ⟨rfl, rfl⟩
  have x5 : (k == 62) = false := by simpa using h6
  rw [if_neg h6]
  by_cases h7 : 70 ≤ k
  · have v1 : decide (k ≥ 70) = true := decide_eq_true h7
    have v2 : decide (k ≤ 89) = false := decide_eq_false (by omega)
    go_enter Tryz.func24, Tryz.ntmps24
    go_wp2
    go_ret
    exact ⟨rfl, rfl⟩
  · have v1 : decide (k ≥ 70) = false := decide_eq_false h7
    go_enter Tryz.func24, Tryz.ntmps24
    go_wp2
    go_ret
    exact ⟨rfl, rfl⟩
theorem letK_lt (k : Int) : letK k < 256 := by
  unfold letK
  repeat' split
  all_goals omega
set_option maxHeartbeats 2000000 in
set_option maxRecDepth 20000 in
theorem is_any (k : Int) (c : Nat) (hc : c < 256) (w : World) :
    Calls Tryz.prog 40 #[.int .i64 k, .int .u8 (c : Int)] w fun e w' => e = .returned (.bool (isK k c)) ∧ w' = w := by
  have hl := letK_lt k
  have HL := letter_any k w
  unfold isK
  obtain ⟨l, hle⟩ : ∃ l, letK k = l := ⟨_, rfl⟩
  rw [hle] at HL hl ⊢
  clear hle
  by_cases h1 : l = c
  · subst h1
    go_enter Tryz.func40, Tryz.ntmps40
    go_wp2_with fail
    refine HL.mono ?_
    rintro e w1 ⟨rfl, rfl⟩
    clear HL
    go_wp2
    go_ret
    exact ⟨by simp, rfl⟩
  · have t1 : ((l : Int) == (c : Int)) = false := by simp; omega
    have t1n : (l == c) = false := by simpa using h1
    by_cases h2 : c = 115
    · subst h2
      by_cases h3 : l = 116
      · subst h3
        go_enter Tryz.func40, Tryz.ntmps40
        go_wp2_with fail
        refine HL.mono ?_
        rintro e w1 ⟨rfl, rfl⟩
        clear HL
        go_wp2
        go_ret
        exact ⟨by simp, rfl⟩
      · have t3 : ((l : Int) == 116) = false := by simp; omega
        have t3n : (l == 116) = false := by simpa using h3
        go_enter Tryz.func40, Tryz.ntmps40
        go_wp2_with fail
        refine HL.mono ?_
        rintro e w1 ⟨rfl, rfl⟩
        clear HL
        go_wp2
        go_ret
        exact ⟨by (simp [t1n, t3n]) <;> omega, rfl⟩
    · have t2 : ((c : Int) == 115) = false := by simp; omega
      have t2n : (c == 115) = false := by simpa using h2
      go_enter Tryz.func40, Tryz.ntmps40
      go_wp2_with fail
      refine HL.mono ?_
      rintro e w1 ⟨rfl, rfl⟩
      clear HL
      go_wp2
      go_ret
      exact ⟨by simp [t1n, t2n], rfl⟩
structure IsStar (sh : ByteArray) (s : Nat) : Prop where
  le : s ≤ sh.size
  no : ∀ j, j < s → sh.data[j]! ≠ 42
  at' : s < sh.size → sh.data[s]! = 42
def atB (l s q i : Nat) : Nat :=
  if s < l then (if q ≤ i + (l - s - 1) then l - (q - i) else if s - 1 ≤ i then s - 1 else i) else i
def fitsB (sh : ByteArray) (s : Nat) (ks : List Nd) : Bool :=
  (if s < sh.size then decide (sh.size - 2 ≤ ks.length) else ks.length == sh.size) && (List.range ks.length).all (fun i => isK (ndAt ks i).kind (sh.data[atB sh.size s ks.length i]!).toNat)
def natsI (R : List Nat) : List Int := R.map fun (n : Nat) => (n : Int)
theorem quietB (w : World) (n : Nat) : Below w.heap.size w (w.drewN n) := ⟨rfl, rfl, rfl, Nat.le_refl _, fun _ _ => rfl⟩
theorem bangB (s : ByteArray) (j : Nat) (hj : j < s.size) : s.data[j]! = s[j] := by
  rw [getElem!_pos s.data j (by simpa using hj)]; rfl
theorem byte_ne {sh : ByteArray} {j : Nat} (h : j < sh.size) (hn : sh.data[j]! ≠ 42) : (((sh[j]).toNat : Int) != 42) = true := by
  rw [bangB sh j h] at hn
  simp
  intro h2
  exact hn (UInt8.toNat_inj.1 (by have h3 : ((42 : UInt8).toNat) = 42 := rfl; omega))
theorem byte_eq {sh : ByteArray} {j : Nat} (h : j < sh.size) (hn : sh.data[j]! = 42) : (((sh[j]).toNat : Int) != 42) = false := by
  rw [bangB sh j h] at hn
  rw [hn]
  rfl
theorem all_range_false {p : Nat → Bool} {q i : Nat} (hi : i < q) (h : p i = false) : (List.range q).all p = false := by
  rw [List.all_eq_false]
  exact ⟨i, List.mem_range.2 hi, by rw [h]; simp⟩
theorem all_range_true {p : Nat → Bool} {q : Nat} (h : ∀ i, i < q → p i = true) : (List.range q).all p = true := by
  rw [List.all_eq_true]
  intro i hi
  exact h i (List.mem_range.1 hi)
set_option maxHeartbeats 4000000 in
set_option maxRecDepth 20000 in
theorem fits_plain (sh : ByteArray) (s : Nat) (HS : Hid (IsStar sh s)) (hL : sh.size ≤ 4) (hs : s = sh.size) (t : List Nd) (m : Nat) (HM : Hid (t.length = m))
    (R : List Nat) (q : Nat) (HQ : Hid (R.length = q)) (hq : q ≤ 60000) (HR : Hid (∀ j (h : j < R.length), R[j] < m)) (ao : Option Addr) (cap G B : Nat) (w : World) (hx : Nodes w ao t) (hz : Ints w B G q q (natsI R)) :
    Calls Tryz.prog 26 #[.slice ao m cap, .slice (some ⟨G, 0, none⟩) q q, .string sh] w fun e w' => e = .returned (.bool (fitsB sh s (R.map (ndAt t)))) ∧ Below w.heap.size w w' := by
  go_enter Tryz.func26, Tryz.ntmps26
  go_wp2
  go_loop [7] (fun v => ∃ k : Nat, k ≤ s ∧ v = .int .i64 (k : Int)) (fun v => s - (intOf v).toNat)
  case atStart => exact ⟨0, Nat.zero_le _, rfl⟩
  case round =>
    obtain ⟨k, hk, rfl⟩ := hrel
    by_cases hlt : k < s
    · have hks : k < sh.size := by omega
      have hne := byte_ne hks (HS.out.no k hlt)
      go_wp2
      refine ⟨⟨k + 1, by omega, by push_cast; rfl⟩, ?_⟩
      simp [intOf]; omega
    · obtain rfl : k = s := by omega
      have u1 : decide ((k : Int) < (sh.size : Int)) = false := decide_eq_false (by omega)
      by_cases hql : q = sh.size
      · subst hql
        go_wp2
        go_loopw [10] (fun v wr => ∃ j : Nat, j ≤ sh.size ∧ v = .int .i64 (j : Int) ∧ (∀ i, i < j → isK (ndAt (R.map (ndAt t)) i).kind (sh.data[i]!).toNat = true) ∧ Below w.heap.size w wr) (fun v _ => sh.size - (intOf v).toNat)
        case atStart => exact ⟨0, Nat.zero_le _, rfl, fun i hi => absurd hi (Nat.not_lt_zero _), Below.refl _ _⟩
        case round =>
          obtain ⟨j, hj, rfl, hall, hb⟩ := hrel
          by_cases hjl : j < sh.size
          · have hjR : j < R.length := by have := HQ.out; omega
            obtain ⟨r, hr⟩ : ∃ r, R[j] = r := ⟨_, rfl⟩
            have hrm : r < m := by rw [← hr]; exact HR.out j hjR
            have hc1 : wr.cell? ⟨G, j, none⟩ = some (.int .i64 (r : Int)) := by
              have h9 := (hz.below hb).at j (by simpa [natsI] using hjR)
              rw [h9]
              simp [natsI, hr]
            obtain ⟨b, o, rfl, hn⟩ := hx.below hb r (by have := HM.out; omega)
            obtain ⟨x, hxr⟩ : ∃ x, t[r]'(by have := HM.out; omega) = x := ⟨_, rfl⟩
            rw [hxr] at hn
            have HXR : Hid (ndAt (R.map (ndAt t)) j = x) := by
              show ndAt _ _ = _
              rw [ndAt_get (by simpa using hjR)]
              simp only [List.getElem_map, hr]
              rw [ndAt_get (by have := HM.out; omega), hxr]
            obtain ⟨c0, -, -, -, -⟩ := hn
            have HA : Hid (∀ i, i < j → isK (ndAt (R.map (ndAt t)) i).kind (sh.data[i]!).toNat = true) := hall
            clear hall hx hxr hr hz
            obtain ⟨z, hz⟩ : ∃ z, isK x.kind (sh[j]).toNat = z := ⟨_, rfl⟩
            have HI : Hid (∀ W : World, Calls Tryz.prog 40 #[.int .i64 x.kind, .int .u8 ((sh[j]).toNat : Int)] W fun e w' => e = .returned (.bool z) ∧ w' = W) := by
              intro W
              rw [← hz]
              exact is_any x.kind (sh[j]).toNat (UInt8.toNat_lt _) W
            have HZ : Hid (isK (ndAt (R.map (ndAt t)) j).kind (sh.data[j]!).toNat = z) := by
              show isK _ _ = z
              rw [HXR.out, bangB sh j hjl, hz]
            clear hz
            cases z
            · go_wp2_with fail
              go_quiet ((go_at_call 40; exact Calls.quiet_of_same (HI.out _)))
              have hb2 := Below.step hb (quietB wr nq)
              go_wp2
              go_ret
              refine ⟨?_, hb2⟩
              have e9 : fitsB sh sh.size (R.map (ndAt t)) = false := by
                unfold fitsB
                rw [all_range_false (i := j) (by simpa using hjR) (by rw [atB, if_neg (by omega)]; exact HZ.out), Bool.and_false]
              (try rw [hs])
              rw [e9]
              rfl
            · have HA2 : Hid (∀ i, i < j + 1 → isK (ndAt (R.map (ndAt t)) i).kind (sh.data[i]!).toNat = true) := by
                intro i hi
                by_cases e : i = j
                · subst e; exact HZ.out
                · exact HA.out i (by omega)
              go_wp2_with fail
              go_quiet ((go_at_call 40; exact Calls.quiet_of_same (HI.out _)))
              have hb2 := Below.step hb (quietB wr nq)
              go_wp2
              go_roundw
              case rel => exact ⟨j + 1, by omega, by go_num, HA2.out, hb2⟩
              case measure => simp [intOf]; omega
          · obtain rfl : j = sh.size := by omega
            have e9 : Hid (fitsB sh sh.size (R.map (ndAt t)) = true) := by
              show fitsB _ _ _ = _
              unfold fitsB
              rw [if_neg (by omega), all_range_true (fun i hi => by rw [atB, if_neg (by omega)]; exact hall i (by simp at hi; have := HQ.out; omega)), Bool.and_true]
              have := HQ.out
              simp
              omega
            clear hall hx hz
            go_wp2
            go_ret
            refine ⟨?_, hb⟩
            (try rw [hs])
            rw [e9.out]
            rfl
      · have e9 : Hid (fitsB sh sh.size (R.map (ndAt t)) = false) := by
          show fitsB _ _ _ = _
          unfold fitsB
          rw [if_neg (by omega)]
          have e8 : ((R.map (ndAt t)).length == sh.size) = false := by
            have := HQ.out
            simp
            omega
          rw [e8, Bool.false_and]
        have u2 : ((q : Int) != (sh.size : Int)) = true := by simp; omega
        clear hx hz
        go_wp2
        all_goals
          go_ret
          refine ⟨?_, Below.refl _ _⟩
          (try rw [hs])
          rw [e9.out]
          rfl
set_option maxHeartbeats 4000000 in
set_option maxRecDepth 20000 in
theorem fits_star (sh : ByteArray) (s l : Nat) (HL : Hid (sh.size = l)) (HS : Hid (IsStar sh s)) (hL : l ≤ 4) (h1 : 1 ≤ s) (hs : s < l) (t : List Nd) (m : Nat) (HM : Hid (t.length = m))
    (R : List Nat) (q : Nat) (HQ : Hid (R.length = q)) (hq : q ≤ 60000) (HR : Hid (∀ j (h : j < R.length), R[j] < m)) (ao : Option Addr) (cap G B : Nat) (w : World) (hx : Nodes w ao t) (hz : Ints w B G q q (natsI R)) :
    Calls Tryz.prog 26 #[.slice ao m cap, .slice (some ⟨G, 0, none⟩) q q, .string sh] w fun e w' => e = .returned (.bool (fitsB sh s (R.map (ndAt t)))) ∧ Below w.heap.size w w' := by
  have hsl : sh.size = l := HL.out
  go_enter Tryz.func26, Tryz.ntmps26
  go_wp2
  go_loop [7] (fun v => ∃ k : Nat, k ≤ s ∧ v = .int .i64 (k : Int)) (fun v => s - (intOf v).toNat)
  case atStart => exact ⟨0, Nat.zero_le _, rfl⟩
  case round =>
    obtain ⟨k, hk, rfl⟩ := hrel
    by_cases hlt : k < s
    · have hks : k < sh.size := by omega
      have hne := byte_ne hks (HS.out.no k hlt)
      go_wp2
      refine ⟨⟨k + 1, by omega, by push_cast; rfl⟩, ?_⟩
      simp [intOf]; omega
    · obtain rfl : k = s := by omega
      have hks : k < sh.size := by omega
      have hne := byte_eq hks (HS.out.at' hks)
      by_cases hql : l - 2 ≤ q
      · obtain ⟨f, hf⟩ : ∃ f, k - 1 = f := ⟨_, rfl⟩
        have ef : (k : Int) - 1 = (f : Int) := by omega
        go_wp2
        go_loopw [10] (fun v wr => ∃ j : Nat, j ≤ q ∧ v = .int .i64 (j : Int) ∧ (∀ i, i < j → isK (ndAt (R.map (ndAt t)) i).kind (sh.data[atB l k q i]!).toNat = true) ∧ Below w.heap.size w wr) (fun v _ => q - (intOf v).toNat)
        case atStart => exact ⟨0, Nat.zero_le _, rfl, fun i hi => absurd hi (Nat.not_lt_zero _), Below.refl _ _⟩
        case round =>
          clear hne
          obtain ⟨j, hj, rfl, hall, hb⟩ := hrel
          by_cases hjl : j < q
          · have hjR : j < R.length := by have := HQ.out; omega
            obtain ⟨r, hr⟩ : ∃ r, R[j] = r := ⟨_, rfl⟩
            have hrm : r < m := by rw [← hr]; exact HR.out j hjR
            have hc1 : wr.cell? ⟨G, j, none⟩ = some (.int .i64 (r : Int)) := by
              have h9 := (hz.below hb).at j (by simpa [natsI] using hjR)
              rw [h9]
              simp [natsI, hr]
            obtain ⟨b, o, rfl, hn⟩ := hx.below hb r (by have := HM.out; omega)
            obtain ⟨x, hxr⟩ : ∃ x, t[r]'(by have := HM.out; omega) = x := ⟨_, rfl⟩
            rw [hxr] at hn
            have HXR : Hid (ndAt (R.map (ndAt t)) j = x) := by
              show ndAt _ _ = _
              rw [ndAt_get (by simpa using hjR)]
              simp only [List.getElem_map, hr]
              rw [ndAt_get (by have := HM.out; omega), hxr]
            obtain ⟨c0, -, -, -, -⟩ := hn
            have HA : Hid (∀ i, i < j → isK (ndAt (R.map (ndAt t)) i).kind (sh.data[atB l k q i]!).toNat = true) := hall
            clear hall hx hxr hr hz
            obtain ⟨a, hae⟩ : ∃ a, atB l k q j = a := ⟨_, rfl⟩
            have hal : a < l := by
              rw [← hae]
              unfold atB
              rw [if_pos hs]
              split
              · omega
              · split <;> omega
            have has : a < sh.size := by omega
            obtain ⟨z, hz⟩ : ∃ z, isK x.kind (sh[a]).toNat = z := ⟨_, rfl⟩
            have HI : Hid (∀ W : World, Calls Tryz.prog 40 #[.int .i64 x.kind, .int .u8 ((sh[a]).toNat : Int)] W fun e w' => e = .returned (.bool z) ∧ w' = W) := by
              intro W
              rw [← hz]
              exact is_any x.kind (sh[a]).toNat (UInt8.toNat_lt _) W
            have HZ : Hid (isK (ndAt (R.map (ndAt t)) j).kind (sh.data[atB l k q j]!).toNat = z) := by
              show isK _ _ = z
              rw [HXR.out, hae, bangB sh a has, hz]
            clear hz
            cases z
            · have HF : Hid (fitsB sh k (R.map (ndAt t)) = false) := by
                show fitsB _ _ _ = _
                unfold fitsB
                rw [all_range_false (i := j) (by simpa using hjR) (by have h7 := HZ.out; rw [← HQ.out, ← HL.out] at h7; simpa using h7), Bool.and_false]
              clear HA HZ
              by_cases hB : q ≤ j + (l - k - 1)
              · by_cases hF : k - 1 ≤ j
                · have u1 : decide ((j : Int) ≥ (f : Int)) = true := decide_eq_true (by omega)
                  have u2 : decide ((j : Int) ≥ (q : Int) - ((l : Int) - (k : Int) - 1)) = true := decide_eq_true (by omega)
                  have ea : (l : Int) - ((q : Int) - (j : Int)) = (a : Int) := by rw [← hae, atB, if_pos hs, if_pos hB]; omega
                  clear hae
                  go_wp2_with fail
                  (try rw [ea])
                  go_quiet ((go_at_call 40; exact Calls.quiet_of_same (HI.out _)))
                  have hb2 := Below.step hb (quietB wr nq)
                  go_wp2
                  go_ret
                  refine ⟨?_, hb2⟩
                  rw [HF.out]
                  rfl
                · exfalso
                  omega
              · by_cases hF : k - 1 ≤ j
                · have u1 : decide ((j : Int) ≥ (f : Int)) = true := decide_eq_true (by omega)
                  have u2 : decide ((j : Int) ≥ (q : Int) - ((l : Int) - (k : Int) - 1)) = false := decide_eq_false (by omega)
                  obtain rfl : f = a := by rw [← hae, atB, if_pos hs, if_neg hB, if_pos hF]; omega
                  clear hae
                  go_wp2_with fail
                  go_quiet ((go_at_call 40; exact Calls.quiet_of_same (HI.out _)))
                  have hb2 := Below.step hb (quietB wr nq)
                  go_wp2
                  go_ret
                  refine ⟨?_, hb2⟩
                  rw [HF.out]
                  rfl
                · have u1 : decide ((j : Int) ≥ (f : Int)) = false := decide_eq_false (by omega)
                  have u2 : decide ((j : Int) ≥ (q : Int) - ((l : Int) - (k : Int) - 1)) = false := decide_eq_false (by omega)
                  obtain rfl : j = a := by rw [← hae, atB, if_pos hs, if_neg hB, if_neg hF]
                  clear hae
                  go_wp2_with fail
                  go_quiet ((go_at_call 40; exact Calls.quiet_of_same (HI.out _)))
                  have hb2 := Below.step hb (quietB wr nq)
                  go_wp2
                  go_ret
                  refine ⟨?_, hb2⟩
                  rw [HF.out]
                  rfl
            · have HA2 : Hid (∀ i, i < j + 1 → isK (ndAt (R.map (ndAt t)) i).kind (sh.data[atB l k q i]!).toNat = true) := by
                intro i hi
                by_cases e : i = j
                · subst e; exact HZ.out
                · exact HA.out i (by omega)
              clear HA HZ
              by_cases hB : q ≤ j + (l - k - 1)
              · by_cases hF : k - 1 ≤ j
                · have u1 : decide ((j : Int) ≥ (f : Int)) = true := decide_eq_true (by omega)
                  have u2 : decide ((j : Int) ≥ (q : Int) - ((l : Int) - (k : Int) - 1)) = true := decide_eq_true (by omega)
                  have ea : (l : Int) - ((q : Int) - (j : Int)) = (a : Int) := by rw [← hae, atB, if_pos hs, if_pos hB]; omega
                  clear hae
                  go_wp2_with fail
                  (try rw [ea])
                  go_quiet ((go_at_call 40; exact Calls.quiet_of_same (HI.out _)))
                  have hb2 := Below.step hb (quietB wr nq)
                  go_wp2
                  go_roundw
                  case rel => exact ⟨j + 1, by omega, by go_num, HA2.out, hb2⟩
                  case measure => simp [intOf]; omega
                · exfalso
                  omega
              · by_cases hF : k - 1 ≤ j
                · have u1 : decide ((j : Int) ≥ (f : Int)) = true := decide_eq_true (by omega)
                  have u2 : decide ((j : Int) ≥ (q : Int) - ((l : Int) - (k : Int) - 1)) = false := decide_eq_false (by omega)
                  obtain rfl : f = a := by rw [← hae, atB, if_pos hs, if_neg hB, if_pos hF]; omega
                  clear hae
                  go_wp2_with fail
                  go_quiet ((go_at_call 40; exact Calls.quiet_of_same (HI.out _)))
                  have hb2 := Below.step hb (quietB wr nq)
                  go_wp2
                  go_roundw
                  case rel => exact ⟨j + 1, by omega, by go_num, HA2.out, hb2⟩
                  case measure => simp [intOf]; omega
                · have u1 : decide ((j : Int) ≥ (f : Int)) = false := decide_eq_false (by omega)
                  have u2 : decide ((j : Int) ≥ (q : Int) - ((l : Int) - (k : Int) - 1)) = false := decide_eq_false (by omega)
                  obtain rfl : j = a := by rw [← hae, atB, if_pos hs, if_neg hB, if_neg hF]
                  clear hae
                  go_wp2_with fail
                  go_quiet ((go_at_call 40; exact Calls.quiet_of_same (HI.out _)))
                  have hb2 := Below.step hb (quietB wr nq)
                  go_wp2
                  go_roundw
                  case rel => exact ⟨j + 1, by omega, by go_num, HA2.out, hb2⟩
                  case measure => simp [intOf]; omega
          · obtain rfl : j = q := by omega
            have HF : Hid (fitsB sh k (R.map (ndAt t)) = true) := by
              show fitsB _ _ _ = _
              unfold fitsB
              rw [if_pos (by omega), decide_eq_true (by have := HQ.out; simp; omega), Bool.true_and]
              refine all_range_true (fun i hi => ?_)
              have h7 := hall i (by simp at hi; have := HQ.out; omega)
              rw [← HQ.out, ← HL.out] at h7
              simpa using h7
            clear hall hx hz
            go_wp2
            go_ret
            refine ⟨?_, hb⟩
            rw [HF.out]
            rfl
      · have HF : Hid (fitsB sh k (R.map (ndAt t)) = false) := by
          show fitsB _ _ _ = _
          unfold fitsB
          rw [if_pos (by omega), decide_eq_false (by have := HQ.out; simp; omega), Bool.false_and]
        clear hx hz
        go_wp2
        go_ret
        refine ⟨?_, Below.refl _ _⟩
        rw [HF.out]
        rfl
def shapeN : Nat → ByteArray
  | 70 => ⟨#[]⟩
  | 71 => ⟨#[]⟩
  | 72 => ⟨#[]⟩
  | 73 => ⟨#[]⟩
  | 74 => ⟨#[116, 42]⟩
  | 75 => ⟨#[99, 42]⟩
  | 76 => ⟨#[116, 99]⟩
  | 77 => ⟨#[99, 99]⟩
  | 78 => ⟨#[99]⟩
  | 79 => ⟨#[99, 116]⟩
  | 80 => ⟨#[115, 99, 99]⟩
  | 81 => ⟨#[66, 66, 42, 99]⟩
  | 82 => ⟨#[115, 99]⟩
  | 83 => ⟨#[99, 82, 82, 42]⟩
  | 84 => ⟨#[113, 99]⟩
  | 85 => ⟨#[116, 99]⟩
  | 86 => ⟨#[99, 82, 82, 42]⟩
  | 87 => ⟨#[99, 99]⟩
  | 88 => ⟨#[99, 99]⟩
  | 89 => ⟨#[99]⟩
  | 90 => ⟨#[116]⟩
  | 91 => ⟨#[116, 113]⟩
  | _ => ⟨#[]⟩
def shapeB (x : Nd) : ByteArray :=
  if 70 ≤ x.kind ∧ x.kind ≤ 91 then (if x.kind = 71 ∧ x.num = -8 then ⟨#[116]⟩ else shapeN x.kind.toNat)
  else if x.kind = 19 ∧ 0 < x.kids then ⟨#[113]⟩
  else if x.kind = 20 then ⟨#[113, 42]⟩
  else if x.kind = 62 then ⟨#[115]⟩
  else if x.kind = 12 ∨ x.kind = 14 then ⟨#[116, 42]⟩
  else if x.kind = 13 then ⟨#[116, 116]⟩
  else ⟨#[]⟩
set_option maxRecDepth 20000 in
set_option maxHeartbeats 4000000 in
theorem shape_code (j : Nat) (nm : Int) (tx : ByteArray) (kk pl : Int) (hj : j < 22) (h71 : ¬ (j = 1 ∧ nm = -8)) (w : World) :
    Calls Tryz.prog 41 #[.agg #[.int .i64 (70 + (j : Int)), .int .i64 nm, .string tx, .int .i64 kk, .int .i64 pl]] w fun e w' => e = .returned (.string (shapeN (70 + j))) ∧ Below w.heap.size w w' := by
  have u1 : decide (70 + (j : Int) ≥ 70) = true := decide_eq_true (by omega)
  have u2 : decide (70 + (j : Int) ≤ 91) = true := decide_eq_true (by omega)
  by_cases h1 : j = 1
  · subst h1
    have t8 : (nm == -8) = false := by simp; intro e; exact h71 ⟨rfl, e⟩
    clear h71
    go_enter Tryz.func41, Tryz.ntmps41
    go_wp2
    go_ret
    exact ⟨rfl, ((Below.refl _ _).alloc (Nat.le_refl _) _).alloc (by simp) _⟩
  · have u3 : (70 + (j : Int) == 71) = false := by simp; omega
    clear h71
    go_enter Tryz.func41, Tryz.ntmps41
    go_wp2
    go_ret
    refine ⟨?_, ((Below.refl _ _).alloc (Nat.le_refl _) _).alloc (by simp) _⟩
    match j, hj with
    | 0, _ => rfl
    | 1, _ => rfl
    | 2, _ => rfl
    | 3, _ => rfl
    | 4, _ => rfl
    | 5, _ => rfl
    | 6, _ => rfl
    | 7, _ => rfl
    | 8, _ => rfl
    | 9, _ => rfl
    | 10, _ => rfl
    | 11, _ => rfl
    | 12, _ => rfl
    | 13, _ => rfl
    | 14, _ => rfl
    | 15, _ => rfl
    | 16, _ => rfl
    | 17, _ => rfl
    | 18, _ => rfl
    | 19, _ => rfl
    | 20, _ => rfl
    | 21, _ => rfl
    | n + 22, hj => exact absurd hj (by omega)
set_option maxRecDepth 20000 in
set_option maxHeartbeats 4000000 in
theorem shape_any (x : Nd) (w : World) :
    Calls Tryz.prog 41 #[.agg #[.int .i64 x.kind, .int .i64 x.num, .string x.text, .int .i64 x.kids, .int .i64 x.place]] w fun e w' => e = .returned (.string (shapeB x)) ∧ Below w.heap.size w w' := by
  obtain ⟨kd, nm, tx, kk, pl⟩ := x
  simp only
  by_cases hA : 70 ≤ kd ∧ kd ≤ 91
  · by_cases h8 : kd = 71 ∧ nm = -8
    · obtain ⟨rfl, rfl⟩ := h8
      go_enter Tryz.func41, Tryz.ntmps41
      go_wp2
      go_ret
      exact ⟨rfl, ((Below.refl _ _).alloc (Nat.le_refl _) _).alloc (by simp) _⟩
    · obtain ⟨j, rfl⟩ : ∃ j : Nat, kd = 70 + (j : Int) := ⟨(kd - 70).toNat, by omega⟩
      have HV : shapeB ⟨70 + (j : Int), nm, tx, kk, pl⟩ = shapeN (70 + j) := by
        unfold shapeB
        rw [if_pos hA, if_neg h8]
        have e : (70 + (j : Int)).toNat = 70 + j := by omega
        rw [e]
      rw [HV]
      exact shape_code j nm tx kk pl (by omega) (fun h => h8 ⟨by omega, h.2⟩) w
  · have HV : Hid (shapeB ⟨kd, nm, tx, kk, pl⟩ = if kd = 19 ∧ 0 < kk then ⟨#[113]⟩ else if kd = 20 then ⟨#[113, 42]⟩ else if kd = 62 then ⟨#[115]⟩ else if kd = 12 ∨ kd = 14 then ⟨#[116, 42]⟩ else if kd = 13 then ⟨#[116, 116]⟩ else ⟨#[]⟩) := by
      show shapeB _ = _
      unfold shapeB
      rw [if_neg hA]
    by_cases hk : kd = 19 ∨ kd = 20 ∨ kd = 62 ∨ kd = 12 ∨ kd = 14 ∨ kd = 13
    · clear hA
      rcases hk with rfl | rfl | rfl | rfl | rfl | rfl
      · by_cases hk0 : 0 < kk
        · have u1 : decide (kk > 0) = true := decide_eq_true hk0
          have HW : Hid (shapeB ⟨19, nm, tx, kk, pl⟩ = ⟨#[113]⟩) := by show shapeB _ = _; rw [HV.out, if_pos ⟨rfl, hk0⟩]
          clear HV
          go_enter Tryz.func41, Tryz.ntmps41
          go_wp2
          go_ret
          exact ⟨by rw [HW.out]; rfl, ((Below.refl _ _).alloc (Nat.le_refl _) _).alloc (by simp) _⟩
        · have u1 : decide (kk > 0) = false := decide_eq_false hk0
          have HW : Hid (shapeB ⟨19, nm, tx, kk, pl⟩ = ⟨#[]⟩) := by show shapeB _ = _; rw [HV.out, if_neg (fun h => hk0 h.2)]; rfl
          clear HV
          go_enter Tryz.func41, Tryz.ntmps41
          go_wp2
          go_ret
          exact ⟨by rw [HW.out]; rfl, ((Below.refl _ _).alloc (Nat.le_refl _) _).alloc (by simp) _⟩
      all_goals
        go_enter Tryz.func41, Tryz.ntmps41
        go_wp2
        go_ret
        exact ⟨by rw [HV.out]; rfl, ((Below.refl _ _).alloc (Nat.le_refl _) _).alloc (by simp) _⟩
    · have HW : Hid (shapeB ⟨kd, nm, tx, kk, pl⟩ = ⟨#[]⟩) := by show shapeB _ = _; rw [HV.out, if_neg (by omega), if_neg (by omega), if_neg (by omega), if_neg (by omega), if_neg (by omega)]
      have u1 : (kd == 19) = false := by simp; omega
      have u2 : (kd == 20) = false := by simp; omega
      have u3 : (kd == 62) = false := by simp; omega
      have u4 : (kd == 12) = false := by simp; omega
      have u5 : (kd == 14) = false := by simp; omega
      have u6 : (kd == 13) = false := by simp; omega
      clear HV hk
      by_cases h7 : 70 ≤ kd
      · have v1 : decide (kd ≥ 70) = true := decide_eq_true h7
        have v2 : decide (kd ≤ 91) = false := decide_eq_false (by omega)
        clear hA
        go_enter Tryz.func41, Tryz.ntmps41
        go_wp2
        go_ret
        exact ⟨by rw [HW.out]; rfl, ((Below.refl _ _).alloc (Nat.le_refl _) _).alloc (by simp) _⟩
      · have v1 : decide (kd ≥ 70) = false := decide_eq_false h7
        clear hA
        go_enter Tryz.func41, Tryz.ntmps41
        go_wp2
        go_ret
        exact ⟨by rw [HW.out]; rfl, ((Below.refl _ _).alloc (Nat.le_refl _) _).alloc (by simp) _⟩
end Go.Proofs.YtemancdlnakkmaaGreat
