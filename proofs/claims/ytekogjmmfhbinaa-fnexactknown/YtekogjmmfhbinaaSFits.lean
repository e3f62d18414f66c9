import Derived.Test.YtekogjmmfhbinaaSLet
import Derived.Test.YtekogjmmfhbinaaWAO
import Derived.Deep.RegionWith
import Derived.BigQuiet
namespace Go.Proofs.Ytekogjmmfhbinaa

open Go.RowKit

/-- Where the star stands in a shape; its size, where there is none. -/
structure IsStar (sh : ByteArray) (s : Nat) : Prop where
  le : s ≤ sh.size
  no : ∀ j, j < s → sh.data[j]! ≠ 42
  at' : s < sh.size → sh.data[s]! = 42

/-- Which letter of a shape the i-th of q kids has. -/
def atB (l s q i : Nat) : Nat :=
  if s < l then (if q ≤ i + (l - s - 1) then l - (q - i) else if s - 1 ≤ i then s - 1 else i) else i

def fitsB (sh : ByteArray) (s : Nat) (ks : List Nd) : Bool :=
  (if s < sh.size then decide (sh.size - 2 ≤ ks.length) else ks.length == sh.size) && (List.range ks.length).all (fun i => isK (ndAt ks i).kind (sh.data[atB sh.size s ks.length i]!).toNat)

def natsI (R : List Nat) : List Int := R.map fun (n : Nat) => (n : Int)

theorem quietB (w : World) (n : Nat) : Below w.heap.size w (w.drewN n) := ⟨rfl, rfl, rfl, Nat.le_refl _, fun _ _ => rfl⟩

theorem bangB (s : ByteArray) (j : Nat) (hj : j < s.size) : s.data[j]! = s[j] := by
  rw [getElem!_pos s.data j (by simpa using hj)]; rfl

theorem byte_ne {sh : ByteArray} {j : Nat} (h : j < sh.size) (hn : sh.data[j]! ≠ 42) : (((sh[j]).toNat : Int) != 42) = true := by
  rw [bangB sh j h] at hn
  simp
  intro h2
  exact hn (UInt8.toNat_inj.1 (by have h3 : ((42 : UInt8).toNat) = 42 := rfl; omega))

theorem byte_eq {sh : ByteArray} {j : Nat} (h : j < sh.size) (hn : sh.data[j]! = 42) : (((sh[j]).toNat : Int) != 42) = false := by
  rw [bangB sh j h] at hn
  rw [hn]
  rfl

theorem all_range_false {p : Nat → Bool} {q i : Nat} (hi : i < q) (h : p i = false) : (List.range q).all p = false := by
  rw [List.all_eq_false]
  exact ⟨i, List.mem_range.2 hi, by rw [h]; simp⟩

theorem all_range_true {p : Nat → Bool} {q : Nat} (h : ∀ i, i < q → p i = true) : (List.range q).all p = true := by
  rw [List.all_eq_true]
  intro i hi
  exact h i (List.mem_range.1 hi)

set_option maxHeartbeats 4000000 in
set_option maxRecDepth 20000 in
theorem fits_plain (sh : ByteArray) (s : Nat) (HS : Hid (IsStar sh s)) (hL : sh.size ≤ 4) (hs : s = sh.size) (t : List Nd) (m : Nat) (HM : Hid (t.length = m))
    (R : List Nat) (q : Nat) (HQ : Hid (R.length = q)) (hq : q ≤ 60000) (HR : Hid (∀ j (h : j < R.length), R[j] < m)) (ao : Option Addr) (cap G B : Nat) (w : World) (hx : Nodes w ao t) (hz : Ints w B G q q (natsI R)) :
    Calls Try.prog 30 #[.slice ao m cap, .slice (some ⟨G, 0, none⟩) q q, .string sh] w fun e w' => e = .returned (.bool (fitsB sh s (R.map (ndAt t)))) ∧ Below w.heap.size w w' := by
  go_enter Try.func30, Try.ntmps30
  go_wp2
  go_loop [7] (fun v => ∃ k : Nat, k ≤ s ∧ v = .int .i64 (k : Int)) (fun v => s - (intOf v).toNat)
  case atStart => exact ⟨0, Nat.zero_le _, rfl⟩
  case round =>
    obtain ⟨k, hk, rfl⟩ := hrel
    by_cases hlt : k < s
    · have hks : k < sh.size := by omega
      have hne := byte_ne hks (HS.out.no k hlt)
      go_wp2
      refine ⟨⟨k + 1, by omega, by push_cast; rfl⟩, ?_⟩
      simp [intOf]; omega
    · obtain rfl : k = s := by omega
      have u1 : decide ((k : Int) < (sh.size : Int)) = false := decide_eq_false (by omega)
      by_cases hql : q = sh.size
      · subst hql
        go_wp2
        go_loopw [10] (fun v wr => ∃ j : Nat, j ≤ sh.size ∧ v = .int .i64 (j : Int) ∧ (∀ i, i < j → isK (ndAt (R.map (ndAt t)) i).kind (sh.data[i]!).toNat = true) ∧ Below w.heap.size w wr) (fun v _ => sh.size - (intOf v).toNat)
        case atStart => exact ⟨0, Nat.zero_le _, rfl, fun i hi => absurd hi (Nat.not_lt_zero _), Below.refl _ _⟩
        case round =>
          obtain ⟨j, hj, rfl, hall, hb⟩ := hrel
          by_cases hjl : j < sh.size
          · have hjR : j < R.length := by have := HQ.out; omega
            obtain ⟨r, hr⟩ : ∃ r, R[j] = r := ⟨_, rfl⟩
            have hrm : r < m := by rw [← hr]; exact HR.out j hjR
            have hc1 : wr.cell? ⟨G, j, none⟩ = some (.int .i64 (r : Int)) := by
              have h9 := (hz.below hb).at j (by simpa [natsI] using hjR)
              rw [h9]
              simp [natsI, hr]
            obtain ⟨b, o, rfl, hn⟩ := hx.below hb r (by have := HM.out; omega)
            obtain ⟨x, hxr⟩ : ∃ x, t[r]'(by have := HM.out; omega) = x := ⟨_, rfl⟩
            rw [hxr] at hn
            have HXR : Hid (ndAt (R.map (ndAt t)) j = x) := by
              show ndAt _ _ = _
              rw [ndAt_get (by simpa using hjR)]
              simp only [List.getElem_map, hr]
              rw [ndAt_get (by have := HM.out; omega), hxr]
            obtain ⟨c0, -, -, -, -⟩ := hn
            have HA : Hid (∀ i, i < j → isK (ndAt (R.map (ndAt t)) i).kind (sh.data[i]!).toNat = true) := hall
            clear hall hx hxr hr hz
            obtain ⟨z, hz⟩ : ∃ z, isK x.kind (sh[j]).toNat = z := ⟨_, rfl⟩
            have HI : Hid (∀ W : World, Calls Try.prog 45 #[.int .i64 x.kind, .int .u8 ((sh[j]).toNat : Int)] W fun e w' => e = .returned (.bool z) ∧ w' = W) := by
              intro W
              rw [← hz]
              exact is_any x.kind (sh[j]).toNat (UInt8.toNat_lt _) W
            have HZ : Hid (isK (ndAt (R.map (ndAt t)) j).kind (sh.data[j]!).toNat = z) := by
              show isK _ _ = z
              rw [HXR.out, bangB sh j hjl, hz]
            clear hz
            cases z
            · go_wp2_with fail
              go_quiet ((go_at_call 45; exact Calls.quiet_of_same (HI.out _)))
              have hb2 := Below.step hb (quietB wr nq)
              go_wp2
              go_ret
              refine ⟨?_, hb2⟩
              have e9 : fitsB sh sh.size (R.map (ndAt t)) = false := by
                unfold fitsB
                rw [all_range_false (i := j) (by simpa using hjR) (by rw [atB, if_neg (by omega)]; exact HZ.out), Bool.and_false]
              (try rw [hs])
              rw [e9]
              rfl
            · have HA2 : Hid (∀ i, i < j + 1 → isK (ndAt (R.map (ndAt t)) i).kind (sh.data[i]!).toNat = true) := by
                intro i hi
                by_cases e : i = j
                · subst e; exact HZ.out
                · exact HA.out i (by omega)
              go_wp2_with fail
              go_quiet ((go_at_call 45; exact Calls.quiet_of_same (HI.out _)))
              have hb2 := Below.step hb (quietB wr nq)
              go_wp2
              go_roundw
              case rel => exact ⟨j + 1, by omega, by go_num, HA2.out, hb2⟩
              case measure => simp [intOf]; omega
          · obtain rfl : j = sh.size := by omega
            have e9 : Hid (fitsB sh sh.size (R.map (ndAt t)) = true) := by
              show fitsB _ _ _ = _
              unfold fitsB
              rw [if_neg (by omega), all_range_true (fun i hi => by rw [atB, if_neg (by omega)]; exact hall i (by simp at hi; have := HQ.out; omega)), Bool.and_true]
              have := HQ.out
              simp
              omega
            clear hall hx hz
            go_wp2
            go_ret
            refine ⟨?_, hb⟩
            (try rw [hs])
            rw [e9.out]
            rfl
      · have e9 : Hid (fitsB sh sh.size (R.map (ndAt t)) = false) := by
          show fitsB _ _ _ = _
          unfold fitsB
          rw [if_neg (by omega)]
          have e8 : ((R.map (ndAt t)).length == sh.size) = false := by
            have := HQ.out
            simp
            omega
          rw [e8, Bool.false_and]
        have u2 : ((q : Int) != (sh.size : Int)) = true := by simp; omega
        clear hx hz
        go_wp2
        all_goals
          go_ret
          refine ⟨?_, Below.refl _ _⟩
          (try rw [hs])
          rw [e9.out]
          rfl

set_option maxHeartbeats 4000000 in
set_option maxRecDepth 20000 in
theorem fits_star (sh : ByteArray) (s l : Nat) (HL : Hid (sh.size = l)) (HS : Hid (IsStar sh s)) (hL : l ≤ 4) (h1 : 1 ≤ s) (hs : s < l) (t : List Nd) (m : Nat) (HM : Hid (t.length = m))
    (R : List Nat) (q : Nat) (HQ : Hid (R.length = q)) (hq : q ≤ 60000) (HR : Hid (∀ j (h : j < R.length), R[j] < m)) (ao : Option Addr) (cap G B : Nat) (w : World) (hx : Nodes w ao t) (hz : Ints w B G q q (natsI R)) :
    Calls Try.prog 30 #[.slice ao m cap, .slice (some ⟨G, 0, none⟩) q q, .string sh] w fun e w' => e = .returned (.bool (fitsB sh s (R.map (ndAt t)))) ∧ Below w.heap.size w w' := by
  have hsl : sh.size = l := HL.out
  go_enter Try.func30, Try.ntmps30
  go_wp2
  go_loop [7] (fun v => ∃ k : Nat, k ≤ s ∧ v = .int .i64 (k : Int)) (fun v => s - (intOf v).toNat)
  case atStart => exact ⟨0, Nat.zero_le _, rfl⟩
  case round =>
    obtain ⟨k, hk, rfl⟩ := hrel
    by_cases hlt : k < s
    · have hks : k < sh.size := by omega
      have hne := byte_ne hks (HS.out.no k hlt)
      go_wp2
      refine ⟨⟨k + 1, by omega, by push_cast; rfl⟩, ?_⟩
      simp [intOf]; omega
    · obtain rfl : k = s := by omega
      have hks : k < sh.size := by omega
      have hne := byte_eq hks (HS.out.at' hks)
      by_cases hql : l - 2 ≤ q
      · obtain ⟨f, hf⟩ : ∃ f, k - 1 = f := ⟨_, rfl⟩
        have ef : (k : Int) - 1 = (f : Int) := by omega
        go_wp2
        go_loopw [10] (fun v wr => ∃ j : Nat, j ≤ q ∧ v = .int .i64 (j : Int) ∧ (∀ i, i < j → isK (ndAt (R.map (ndAt t)) i).kind (sh.data[atB l k q i]!).toNat = true) ∧ Below w.heap.size w wr) (fun v _ => q - (intOf v).toNat)
        case atStart => exact ⟨0, Nat.zero_le _, rfl, fun i hi => absurd hi (Nat.not_lt_zero _), Below.refl _ _⟩
        case round =>
          clear hne
          obtain ⟨j, hj, rfl, hall, hb⟩ := hrel
          by_cases hjl : j < q
          · have hjR : j < R.length := by have := HQ.out; omega
            obtain ⟨r, hr⟩ : ∃ r, R[j] = r := ⟨_, rfl⟩
            have hrm : r < m := by rw [← hr]; exact HR.out j hjR
            have hc1 : wr.cell? ⟨G, j, none⟩ = some (.int .i64 (r : Int)) := by
              have h9 := (hz.below hb).at j (by simpa [natsI] using hjR)
              rw [h9]
              simp [natsI, hr]
            obtain ⟨b, o, rfl, hn⟩ := hx.below hb r (by have := HM.out; omega)
            obtain ⟨x, hxr⟩ : ∃ x, t[r]'(by have := HM.out; omega) = x := ⟨_, rfl⟩
            rw [hxr] at hn
            have HXR : Hid (ndAt (R.map (ndAt t)) j = x) := by
              show ndAt _ _ = _
              rw [ndAt_get (by simpa using hjR)]
              simp only [List.getElem_map, hr]
              rw [ndAt_get (by have := HM.out; omega), hxr]
            obtain ⟨c0, -, -, -, -⟩ := hn
            have HA : Hid (∀ i, i < j → isK (ndAt (R.map (ndAt t)) i).kind (sh.data[atB l k q i]!).toNat = true) := hall
            clear hall hx hxr hr hz
            obtain ⟨a, hae⟩ : ∃ a, atB l k q j = a := ⟨_, rfl⟩
            have hal : a < l := by
              rw [← hae]
              unfold atB
              rw [if_pos hs]
              split
              · omega
              · split <;> omega
            have has : a < sh.size := by omega
            obtain ⟨z, hz⟩ : ∃ z, isK x.kind (sh[a]).toNat = z := ⟨_, rfl⟩
            have HI : Hid (∀ W : World, Calls Try.prog 45 #[.int .i64 x.kind, .int .u8 ((sh[a]).toNat : Int)] W fun e w' => e = .returned (.bool z) ∧ w' = W) := by
              intro W
              rw [← hz]
              exact is_any x.kind (sh[a]).toNat (UInt8.toNat_lt _) W
            have HZ : Hid (isK (ndAt (R.map (ndAt t)) j).kind (sh.data[atB l k q j]!).toNat = z) := by
              show isK _ _ = z
              rw [HXR.out, hae, bangB sh a has, hz]
            clear hz
            cases z
            · have HF : Hid (fitsB sh k (R.map (ndAt t)) = false) := by
                show fitsB _ _ _ = _
                unfold fitsB
                rw [all_range_false (i := j) (by simpa using hjR) (by have h7 := HZ.out; rw [← HQ.out, ← HL.out] at h7; simpa using h7), Bool.and_false]
              clear HA HZ
              by_cases hB : q ≤ j + (l - k - 1)
              · by_cases hF : k - 1 ≤ j
                · have u1 : decide ((j : Int) ≥ (f : Int)) = true := decide_eq_true (by omega)
                  have u2 : decide ((j : Int) ≥ (q : Int) - ((l : Int) - (k : Int) - 1)) = true := decide_eq_true (by omega)
                  have ea : (l : Int) - ((q : Int) - (j : Int)) = (a : Int) := by rw [← hae, atB, if_pos hs, if_pos hB]; omega
                  clear hae
                  go_wp2_with fail
                  (try rw [ea])
                  go_quiet ((go_at_call 45; exact Calls.quiet_of_same (HI.out _)))
                  have hb2 := Below.step hb (quietB wr nq)
                  go_wp2
                  go_ret
                  refine ⟨?_, hb2⟩
                  rw [HF.out]
                  rfl
                · exfalso
                  omega
              · by_cases hF : k - 1 ≤ j
                · have u1 : decide ((j : Int) ≥ (f : Int)) = true := decide_eq_true (by omega)
                  have u2 : decide ((j : Int) ≥ (q : Int) - ((l : Int) - (k : Int) - 1)) = false := decide_eq_false (by omega)
                  obtain rfl : f = a := by rw [← hae, atB, if_pos hs, if_neg hB, if_pos hF]; omega
                  clear hae
                  go_wp2_with fail
                  go_quiet ((go_at_call 45; exact Calls.quiet_of_same (HI.out _)))
                  have hb2 := Below.step hb (quietB wr nq)
                  go_wp2
                  go_ret
                  refine ⟨?_, hb2⟩
                  rw [HF.out]
                  rfl
                · have u1 : decide ((j : Int) ≥ (f : Int)) = false := decide_eq_false (by omega)
                  have u2 : decide ((j : Int) ≥ (q : Int) - ((l : Int) - (k : Int) - 1)) = false := decide_eq_false (by omega)
                  obtain rfl : j = a := by rw [← hae, atB, if_pos hs, if_neg hB, if_neg hF]
                  clear hae
                  go_wp2_with fail
                  go_quiet ((go_at_call 45; exact Calls.quiet_of_same (HI.out _)))
                  have hb2 := Below.step hb (quietB wr nq)
                  go_wp2
                  go_ret
                  refine ⟨?_, hb2⟩
                  rw [HF.out]
                  rfl
            · have HA2 : Hid (∀ i, i < j + 1 → isK (ndAt (R.map (ndAt t)) i).kind (sh.data[atB l k q i]!).toNat = true) := by
                intro i hi
                by_cases e : i = j
                · subst e; exact HZ.out
                · exact HA.out i (by omega)
              clear HA HZ
              by_cases hB : q ≤ j + (l - k - 1)
              · by_cases hF : k - 1 ≤ j
                · have u1 : decide ((j : Int) ≥ (f : Int)) = true := decide_eq_true (by omega)
                  have u2 : decide ((j : Int) ≥ (q : Int) - ((l : Int) - (k : Int) - 1)) = true := decide_eq_true (by omega)
                  have ea : (l : Int) - ((q : Int) - (j : Int)) = (a : Int) := by rw [← hae, atB, if_pos hs, if_pos hB]; omega
                  clear hae
                  go_wp2_with fail
                  (try rw [ea])
                  go_quiet ((go_at_call 45; exact Calls.quiet_of_same (HI.out _)))
                  have hb2 := Below.step hb (quietB wr nq)
                  go_wp2
                  go_roundw
                  case rel => exact ⟨j + 1, by omega, by go_num, HA2.out, hb2⟩
                  case measure => simp [intOf]; omega
                · exfalso
                  omega
              · by_cases hF : k - 1 ≤ j
                · have u1 : decide ((j : Int) ≥ (f : Int)) = true := decide_eq_true (by omega)
                  have u2 : decide ((j : Int) ≥ (q : Int) - ((l : Int) - (k : Int) - 1)) = false := decide_eq_false (by omega)
                  obtain rfl : f = a := by rw [← hae, atB, if_pos hs, if_neg hB, if_pos hF]; omega
                  clear hae
                  go_wp2_with fail
                  go_quiet ((go_at_call 45; exact Calls.quiet_of_same (HI.out _)))
                  have hb2 := Below.step hb (quietB wr nq)
                  go_wp2
                  go_roundw
                  case rel => exact ⟨j + 1, by omega, by go_num, HA2.out, hb2⟩
                  case measure => simp [intOf]; omega
                · have u1 : decide ((j : Int) ≥ (f : Int)) = false := decide_eq_false (by omega)
                  have u2 : decide ((j : Int) ≥ (q : Int) - ((l : Int) - (k : Int) - 1)) = false := decide_eq_false (by omega)
                  obtain rfl : j = a := by rw [← hae, atB, if_pos hs, if_neg hB, if_neg hF]
                  clear hae
                  go_wp2_with fail
                  go_quiet ((go_at_call 45; exact Calls.quiet_of_same (HI.out _)))
                  have hb2 := Below.step hb (quietB wr nq)
                  go_wp2
                  go_roundw
                  case rel => exact ⟨j + 1, by omega, by go_num, HA2.out, hb2⟩
                  case measure => simp [intOf]; omega
          · obtain rfl : j = q := by omega
            have HF : Hid (fitsB sh k (R.map (ndAt t)) = true) := by
              show fitsB _ _ _ = _
              unfold fitsB
              rw [if_pos (by omega), decide_eq_true (by have := HQ.out; simp; omega), Bool.true_and]
              refine all_range_true (fun i hi => ?_)
              have h7 := hall i (by simp at hi; have := HQ.out; omega)
              rw [← HQ.out, ← HL.out] at h7
              simpa using h7
            clear hall hx hz
            go_wp2
            go_ret
            refine ⟨?_, hb⟩
            rw [HF.out]
            rfl
      · have HF : Hid (fitsB sh k (R.map (ndAt t)) = false) := by
          show fitsB _ _ _ = _
          unfold fitsB
          rw [if_pos (by omega), decide_eq_false (by have := HQ.out; simp; omega), Bool.false_and]
        clear hx hz
        go_wp2
        go_ret
        refine ⟨?_, Below.refl _ _⟩
        rw [HF.out]
        rfl

end Go.Proofs.Ytekogjmmfhbinaa
