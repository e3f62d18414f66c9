import Derived.Test.YtedlofpgddjpgaaGreatWAF
import Derived.Deep.RegionWith
import Derived.BigQuiet
import Derived.Test.YtedlofpgddjpgaaGreatWAC
import Derived.Test.YtedlofpgddjpgaaGreatWAA
namespace Go.Proofs.YtedlofpgddjpgaaGreat
open Go.RowKit
structure IsStar (sh : ByteArray) (s : Nat) : Prop where
  le : s ≤ sh.size
  no : ∀ j, j < s → sh.data[j]! ≠ 42
  at' : s < sh.size → sh.data[s]! = 42
def atB (l s q i : Nat) : Nat :=
  if s < l then (if q ≤ i + (l - s - 1) then l - (q - i) else if s - 1 ≤ i then s - 1 else i) else i
def fitsB (sh : ByteArray) (s : Nat) (ks : List Nd) : Bool :=
  (if s < sh.size then decide (sh.size - 2 ≤ ks.length) else ks.length == sh.size) && (List.range ks.length).all (fun i => isK (ndAt ks i).kind (sh.data[atB sh.size s ks.length i]!).toNat)
def natsI (R : List Nat) : List Int := R.map fun (n : Nat) => (n : Int)
theorem quietB (w : World) (n : Nat) : Below w.heap.size w (w.drewN n) := ⟨rfl, rfl, rfl, Nat.le_refl _, fun _ _ => rfl⟩
theorem bangB (s : ByteArray) (j : Nat) (hj : j < s.size) : s.data[j]! = s[j] := by
  rw [getElem!_pos s.data j (by simpa using hj)]; rfl
theorem byte_ne {sh : ByteArray} {j : Nat} (h : j < sh.size) (hn : sh.data[j]! ≠ 42) : (((sh[j]).toNat : Int) != 42) = true := by
  rw [bangB sh j h] at hn
  simp
  intro h2
  exact hn (UInt8.toNat_inj.1 (by have h3 : ((42 : UInt8).toNat) = 42 := rfl; omega))
theorem byte_eq {sh : ByteArray} {j : Nat} (h : j < sh.size) (hn : sh.data[j]! = 42) : (((sh[j]).toNat : Int) != 42) = false := by
  rw [bangB sh j h] at hn
  rw [hn]
  rfl
theorem all_range_false {p : Nat → Bool} {q i : Nat} (hi : i < q) (h : p i = false) : (List.range q).all p = false := by
  rw [List.all_eq_false]
  exact ⟨i, List.mem_range.2 hi, by rw [h]; simp⟩
theorem all_range_true {p : Nat → Bool} {q : Nat} (h : ∀ i, i < q → p i = true) : (List.range q).all p = true := by
  rw [List.all_eq_true]
  intro i hi
  exact h i (List.mem_range.1 hi)
set_option maxHeartbeats 4000000 in
set_option maxRecDepth 20000 in
theorem fits_plain (sh : ByteArray) (s : Nat) (HS : Hid (IsStar sh s)) (hL : sh.size ≤ 4) (hs : s = sh.size) (t : List Nd) (m : Nat) (HM : Hid (t.length = m))
    (R : List Nat) (q : Nat) (HQ : Hid (R.length = q)) (hq : q ≤ 60000) (HR : Hid (∀ j (h : j < R.length), R[j] < m)) (ao : Option Addr) (cap G B : Nat) (w : World) (hx : Nodes w ao t) (hz : Ints w B G q q (natsI R)) :
    Calls Tryz.prog 31 #[.slice ao m cap, .slice (some ⟨G, 0, none⟩) q q, .string sh] w fun e w' => e = .returned (.bool (fitsB sh s (R.map (ndAt t)))) ∧ Below w.heap.size w w' := by
  go_enter Tryz.func31, Tryz.ntmps31
  go_wp2
  go_loop [7] (fun v => ∃ k : Nat, k ≤ s ∧ v = .int .i64 (k : Int)) (fun v => s - (intOf v).toNat)
  case atStart => exact ⟨0, Nat.zero_le _, rfl⟩
  case round =>
    obtain ⟨k, hk, rfl⟩ := hrel
    by_cases hlt : k < s
    · have hks : k < sh.size := by omega
      have hne := byte_ne hks (HS.out.no k hlt)
      go_wp2
      refine ⟨⟨k + 1, by omega, by push_cast; rfl⟩, ?_⟩
      simp [intOf]; omega
    · obtain rfl : k = s := by omega
      have u1 : decide ((k : Int) < (sh.size : Int)) = false := decide_eq_false (by omega)
      by_cases hql : q = sh.size
      · subst hql
        go_wp2
        go_loopw [10] (fun v wr => ∃ j : Nat, j ≤ sh.size ∧ v = .int .i64 (j : Int) ∧ (∀ i, i < j → isK (ndAt (R.map (ndAt t)) i).kind (sh.data[i]!).toNat = true) ∧ Below w.heap.size w wr) (fun v _ => sh.size - (intOf v).toNat)
        case atStart => exact ⟨0, Nat.zero_le _, rfl, fun i hi => absurd hi (Nat.not_lt_zero _), Below.refl _ _⟩
        case round =>
          obtain ⟨j, hj, rfl, hall, hb⟩ := hrel
          by_cases hjl : j < sh.size
          · have hjR : j < R.length := by have := HQ.out; omega
            obtain ⟨r, hr⟩ : ∃ r, R[j] = r := ⟨_, rfl⟩
            have hrm : r < m := by rw [← hr]; exact HR.out j hjR
            have hc1 : wr.cell? ⟨G, j, none⟩ = some (.int .i64 (r : Int)) := by
              have h9 := (hz.below hb).at j (by simpa [natsI] using hjR)
              rw [h9]
              simp [natsI, hr]
            obtain ⟨b, o, rfl, hn⟩ := hx.below hb r (by have := HM.out; omega)
            obtain ⟨x, hxr⟩ : ∃ x, t[r]'(by have := HM.out; omega) = x := ⟨_, rfl⟩
            rw [hxr] at hn
            have HXR : Hid (ndAt (R.map (ndAt t)) j = x) := by
              show ndAt _ _ = _
              rw [ndAt_get (by simpa using hjR)]
              simp only [List.getElem_map, hr]
              rw [ndAt_get (by have := HM.out; omega), hxr]
            obtain ⟨c0, -, -, -, -⟩ := hn
            have HA : Hid (∀ i, i < j → isK (ndAt (R.map (ndAt t)) i).kind (sh.data[i]!).toNat = true) := hall
            clear hall hx hxr hr hz
            obtain ⟨z, hz⟩ : ∃ z, isK x.kind (sh[j]).toNat = z := ⟨_, rfl⟩
            have HI : Hid (∀ W : World, Calls Tryz.prog 50 #[.int .i64 x.kind, .int .u8 ((sh[j]).toNat : Int)] W fun e w' => e = .returned (.bool z) ∧ w' = W) := by
              intro W
              rw [← hz]
              exact is_any x.kind (sh[j]).toNat (UInt8.toNat_lt _) W
            have HZ : Hid (isK (ndAt (R.map (ndAt t)) j).kind (sh.data[j]!).toNat = z) := by
              show isK _ _ = z
              rw [HXR.out, bangB sh j hjl, hz]
            clear hz
            cases z
            · go_wp2_with fail
              go_quiet ((go_at_call 50; exact Calls.quiet_of_same (HI.out _)))
              have hb2 := Below.step hb (quietB wr nq)
              go_wp2
              go_ret
              refine ⟨?_, hb2⟩
              have e9 : fitsB sh sh.size (R.map (ndAt t)) = false := by
                unfold fitsB
                rw [all_range_false (i := j) (by simpa using hjR) (by rw [atB, if_neg (by omega)]; exact HZ.out), Bool.and_false]
              (try rw [hs])
              rw [e9]
              rfl
            · have HA2 : Hid (∀ i, i < j + 1 → isK (ndAt (R.map (ndAt t)) i).kind (sh.data[i]!).toNat = true) := by
                intro i hi
                by_cases e : i = j
                · subst e; exact HZ.out
                · exact HA.out i (by omega)
              go_wp2_with fail
              go_quiet ((go_at_call 50; exact Calls.quiet_of_same (HI.out _)))
              have hb2 := Below.step hb (quietB wr nq)
              go_wp2
              go_roundw
              case rel => exact ⟨j + 1, by omega, by go_num, HA2.out, hb2⟩
              case measure => simp [intOf]; omega
          · obtain rfl : j = sh.size := by omega
            have e9 : Hid (fitsB sh sh.size (R.map (ndAt t)) = true) := by
              show fitsB _ _ _ = _
              unfold fitsB
              rw [if_neg (by omega), all_range_true (fun i hi => by rw [atB, if_neg (by omega)]; exact hall i (by simp at hi; have := HQ.out; omega)), Bool.and_true]
              have := HQ.out
              simp
              omega
            clear hall hx hz
            go_wp2
            go_ret
            refine ⟨?_, hb⟩
            (try rw [hs])
            rw [e9.out]
            rfl
      · have e9 : Hid (fitsB sh sh.size (R.map (ndAt t)) = false) := by
          show fitsB _ _ _ = _
          unfold fitsB
          rw [if_neg (by omega)]
          have e8 : ((R.map (ndAt t)).length == sh.size) = false := by
            have := HQ.out
            simp
            omega
          rw [e8, Bool.false_and]
        have u2 : ((q : Int) != (sh.size : Int)) = true := by simp; omega
        clear hx hz
        go_wp2
        all_goals
          go_ret
          refine ⟨?_, Below.refl _ _⟩
          (try rw [hs])
          rw [e9.out]
          rfl
set_option maxHeartbeats 4000000 in
set_option maxRecDepth 20000 in
theorem fits_star (sh : ByteArray) (s l : Nat) (HL : Hid (sh.size = l)) (HS : Hid (IsStar sh s)) (hL : l ≤ 4) (h1 : 1 ≤ s) (hs : s < l) (t : List Nd) (m : Nat) (HM : Hid (t.length = m))
    (R : List Nat) (q : Nat) (HQ : Hid (R.length = q)) (hq : q ≤ 60000) (HR : Hid (∀ j (h : j < R.length), R[j] < m)) (ao : Option Addr) (cap G B : Nat) (w : World) (hx : Nodes w ao t) (hz : Ints w B G q q (natsI R)) :
    Calls Tryz.prog 31 #[.slice ao m cap, .slice (some ⟨G, 0, none⟩) q q, .string sh] w fun e w' => e = .returned (.bool (fitsB sh s (R.map (ndAt t)))) ∧ Below w.heap.size w w' := by
  have hsl : sh.size = l := HL.out
  go_enter Tryz.func31, Tryz.ntmps31
  go_wp2
  go_loop [7] (fun v => ∃ k : Nat, k ≤ s ∧ v = .int .i64 (k : Int)) (fun v => s - (intOf v).toNat)
  case atStart => exact ⟨0, Nat.zero_le _, rfl⟩
  case round =>
    obtain ⟨k, hk, rfl⟩ := hrel
    by_cases hlt : k < s
    · have hks : k < sh.size := by omega
      have hne := byte_ne hks (HS.out.no k hlt)
      go_wp2
      refine ⟨⟨k + 1, by omega, by push_cast; rfl⟩, ?_⟩
      simp [intOf]; omega
    · obtain rfl : k = s := by omega
      have hks : k < sh.size := by omega
      have hne := byte_eq hks (HS.out.at' hks)
      by_cases hql : l - 2 ≤ q
      · obtain ⟨f, hf⟩ : ∃ f, k - 1 = f := ⟨_, rfl⟩
        have ef : (k : Int) - 1 = (f : Int) := by omega
        go_wp2
        go_loopw [10] (fun v wr => ∃ j : Nat, j ≤ q ∧ v = .int .i64 (j : Int) ∧ (∀ i, i < j → isK (ndAt (R.map (ndAt t)) i).kind (sh.data[atB l k q i]!).toNat = true) ∧ Below w.heap.size w wr) (fun v _ => q - (intOf v).toNat)
        case atStart => exact ⟨0, Nat.zero_le _, rfl, fun i hi => absurd hi (Nat.not_lt_zero _), Below.refl _ _⟩
        case round =>
          clear hne
          obtain ⟨j, hj, rfl, hall, hb⟩ := hrel
          by_cases hjl : j < q
          · have hjR : j < R.length := by have := HQ.out; omega
            obtain ⟨r, hr⟩ : ∃ r, R[j] = r := ⟨_, rfl⟩
            have hrm : r < m := by rw [← hr]; exact HR.out j hjR
            have hc1 : wr.cell? ⟨G, j, none⟩ = some (.int .i64 (r : Int)) := by
              have h9 := (hz.below hb).at j (by simpa [natsI] using hjR)
              rw [h9]
              simp [natsI, hr]
            obtain ⟨b, o, rfl, hn⟩ := hx.below hb r (by have := HM.out; omega)
            obtain ⟨x, hxr⟩ : ∃ x, t[r]'(by have := HM.out; omega) = x := ⟨_, rfl⟩
            rw [hxr] at hn
            have HXR : Hid (ndAt (R.map (ndAt t)) j = x) := by
              show ndAt _ _ = _
              rw [ndAt_get (by simpa using hjR)]
              simp only [List.getElem_map, hr]
              rw [ndAt_get (by have := HM.out; omega), hxr]
            obtain ⟨c0, -, -, -, -⟩ := hn
            have HA : Hid (∀ i, i < j → isK (ndAt (R.map (ndAt t)) i).kind (sh.data[atB l k q i]!).toNat = true) := hall
            clear hall hx hxr hr hz
            obtain ⟨a, hae⟩ : ∃ a, atB l k q j = a := ⟨_, rfl⟩
            have hal : a < l := by
              rw [← hae]
              unfold atB
              rw [if_pos hs]
              split
              · omega
              · split <;> omega
            have has : a < sh.size := by omega
            obtain ⟨z, hz⟩ : ∃ z, isK x.kind (sh[a]).toNat = z := ⟨_, rfl⟩
            have HI : Hid (∀ W : World, Calls Tryz.prog 50 #[.int .i64 x.kind, .int .u8 ((sh[a]).toNat : Int)] W fun e w' => e = .returned (.bool z) ∧ w' = W) := by
              intro W
              rw [← hz]
              exact is_any x.kind (sh[a]).toNat (UInt8.toNat_lt _) W
            have HZ : Hid (isK (ndAt (R.map (ndAt t)) j).kind (sh.data[atB l k q j]!).toNat = z) := by
              show isK _ _ = z
              rw [HXR.out, hae, bangB sh a has, hz]
            clear hz
            cases z
            · have HF : Hid (fitsB sh k (R.map (ndAt t)) = false) := by
                show fitsB _ _ _ = _
                unfold fitsB
                rw [all_range_false (i := j) (by simpa using hjR) (by have h7 := HZ.out; rw [← HQ.out, ← HL.out] at h7; simpa using h7), Bool.and_false]
              clear HA HZ
              by_cases hB : q ≤ j + (l - k - 1)
              · by_cases hF : k - 1 ≤ j
                · have u1 : decide ((j : Int) ≥ (f : Int)) = true := decide_eq_true (by omega)
                  have u2 : decide ((j : Int) ≥ (q : Int) - ((l : Int) - (k : Int) - 1)) = true := decide_eq_true (by omega)
                  have ea : (l : Int) - ((q : Int) - (j : Int)) = (a : Int) := by rw [← hae, atB, if_pos hs, if_pos hB]; omega
                  clear hae
                  go_wp2_with fail
                  (try rw [ea])
                  go_quiet ((go_at_call 50; exact Calls.quiet_of_same (HI.out _)))
                  have hb2 := Below.step hb (quietB wr nq)
                  go_wp2
                  go_ret
                  refine ⟨?_, hb2⟩
                  rw [HF.out]
                  rfl
                · exfalso
                  omega
              · by_cases hF : k - 1 ≤ j
                · have u1 : decide ((j : Int) ≥ (f : Int)) = true := decide_eq_true (by omega)
                  have u2 : decide ((j : Int) ≥ (q : Int) - ((l : Int) - (k : Int) - 1)) = false := decide_eq_false (by omega)
                  obtain rfl : f = a := by rw [← hae, atB, if_pos hs, if_neg hB, if_pos hF]; omega
                  clear hae
                  go_wp2_with fail
                  go_quiet ((go_at_call 50; exact Calls.quiet_of_same (HI.out _)))
                  have hb2 := Below.step hb (quietB wr nq)
                  go_wp2
                  go_ret
                  refine ⟨?_, hb2⟩
                  rw [HF.out]
                  rfl
                · have u1 : decide ((j : Int) ≥ (f : Int)) = false := decide_eq_false (by omega)
                  have u2 : decide ((j : Int) ≥ (q : Int) - ((l : Int) - (k : Int) - 1)) = false := decide_eq_false (by omega)
                  obtain rfl : j = a := by rw [← hae, atB, if_pos hs, if_neg hB, if_neg hF]
                  clear hae
                  go_wp2_with fail
                  go_quiet ((go_at_call 50; exact Calls.quiet_of_same (HI.out _)))
                  have hb2 := Below.step hb (quietB wr nq)
                  go_wp2
                  go_ret
                  refine ⟨?_, hb2⟩
                  rw [HF.out]
                  rfl
            · have HA2 : Hid (∀ i, i < j + 1 → isK (ndAt (R.map (ndAt t)) i).kind (sh.data[atB l k q i]!).toNat = true) := by
                intro i hi
                by_cases e : i = j
                · subst e; exact HZ.out
                · exact HA.out i (by omega)
              clear HA HZ
              by_cases hB : q ≤ j + (l - k - 1)
              · by_cases hF : k - 1 ≤ j
                · have u1 : decide ((j : Int) ≥ (f : Int)) = true := decide_eq_true (by omega)
                  have u2 : decide ((j : Int) ≥ (q : Int) - ((l : Int) - (k : Int) - 1)) = true := decide_eq_true (by omega)
                  have ea : (l : Int) - ((q : Int) - (j : Int)) = (a : Int) := by rw [← hae, atB, if_pos hs, if_pos hB]; omega
                  clear hae
                  go_wp2_with fail
                  (try rw [ea])
                  go_quiet ((go_at_call 50; exact Calls.quiet_of_same (HI.out _)))
                  have hb2 := Below.step hb (quietB wr nq)
                  go_wp2
                  go_roundw
                  case rel => exact ⟨j + 1, by omega, by go_num, HA2.out, hb2⟩
                  case measure => simp [intOf]; omega
                · exfalso
                  omega
              · by_cases hF : k - 1 ≤ j
                · have u1 : decide ((j : Int) ≥ (f : Int)) = true := decide_eq_true (by omega)
                  have u2 : decide ((j : Int) ≥ (q : Int) - ((l : Int) - (k : Int) - 1)) = false := decide_eq_false (by omega)
                  obtain rfl : f = a := by rw [← hae, atB, if_pos hs, if_neg hB, if_pos hF]; omega
                  clear hae
                  go_wp2_with fail
                  go_quiet ((go_at_call 50; exact Calls.quiet_of_same (HI.out _)))
                  have hb2 := Below.step hb (quietB wr nq)
                  go_wp2
                  go_roundw
                  case rel => exact ⟨j + 1, by omega, by go_num, HA2.out, hb2⟩
                  case measure => simp [intOf]; omega
                · have u1 : decide ((j : Int) ≥ (f : Int)) = false := decide_eq_false (by omega)
                  have u2 : decide ((j : Int) ≥ (q : Int) - ((l : Int) - (k : Int) - 1)) = false := decide_eq_false (by omega)
                  obtain rfl : j = a := by rw [← hae, atB, if_pos hs, if_neg hB, if_neg hF]
                  clear hae
                  go_wp2_with fail
                  go_quiet ((go_at_call 50; exact Calls.quiet_of_same (HI.out _)))
                  have hb2 := Below.step hb (quietB wr nq)
                  go_wp2
                  go_roundw
                  case rel => exact ⟨j + 1, by omega, by go_num, HA2.out, hb2⟩
                  case measure => simp [intOf]; omega
          · obtain rfl : j = q := by omega
            have HF : Hid (fitsB sh k (R.map (ndAt t)) = true) := by
              show fitsB _ _ _ = _
              unfold fitsB
              rw [if_pos (by omega), decide_eq_true (by have := HQ.out; simp; omega), Bool.true_and]
              refine all_range_true (fun i hi => ?_)
              have h7 := hall i (by simp at hi; have := HQ.out; omega)
              rw [← HQ.out, ← HL.out] at h7
              simpa using h7
            clear hall hx hz
            go_wp2
            go_ret
            refine ⟨?_, hb⟩
            rw [HF.out]
            rfl
      · have HF : Hid (fitsB sh k (R.map (ndAt t)) = false) := by
          show fitsB _ _ _ = _
          unfold fitsB
          rw [if_pos (by omega), decide_eq_false (by have := HQ.out; simp; omega), Bool.false_and]
        clear hx hz
        go_wp2
        go_ret
        refine ⟨?_, Below.refl _ _⟩
        rw [HF.out]
        rfl
end Go.Proofs.YtedlofpgddjpgaaGreat

namespace Go.Proofs.YtedlofpgddjpgaaGreat
open Go.RowKit
def shapeN : Nat → ByteArray
  | 70 => ⟨#[]⟩
  | 71 => ⟨#[]⟩
  | 72 => ⟨#[]⟩
  | 73 => ⟨#[]⟩
  | 74 => ⟨#[116, 42]⟩
  | 75 => ⟨#[99, 42]⟩
  | 76 => ⟨#[116, 99]⟩
  | 77 => ⟨#[99, 99]⟩
  | 78 => ⟨#[99]⟩
  | 79 => ⟨#[99, 116]⟩
  | 80 => ⟨#[115, 99, 99]⟩
  | 81 => ⟨#[66, 66, 42, 99]⟩
  | 82 => ⟨#[115, 99]⟩
  | 83 => ⟨#[99, 82, 82, 42]⟩
  | 84 => ⟨#[113, 99]⟩
  | 85 => ⟨#[116, 99]⟩
  | 86 => ⟨#[99, 82, 82, 42]⟩
  | 87 => ⟨#[99, 99]⟩
  | 88 => ⟨#[99, 99]⟩
  | 89 => ⟨#[99]⟩
  | 90 => ⟨#[116]⟩
  | 91 => ⟨#[116, 113]⟩
  | _ => ⟨#[]⟩
def shapeB (x : Nd) : ByteArray :=
  if 70 ≤ x.kind ∧ x.kind ≤ 91 then (if x.kind = 71 ∧ x.num = -8 then ⟨#[116]⟩ else shapeN x.kind.toNat)
  else if x.kind = 19 ∧ 0 < x.kids then ⟨#[113]⟩
  else if x.kind = 20 then ⟨#[113, 42]⟩
  else if x.kind = 62 then ⟨#[115]⟩
  else if x.kind = 12 ∨ x.kind = 14 then ⟨#[116, 42]⟩
  else if x.kind = 13 then ⟨#[116, 116]⟩
  else ⟨#[]⟩
set_option maxRecDepth 20000 in
set_option maxHeartbeats 4000000 in
theorem shape_code (j : Nat) (nm : Int) (tx : ByteArray) (kk pl : Int) (hj : j < 22) (h71 : ¬ (j = 1 ∧ nm = -8)) (w : World) :
    Calls Tryz.prog 51 #[.agg #[.int .i64 (70 + (j : Int)), .int .i64 nm, .string tx, .int .i64 kk, .int .i64 pl]] w fun e w' => e = .returned (.string (shapeN (70 + j))) ∧ Below w.heap.size w w' := by
  have u1 : decide (70 + (j : Int) ≥ 70) = true := decide_eq_true (by omega)
  have u2 : decide (70 + (j : Int) ≤ 91) = true := decide_eq_true (by omega)
  by_cases h1 : j = 1
  · subst h1
    have t8 : (nm == -8) = false := by simp; intro e; exact h71 ⟨rfl, e⟩
    clear h71
    go_enter Tryz.func51, Tryz.ntmps51
    go_wp2
    go_ret
    exact ⟨rfl, ((Below.refl _ _).alloc (Nat.le_refl _) _).alloc (by simp) _⟩
  · have u3 : (70 + (j : Int) == 71) = false := by simp; omega
    clear h71
    go_enter Tryz.func51, Tryz.ntmps51
    go_wp2
    go_ret
    refine ⟨?_, ((Below.refl _ _).alloc (Nat.le_refl _) _).alloc (by simp) _⟩
    match j, hj with
    | 0, _ => rfl
    | 1, _ => rfl
    | 2, _ => rfl
    | 3, _ => rfl
    | 4, _ => rfl
    | 5, _ => rfl
    | 6, _ => rfl
    | 7, _ => rfl
    | 8, _ => rfl
    | 9, _ => rfl
    | 10, _ => rfl
    | 11, _ => rfl
    | 12, _ => rfl
    | 13, _ => rfl
    | 14, _ => rfl
    | 15, _ => rfl
    | 16, _ => rfl
    | 17, _ => rfl
    | 18, _ => rfl
    | 19, _ => rfl
    | 20, _ => rfl
    | 21, _ => rfl
    | n + 22, hj => exact absurd hj (by omega)
set_option maxRecDepth 20000 in
set_option maxHeartbeats 4000000 in
theorem shape_any (x : Nd) (w : World) :
    Calls Tryz.prog 51 #[.agg #[.int .i64 x.kind, .int .i64 x.num, .string x.text, .int .i64 x.kids, .int .i64 x.place]] w fun e w' => e = .returned (.string (shapeB x)) ∧ Below w.heap.size w w' := by
  obtain ⟨kd, nm, tx, kk, pl⟩ := x
  simp only
  by_cases hA : 70 ≤ kd ∧ kd ≤ 91
  · by_cases h8 : kd = 71 ∧ nm = -8
    · obtain ⟨rfl, rfl⟩ := h8
      go_enter Tryz.func51, Tryz.ntmps51
      go_wp2
      go_ret
      exact ⟨rfl, ((Below.refl _ _).alloc (Nat.le_refl _) _).alloc (by simp) _⟩
    · obtain ⟨j, rfl⟩ : ∃ j : Nat, kd = 70 + (j : Int) := ⟨(kd - 70).toNat, by omega⟩
      have HV : shapeB ⟨70 + (j : Int), nm, tx, kk, pl⟩ = shapeN (70 + j) := by
        unfold shapeB
        rw [if_pos hA, if_neg h8]
        have e : (70 + (j : Int)).toNat = 70 + j := by omega
        rw [e]
      rw [HV]
      exact shape_code j nm tx kk pl (by omega) (fun h => h8 ⟨by omega, h.2⟩) w
  · have HV : Hid (shapeB ⟨kd, nm, tx, kk, pl⟩ = if kd = 19 ∧ 0 < kk then ⟨#[113]⟩ else if kd = 20 then ⟨#[113, 42]⟩ else if kd = 62 then ⟨#[115]⟩ else if kd = 12 ∨ kd = 14 then ⟨#[116, 42]⟩ else if kd = 13 then ⟨#[116, 116]⟩ else ⟨#[]⟩) := by
      show shapeB _ = _
      unfold shapeB
      rw [if_neg hA]
    by_cases hk : kd = 19 ∨ kd = 20 ∨ kd = 62 ∨ kd = 12 ∨ kd = 14 ∨ kd = 13
    · clear hA
      rcases hk with rfl | rfl | rfl | rfl | rfl | rfl
      · by_cases hk0 : 0 < kk
        · have u1 : decide (kk > 0) = true := decide_eq_true hk0
          have HW : Hid (shapeB ⟨19, nm, tx, kk, pl⟩ = ⟨#[113]⟩) := by show shapeB _ = _; rw [HV.out, if_pos ⟨rfl, hk0⟩]
          clear HV
          go_enter Tryz.func51, Tryz.ntmps51
          go_wp2
          go_ret
          exact ⟨by rw [HW.out]; rfl, ((Below.refl _ _).alloc (Nat.le_refl _) _).alloc (by simp) _⟩
        · have u1 : decide (kk > 0) = false := decide_eq_false hk0
          have HW : Hid (shapeB ⟨19, nm, tx, kk, pl⟩ = ⟨#[]⟩) := by show shapeB _ = _; rw [HV.out, if_neg (fun h => hk0 h.2)]; rfl
          clear HV
          go_enter Tryz.func51, Tryz.ntmps51
          go_wp2
          go_ret
          exact ⟨by rw [HW.out]; rfl, ((Below.refl _ _).alloc (Nat.le_refl _) _).alloc (by simp) _⟩
      all_goals
        go_enter Tryz.func51, Tryz.ntmps51
        go_wp2
        go_ret
        exact ⟨by rw [HV.out]; rfl, ((Below.refl _ _).alloc (Nat.le_refl _) _).alloc (by simp) _⟩
    · have HW : Hid (shapeB ⟨kd, nm, tx, kk, pl⟩ = ⟨#[]⟩) := by show shapeB _ = _; rw [HV.out, if_neg (by omega), if_neg (by omega), if_neg (by omega), if_neg (by omega), if_neg (by omega)]
      have u1 : (kd == 19) = false := by simp; omega
      have u2 : (kd == 20) = false := by simp; omega
      have u3 : (kd == 62) = false := by simp; omega
      have u4 : (kd == 12) = false := by simp; omega
      have u5 : (kd == 14) = false := by simp; omega
      have u6 : (kd == 13) = false := by simp; omega
      clear HV hk
      by_cases h7 : 70 ≤ kd
      · have v1 : decide (kd ≥ 70) = true := decide_eq_true h7
        have v2 : decide (kd ≤ 91) = false := decide_eq_false (by omega)
        clear hA
        go_enter Tryz.func51, Tryz.ntmps51
        go_wp2
        go_ret
        exact ⟨by rw [HW.out]; rfl, ((Below.refl _ _).alloc (Nat.le_refl _) _).alloc (by simp) _⟩
      · have v1 : decide (kd ≥ 70) = false := decide_eq_false h7
        clear hA
        go_enter Tryz.func51, Tryz.ntmps51
        go_wp2
        go_ret
        exact ⟨by rw [HW.out]; rfl, ((Below.refl _ _).alloc (Nat.le_refl _) _).alloc (by simp) _⟩
end Go.Proofs.YtedlofpgddjpgaaGreat

namespace Go.Proofs.YtedlofpgddjpgaaGreat
open Go.RowKit
def Strs (w : World) (ao : Option Addr) (L : List ByteArray) : Prop := ∀ i (h : i < L.length), ∃ b o, ao = some ⟨b, o, none⟩ ∧ w.cell? ⟨b, o + i, none⟩ = some (.string L[i])
theorem anyS_true {α : Type} {p : α → Bool} {xs : List α} (k : Nat) (h : k < xs.length) (hf : p xs[k] = true) : xs.any p = true :=
  List.any_eq_true.2 ⟨_, List.getElem_mem h, hf⟩
theorem takeS_any {α : Type} {p : α → Bool} {xs : List α} (k : Nat) (h : k < xs.length) (ht : p xs[k] = false) (ha : (xs.take k).any p = false) : (xs.take (k + 1)).any p = false := by
  rw [List.take_succ_eq_append_getElem h, List.any_append, ha]
  simp [ht]
set_option maxHeartbeats 2000000 in
set_option maxRecDepth 20000 in
theorem in_any (L : List ByteArray) (n : Nat) (HL : Hid (L.length = n)) (hn : n ≤ 1000) (ao : Option Addr) (cap : Nat) (s : ByteArray) (w : World) (hS : Strs w ao L) :
    Calls Tryz.prog 48 #[.slice ao n cap, .string s] w fun e w' => e = .returned (.bool (L.any fun o => o.toList == s.toList)) ∧ w' = w := by
  go_enter Tryz.func48, Tryz.ntmps48
  go_wp2
  go_loop [5] (fun vi => ∃ k : Nat, k ≤ n ∧ vi = .int .i64 (k : Int) ∧ (L.take k).any (fun o => o.toList == s.toList) = false) (fun vi => n - (intOf vi).toNat)
  case atStart => exact ⟨0, Nat.zero_le _, rfl, by simp⟩
  case round =>
    obtain ⟨k, hk, rfl, hall⟩ := hrel
    by_cases hlt : k < n
    · have hltx : k < L.length := by have := HL.out; omega
      obtain ⟨x, hxk⟩ : ∃ x, L[k] = x := ⟨_, rfl⟩
      obtain ⟨b, o, rfl, hc⟩ := hS k hltx
      rw [hxk] at hc
      have HXK : Hid (L[k] = x) := hxk
      clear hxk hS
      cases hq : (x.toList == s.toList)
      · have HA : Hid ((L.take (k + 1)).any (fun o => o.toList == s.toList) = false) := takeS_any k hltx (by rw [HXK.out]; exact hq) hall
        clear hall
        go_wp2
        refine ⟨⟨k + 1, by omega, by push_cast; rfl, HA.out⟩, ?_⟩
        simp [intOf]; omega
      · have HA : Hid (L.any (fun o => o.toList == s.toList) = true) := anyS_true k hltx (by rw [HXK.out]; exact hq)
        clear hall
        go_wp2
        go_ret
        exact ⟨by rw [HA.out]; rfl, rfl⟩
    · have HA : Hid (L.any (fun o => o.toList == s.toList) = false) := by
        have h9 := hall
        rw [List.take_of_length_le (by have := HL.out; omega)] at h9
        exact h9
      clear hall hS
      go_wp2
      go_ret
      exact ⟨by rw [HA.out]; rfl, rfl⟩
def opsB : List ByteArray := [⟨#[58, 61]⟩, ⟨#[61]⟩, ⟨#[60, 62]⟩, ⟨#[60]⟩, ⟨#[60, 61]⟩, ⟨#[62]⟩, ⟨#[62, 61]⟩, ⟨#[94]⟩, ⟨#[43]⟩, ⟨#[45]⟩, ⟨#[42]⟩, ⟨#[47]⟩, ⟨#[37]⟩]
theorem beq_comm' (a b : List UInt8) : (a == b) = (b == a) := by
  by_cases h : a = b
  · subst h; rfl
  · rw [beq_eq_false_iff_ne.2 h, beq_eq_false_iff_ne.2 (fun e => h e.symm)]
theorem ops_same (s : ByteArray) : (opsB.any fun o => o.toList == s.toList) = opsL.any (fun o => s.toList == o) := by
  have e : opsL = opsB.map ByteArray.toList := by kernel_rfl
  rw [e, List.any_map]
  congr 1
  funext o
  exact beq_comm' _ _
set_option maxHeartbeats 2000000 in
set_option maxRecDepth 20000 in
theorem operators_any (w : World) :
    Calls Tryz.prog 49 #[] w fun e w' => ∃ g cap, e = .returned (.slice (some ⟨g, 0, none⟩) 13 cap) ∧ Strs w' (some ⟨g, 0, none⟩) opsB ∧ Below w.heap.size w w' := by
  go_enter Tryz.func49, Tryz.ntmps49
  go_wp2
  go_ret
  refine ⟨_, _, rfl, ?_, (Below.refl _ _).alloc (Nat.le_refl _) _⟩
  intro i h
  refine ⟨_, _, rfl, ?_⟩
  match i, h with
  | 0, _ => simp; rfl
  | 1, _ => simp; rfl
  | 2, _ => simp; rfl
  | 3, _ => simp; rfl
  | 4, _ => simp; rfl
  | 5, _ => simp; rfl
  | 6, _ => simp; rfl
  | 7, _ => simp; rfl
  | 8, _ => simp; rfl
  | 9, _ => simp; rfl
  | 10, _ => simp; rfl
  | 11, _ => simp; rfl
  | 12, _ => simp; rfl
  | n + 13, h => exact absurd h (by simp [opsB])
end Go.Proofs.YtedlofpgddjpgaaGreat
