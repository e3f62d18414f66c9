import Derived.Test.YtekogjmmfhbinaaRoots
import Derived.Test.YtekogjmmfhbinaaSFits
import Derived.Test.YtekogjmmfhbinaaSShp
import Derived.Test.YtekogjmmfhbinaaSOwn
import Derived.Deep.RegionWith
import Derived.BigQuiet
namespace Go.Proofs.Ytekogjmmfhbinaa

open Go.RowKit





/-- Where the star stands. -/
def starOf (sh : ByteArray) : Nat := sh.data.toList.findIdx (fun b => b == 42)

theorem star_is (sh : ByteArray) : IsStar sh (starOf sh) := by
  have hl : sh.data.toList.length = sh.size := Array.length_toList (xs := sh.data)
  have e : ∀ j (h : j < sh.size), sh.data[j]! = sh.data.toList[j]'(by omega) := by
    intro j h
    rw [getElem!_pos sh.data j h]
    simp
  refine ⟨?_, ?_, ?_⟩
  · have := List.findIdx_le_length (p := fun b => b == (42 : UInt8)) (xs := sh.data.toList)
    unfold starOf
    omega
  · intro j hj
    have h1 := List.findIdx_le_length (p := fun b => b == (42 : UInt8)) (xs := sh.data.toList)
    have h2 : j < sh.size := by unfold starOf at hj; omega
    rw [e j h2]
    have h3 := List.not_of_lt_findIdx (p := fun b => b == (42 : UInt8)) (xs := sh.data.toList) hj
    simpa using h3
  · intro h
    rw [e _ h]
    have h3 := List.findIdx_getElem (p := fun b => b == (42 : UInt8)) (xs := sh.data.toList) (w := by rw [hl]; exact h)
    unfold starOf at h ⊢
    simpa using h3

theorem shape_star (x : Nd) : (shapeB x).size ≤ 4 ∧ (starOf (shapeB x) = (shapeB x).size ∨ 1 ≤ starOf (shapeB x)) := by
  unfold shapeB
  repeat' split
  all_goals first
    | (constructor; decide; decide)
    | (unfold shapeN; split <;> (constructor; decide; decide))

/-- A tuple of one. -/
def tup1 (x : Nd) : Bool := x.kids == 1 && (x.kind == 75 || x.kind == 20 || x.kind == 14)

theorem raw_none {t : List Nd} (h : after t t.length = none) : rawDeep t = 0 := by
  unfold rawDeep
  rw [h]

theorem raw_some {t : List Nd} {S ys : List Sp} {m : Nat} (hm : t.length = m) (h0 : 0 < m) (h : after t m = some (S, ys)) :
    ∃ s, ys[m - 1]? = some s ∧ rawDeep t = (if s.fr = 0 then s.dp else 0) ∧ s.fr ≤ m - 1 ∧ 1 ≤ s.dp ∧ s.rt = m - 1 := by
  have hf := after_fine h
  have hl : m - 1 < ys.length := by have := hf.len; omega
  have hr := hf.root (m - 1) hl
  refine ⟨ys[m - 1], List.getElem?_eq_getElem hl, ?_, hr.2.1, hr.2.2.1, hr.1⟩
  unfold rawDeep
  rw [hm, h]
  have hg : ys.getLast? = some ys[m - 1] := by
    have := hf.len
    rw [List.getLast?_eq_getElem?]
    have e : ys.length - 1 = m - 1 := by omega
    rw [e, List.getElem?_eq_getElem hl]
  simp only [hg]

/-- What the kids of a kind of plain code are, a letter each. -/
def shapePN : Nat → ByteArray
  | 70 => ⟨#[]⟩
  | 71 => ⟨#[]⟩
  | 72 => ⟨#[]⟩
  | 73 => ⟨#[]⟩
  | 74 => ⟨#[]⟩
  | 75 => ⟨#[99, 42]⟩
  | 76 => ⟨#[99]⟩
  | 77 => ⟨#[99, 99]⟩
  | 78 => ⟨#[45]⟩
  | 79 => ⟨#[45]⟩
  | 80 => ⟨#[99, 99]⟩
  | 81 => ⟨#[66, 66, 42, 99]⟩
  | 82 => ⟨#[99]⟩
  | 83 => ⟨#[99, 82, 82, 42]⟩
  | 84 => ⟨#[113, 99]⟩
  | 85 => ⟨#[99]⟩
  | 86 => ⟨#[99, 82, 82, 42]⟩
  | 87 => ⟨#[99, 99]⟩
  | 88 => ⟨#[99, 99]⟩
  | 89 => ⟨#[99]⟩
  | 90 => ⟨#[]⟩
  | 91 => ⟨#[113]⟩
  | _ => ⟨#[]⟩

def shapeP (x : Nd) : ByteArray := if 70 ≤ x.kind ∧ x.kind ≤ 91 then shapePN x.kind.toNat else shapeB x

theorem shapeP_star (x : Nd) : (shapeP x).size ≤ 4 ∧ (starOf (shapeP x) = (shapeP x).size ∨ 1 ≤ starOf (shapeP x)) := by
  unfold shapeP
  split
  · unfold shapePN
    split <;> (constructor; decide; decide)
  · exact shape_star x

set_option maxRecDepth 20000 in
set_option maxHeartbeats 4000000 in
theorem shapeP_code (j : Nat) (nm : Int) (tx : ByteArray) (kk pl : Int) (hj : j < 22) (w : World) :
    Calls Try.prog 32 #[.agg #[.int .i64 (70 + (j : Int)), .int .i64 nm, .string tx, .int .i64 kk, .int .i64 pl]] w fun e w' => e = .returned (.string (shapePN (70 + j))) ∧ Below w.heap.size w w' := by
  have u1 : decide (70 + (j : Int) ≥ 70) = true := decide_eq_true (by omega)
  have u2 : decide (70 + (j : Int) ≤ 91) = true := decide_eq_true (by omega)
  go_enter Try.func32, Try.ntmps32
  go_wp2
  go_ret
  refine ⟨?_, ((Below.refl _ _).alloc (Nat.le_refl _) _).alloc (by simp) _⟩
  match j, hj with
  | 0, _ => rfl
  | 1, _ => rfl
  | 2, _ => rfl
  | 3, _ => rfl
  | 4, _ => rfl
  | 5, _ => rfl
  | 6, _ => rfl
  | 7, _ => rfl
  | 8, _ => rfl
  | 9, _ => rfl
  | 10, _ => rfl
  | 11, _ => rfl
  | 12, _ => rfl
  | 13, _ => rfl
  | 14, _ => rfl
  | 15, _ => rfl
  | 16, _ => rfl
  | 17, _ => rfl
  | 18, _ => rfl
  | 19, _ => rfl
  | 20, _ => rfl
  | 21, _ => rfl
  | n + 22, hj => exact absurd hj (by omega)

set_option maxRecDepth 20000 in
set_option maxHeartbeats 4000000 in
theorem shapeP_any (x : Nd) (w : World) :
    Calls Try.prog 32 #[.agg #[.int .i64 x.kind, .int .i64 x.num, .string x.text, .int .i64 x.kids, .int .i64 x.place]] w fun e w' => e = .returned (.string (shapeP x)) ∧ Below w.heap.size w w' := by
  obtain ⟨kd, nm, tx, kk, pl⟩ := x
  simp only
  by_cases hA : 70 ≤ kd ∧ kd ≤ 91
  · obtain ⟨j, rfl⟩ : ∃ j : Nat, kd = 70 + (j : Int) := ⟨(kd - 70).toNat, by omega⟩
    have HV : shapeP ⟨70 + (j : Int), nm, tx, kk, pl⟩ = shapePN (70 + j) := by
      unfold shapeP
      rw [if_pos hA]
      have e : (70 + (j : Int)).toNat = 70 + j := by omega
      rw [e]
    rw [HV]
    exact shapeP_code j nm tx kk pl (by omega) w
  · have HV : Hid (shapeP ⟨kd, nm, tx, kk, pl⟩ = shapeB ⟨kd, nm, tx, kk, pl⟩) := by
      show shapeP _ = _
      unfold shapeP
      rw [if_neg hA]
    have SH := shape_any ⟨kd, nm, tx, kk, pl⟩
    simp only at SH
    by_cases h7 : 70 ≤ kd
    · have v1 : decide (kd ≥ 70) = true := decide_eq_true h7
      have v2 : decide (kd ≤ 91) = false := decide_eq_false (by omega)
      clear hA
      go_enter Try.func32, Try.ntmps32
      go_wp2_with fail
      refine (SH _).mono ?_
      rintro e w1 ⟨rfl, hb1⟩
      have hb2 := Below.step (((Below.refl w.heap.size w).alloc (Nat.le_refl _) _).alloc (by simp) _) hb1
      clear SH hb1
      rw [← HV.out]
      go_wp2
      go_ret
      exact ⟨rfl, hb2⟩
    · have v1 : decide (kd ≥ 70) = false := decide_eq_false h7
      clear hA
      go_enter Try.func32, Try.ntmps32
      go_wp2_with fail
      refine (SH _).mono ?_
      rintro e w1 ⟨rfl, hb1⟩
      have hb2 := Below.step (((Below.refl w.heap.size w).alloc (Nat.le_refl _) _).alloc (by simp) _) hb1
      clear SH hb1
      rw [← HV.out]
      go_wp2
      go_ret
      exact ⟨rfl, hb2⟩

theorem fits_shapeP (x : Nd) (t : List Nd) (m : Nat) (HM : Hid (t.length = m)) (R : List Nat) (q : Nat) (HQ : Hid (R.length = q)) (hq : q ≤ 60000) (HR : Hid (∀ j (h : j < R.length), R[j] < m)) (ao : Option Addr) (cap G B : Nat) (w : World) (hx : Nodes w ao t) (hz : Ints w B G q q (natsI R)) :
    Calls Try.prog 30 #[.slice ao m cap, .slice (some ⟨G, 0, none⟩) q q, .string (shapeP x)] w fun e w' => e = .returned (.bool (fitsB (shapeP x) (starOf (shapeP x)) (R.map (ndAt t)))) ∧ Below w.heap.size w w' := by
  obtain ⟨h4, h5⟩ := shapeP_star x
  have hs := star_is (shapeP x)
  by_cases h : starOf (shapeP x) = (shapeP x).size
  · exact fits_plain (shapeP x) _ hs h4 h t m HM R q HQ hq HR ao cap G B w hx hz
  · have := hs.le
    exact fits_star (shapeP x) _ _ rfl hs h4 (by omega) (by omega) t m HM R q HQ hq HR ao cap G B w hx hz

end Go.Proofs.Ytekogjmmfhbinaa
