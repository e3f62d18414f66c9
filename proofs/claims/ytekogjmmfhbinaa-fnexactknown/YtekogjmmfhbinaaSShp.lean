import Derived.Test.YtekogjmmfhbinaaWAO
namespace Go.Proofs.Ytekogjmmfhbinaa

open Go.RowKit

/-- What the kids of a kind of code are, a letter each. -/
def shapeN : Nat → ByteArray
  | 70 => ⟨#[]⟩
  | 71 => ⟨#[]⟩
  | 72 => ⟨#[]⟩
  | 73 => ⟨#[]⟩
  | 74 => ⟨#[116, 42]⟩
  | 75 => ⟨#[99, 42]⟩
  | 76 => ⟨#[116, 99]⟩
  | 77 => ⟨#[99, 99]⟩
  | 78 => ⟨#[99]⟩
  | 79 => ⟨#[99, 116]⟩
  | 80 => ⟨#[115, 99, 99]⟩
  | 81 => ⟨#[66, 66, 42, 99]⟩
  | 82 => ⟨#[115, 99]⟩
  | 83 => ⟨#[99, 82, 82, 42]⟩
  | 84 => ⟨#[113, 99]⟩
  | 85 => ⟨#[116, 99]⟩
  | 86 => ⟨#[99, 82, 82, 42]⟩
  | 87 => ⟨#[99, 99]⟩
  | 88 => ⟨#[99, 99]⟩
  | 89 => ⟨#[99]⟩
  | 90 => ⟨#[116]⟩
  | 91 => ⟨#[116, 113]⟩
  | _ => ⟨#[]⟩

def shapeB (x : Nd) : ByteArray :=
  if 70 ≤ x.kind ∧ x.kind ≤ 91 then (if x.kind = 71 ∧ x.num = -8 then ⟨#[116]⟩ else shapeN x.kind.toNat)
  else if x.kind = 19 ∧ 0 < x.kids then ⟨#[113]⟩
  else if x.kind = 20 then ⟨#[113, 42]⟩
  else if x.kind = 62 then ⟨#[115]⟩
  else if x.kind = 12 ∨ x.kind = 14 then ⟨#[116, 42]⟩
  else if x.kind = 13 then ⟨#[116, 116]⟩
  else ⟨#[]⟩

set_option maxRecDepth 20000 in
set_option maxHeartbeats 4000000 in
theorem shape_code (j : Nat) (nm : Int) (tx : ByteArray) (kk pl : Int) (hj : j < 22) (h71 : ¬ (j = 1 ∧ nm = -8)) (w : World) :
    Calls Try.prog 46 #[.agg #[.int .i64 (70 + (j : Int)), .int .i64 nm, .string tx, .int .i64 kk, .int .i64 pl]] w fun e w' => e = .returned (.string (shapeN (70 + j))) ∧ Below w.heap.size w w' := by
  have u1 : decide (70 + (j : Int) ≥ 70) = true := decide_eq_true (by omega)
  have u2 : decide (70 + (j : Int) ≤ 91) = true := decide_eq_true (by omega)
  by_cases h1 : j = 1
  · subst h1
    have t8 : (nm == -8) = false := by simp; intro e; exact h71 ⟨rfl, e⟩
    clear h71
    go_enter Try.func46, Try.ntmps46
    go_wp2
    go_ret
    exact ⟨rfl, ((Below.refl _ _).alloc (Nat.le_refl _) _).alloc (by simp) _⟩
  · have u3 : (70 + (j : Int) == 71) = false := by simp; omega
    clear h71
    go_enter Try.func46, Try.ntmps46
    go_wp2
    go_ret
    refine ⟨?_, ((Below.refl _ _).alloc (Nat.le_refl _) _).alloc (by simp) _⟩
    match j, hj with
    | 0, _ => rfl
    | 1, _ => rfl
    | 2, _ => rfl
    | 3, _ => rfl
    | 4, _ => rfl
    | 5, _ => rfl
    | 6, _ => rfl
    | 7, _ => rfl
    | 8, _ => rfl
    | 9, _ => rfl
    | 10, _ => rfl
    | 11, _ => rfl
    | 12, _ => rfl
    | 13, _ => rfl
    | 14, _ => rfl
    | 15, _ => rfl
    | 16, _ => rfl
    | 17, _ => rfl
    | 18, _ => rfl
    | 19, _ => rfl
    | 20, _ => rfl
    | 21, _ => rfl
    | n + 22, hj => exact absurd hj (by omega)

set_option maxRecDepth 20000 in
set_option maxHeartbeats 4000000 in
theorem shape_any (x : Nd) (w : World) :
    Calls Try.prog 46 #[.agg #[.int .i64 x.kind, .int .i64 x.num, .string x.text, .int .i64 x.kids, .int .i64 x.place]] w fun e w' => e = .returned (.string (shapeB x)) ∧ Below w.heap.size w w' := by
  obtain ⟨kd, nm, tx, kk, pl⟩ := x
  simp only
  by_cases hA : 70 ≤ kd ∧ kd ≤ 91
  · by_cases h8 : kd = 71 ∧ nm = -8
    · obtain ⟨rfl, rfl⟩ := h8
      go_enter Try.func46, Try.ntmps46
      go_wp2
      go_ret
      exact ⟨rfl, ((Below.refl _ _).alloc (Nat.le_refl _) _).alloc (by simp) _⟩
    · obtain ⟨j, rfl⟩ : ∃ j : Nat, kd = 70 + (j : Int) := ⟨(kd - 70).toNat, by omega⟩
      have HV : shapeB ⟨70 + (j : Int), nm, tx, kk, pl⟩ = shapeN (70 + j) := by
        unfold shapeB
        rw [if_pos hA, if_neg h8]
        have e : (70 + (j : Int)).toNat = 70 + j := by omega
        rw [e]
      rw [HV]
      exact shape_code j nm tx kk pl (by omega) (fun h => h8 ⟨by omega, h.2⟩) w
  · have HV : Hid (shapeB ⟨kd, nm, tx, kk, pl⟩ = if kd = 19 ∧ 0 < kk then ⟨#[113]⟩ else if kd = 20 then ⟨#[113, 42]⟩ else if kd = 62 then ⟨#[115]⟩ else if kd = 12 ∨ kd = 14 then ⟨#[116, 42]⟩ else if kd = 13 then ⟨#[116, 116]⟩ else ⟨#[]⟩) := by
      show shapeB _ = _
      unfold shapeB
      rw [if_neg hA]
    by_cases hk : kd = 19 ∨ kd = 20 ∨ kd = 62 ∨ kd = 12 ∨ kd = 14 ∨ kd = 13
    · clear hA
      rcases hk with rfl | rfl | rfl | rfl | rfl | rfl
      · by_cases hk0 : 0 < kk
        · have u1 : decide (kk > 0) = true := decide_eq_true hk0
          have HW : Hid (shapeB ⟨19, nm, tx, kk, pl⟩ = ⟨#[113]⟩) := by show shapeB _ = _; rw [HV.out, if_pos ⟨rfl, hk0⟩]
          clear HV
          go_enter Try.func46, Try.ntmps46
          go_wp2
          go_ret
          exact ⟨by rw [HW.out]; rfl, ((Below.refl _ _).alloc (Nat.le_refl _) _).alloc (by simp) _⟩
        · have u1 : decide (kk > 0) = false := decide_eq_false hk0
          have HW : Hid (shapeB ⟨19, nm, tx, kk, pl⟩ = ⟨#[]⟩) := by show shapeB _ = _; rw [HV.out, if_neg (fun h => hk0 h.2)]; rfl
          clear HV
          go_enter Try.func46, Try.ntmps46
          go_wp2
          go_ret
          exact ⟨by rw [HW.out]; rfl, ((Below.refl _ _).alloc (Nat.le_refl _) _).alloc (by simp) _⟩
      all_goals
        go_enter Try.func46, Try.ntmps46
        go_wp2
        go_ret
        exact ⟨by rw [HV.out]; rfl, ((Below.refl _ _).alloc (Nat.le_refl _) _).alloc (by simp) _⟩
    · have HW : Hid (shapeB ⟨kd, nm, tx, kk, pl⟩ = ⟨#[]⟩) := by show shapeB _ = _; rw [HV.out, if_neg (by omega), if_neg (by omega), if_neg (by omega), if_neg (by omega), if_neg (by omega)]
      have u1 : (kd == 19) = false := by simp; omega
      have u2 : (kd == 20) = false := by simp; omega
      have u3 : (kd == 62) = false := by simp; omega
      have u4 : (kd == 12) = false := by simp; omega
      have u5 : (kd == 14) = false := by simp; omega
      have u6 : (kd == 13) = false := by simp; omega
      clear HV hk
      by_cases h7 : 70 ≤ kd
      · have v1 : decide (kd ≥ 70) = true := decide_eq_true h7
        have v2 : decide (kd ≤ 91) = false := decide_eq_false (by omega)
        clear hA
        go_enter Try.func46, Try.ntmps46
        go_wp2
        go_ret
        exact ⟨by rw [HW.out]; rfl, ((Below.refl _ _).alloc (Nat.le_refl _) _).alloc (by simp) _⟩
      · have v1 : decide (kd ≥ 70) = false := decide_eq_false h7
        clear hA
        go_enter Try.func46, Try.ntmps46
        go_wp2
        go_ret
        exact ⟨by rw [HW.out]; rfl, ((Below.refl _ _).alloc (Nat.le_refl _) _).alloc (by simp) _⟩

end Go.Proofs.Ytekogjmmfhbinaa
