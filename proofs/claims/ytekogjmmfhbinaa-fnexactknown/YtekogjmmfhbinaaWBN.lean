import Derived.Test.YtekogjmmfhbinaaTab
import Derived.Test.YtekogjmmfhbinaaWBA
namespace Go.Proofs.Ytekogjmmfhbinaa

open Go.RowKit



end Go.Proofs.Ytekogjmmfhbinaa

namespace Go.Proofs.Ytekogjmmfhbinaa

theorem isK_c (x : Nd) : isK x.kind 99 = pCode x := by
  obtain ⟨k, nm, tx, ks, pl⟩ := x
  rw [Bool.eq_iff_iff]
  unfold isK letK pCode
  simp only
  repeat' split
  all_goals simp
  all_goals omega

theorem isK_q (x : Nd) : isK x.kind 113 = pPat x := by
  obtain ⟨k, nm, tx, ks, pl⟩ := x
  rw [Bool.eq_iff_iff]
  unfold isK letK pPat
  simp only
  repeat' split
  all_goals simp
  all_goals omega

theorem isK_B (x : Nd) : isK x.kind 66 = pKind 82 x := by
  obtain ⟨k, nm, tx, ks, pl⟩ := x
  rw [Bool.eq_iff_iff]
  unfold isK letK pKind
  simp only
  repeat' split
  all_goals simp
  all_goals omega

theorem isK_R (x : Nd) : isK x.kind 82 = pKind 84 x := by
  obtain ⟨k, nm, tx, ks, pl⟩ := x
  rw [Bool.eq_iff_iff]
  unfold isK letK pKind
  simp only
  repeat' split
  all_goals simp
  all_goals omega

theorem range_all {q : Nat} {p : Nat → Bool} : ((List.range q).all p = true) ↔ ∀ i, i < q → p i = true := by
  rw [List.all_eq_true]
  exact ⟨fun h i hi => h i (List.mem_range.2 hi), fun h i hi => h i (List.mem_range.1 hi)⟩

theorem all_ndAt {ks : List Nd} {p : Nd → Bool} : (ks.all p = true) ↔ ∀ i, i < ks.length → p (ndAt ks i) = true := by
  rw [List.all_eq_true]
  constructor
  · intro h i hi
    rw [ndAt_get hi]
    exact h _ (List.getElem_mem hi)
  · intro h x hx
    obtain ⟨i, hi, rfl⟩ := List.mem_iff_getElem.1 hx
    have h9 := h i hi
    rwa [ndAt_get hi] at h9

theorem fits0_eq (ks : List Nd) : fitsB ⟨#[]⟩ 0 ks = fitAll [] ks := by
  cases ks with
  | nil => rfl
  | cons a ks => simp [fitsB, fitAll, ByteArray.size]

theorem fits1_eq (c : UInt8) (ks : List Nd) : fitsB ⟨#[c]⟩ 1 ks = fitAll [fun x => isK x.kind c.toNat] ks := by
  match ks with
  | [] => simp [fitsB, fitAll, ByteArray.size]
  | [a] => simp [fitsB, fitAll, ByteArray.size, List.range_succ, ndAt, atB]
  | a :: b :: ks => simp [fitsB, fitAll, ByteArray.size]

theorem fits2_eq (c d : UInt8) (ks : List Nd) : fitsB ⟨#[c, d]⟩ 2 ks = fitAll [fun x => isK x.kind c.toNat, fun x => isK x.kind d.toNat] ks := by
  match ks with
  | [] => simp [fitsB, fitAll, ByteArray.size]
  | [a] => simp [fitsB, fitAll, ByteArray.size]
  | [a, b] => simp [fitsB, fitAll, ByteArray.size, List.range_succ, ndAt, atB]
  | a :: b :: e :: ks => simp [fitsB, fitAll, ByteArray.size]

theorem fitsS_eq (c : UInt8) (ks : List Nd) : fitsB ⟨#[c, 42]⟩ 1 ks = ks.all (fun x => isK x.kind c.toNat) := by
  rw [Bool.eq_iff_iff, all_ndAt]
  unfold fitsB
  have e : (⟨#[c, 42]⟩ : ByteArray).size = 2 := rfl
  rw [e, if_pos (by omega), decide_eq_true (by omega), Bool.true_and, range_all]
  have h : ∀ i, i < ks.length → atB 2 1 ks.length i = 0 := by
    intro i hi
    unfold atB
    rw [if_pos (by omega), if_neg (by omega), if_pos (by omega)]
  constructor
  · intro H i hi
    have h9 := H i hi
    rw [h i hi] at h9
    exact h9
  · intro H i hi
    rw [h i hi]
    exact H i hi

theorem fitsL_eq (ks : List Nd) : fitsB ⟨#[66, 66, 42, 99]⟩ 2 ks = lastB (pKind 82) pCode ks := by
  rw [Bool.eq_iff_iff]
  unfold fitsB lastB
  have e : (⟨#[66, 66, 42, 99]⟩ : ByteArray).size = 4 := rfl
  rw [e, if_pos (by omega), Bool.and_eq_true, range_all, Bool.and_eq_true, Bool.and_eq_true, all_ndAt]
  simp only [decide_eq_true_eq]
  constructor
  · rintro ⟨h2, H⟩
    have h2' : 2 ≤ ks.length := by omega
    refine ⟨⟨h2', ?_⟩, ?_⟩
    · intro i hi
      simp at hi
      have h9 := H i (by omega)
      have e1 : atB 4 2 ks.length i = 0 ∨ atB 4 2 ks.length i = 1 := by
        unfold atB
        rw [if_pos (by omega), if_neg (by omega)]
        split <;> omega
      have e2 : ndAt (ks.take (ks.length - 1)) i = ndAt ks i := by
        unfold ndAt
        rw [List.getElem?_take]
        rw [if_pos (by omega)]
      rw [e2, ← isK_B]
      rcases e1 with e1 | e1 <;> (rw [e1] at h9; exact h9)
    · have h9 := H (ks.length - 1) (by omega)
      have e1 : atB 4 2 ks.length (ks.length - 1) = 3 := by
        unfold atB
        rw [if_pos (by omega), if_pos (by omega)]
        omega
      rw [e1] at h9
      rw [← isK_c]
      exact h9
  · rintro ⟨⟨h2, H⟩, HL⟩
    refine ⟨by omega, ?_⟩
    intro i hi
    by_cases hl : i = ks.length - 1
    · subst hl
      have e1 : atB 4 2 ks.length (ks.length - 1) = 3 := by
        unfold atB
        rw [if_pos (by omega), if_pos (by omega)]
        omega
      rw [e1]
      rw [← isK_c] at HL
      exact HL
    · have h9 := H i (by simp; omega)
      have e2 : ndAt (ks.take (ks.length - 1)) i = ndAt ks i := by
        unfold ndAt
        rw [List.getElem?_take]
        rw [if_pos (by omega)]
      rw [e2, ← isK_B] at h9
      have e1 : atB 4 2 ks.length i = 0 ∨ atB 4 2 ks.length i = 1 := by
        unfold atB
        rw [if_pos (by omega), if_neg (by omega)]
        split <;> omega
      rcases e1 with e1 | e1 <;> (rw [e1]; exact h9)

theorem fitsF_eq (ks : List Nd) : fitsB ⟨#[99, 82, 82, 42]⟩ 3 ks = firstB pCode (pKind 84) ks := by
  rw [Bool.eq_iff_iff]
  unfold fitsB firstB
  have e : (⟨#[99, 82, 82, 42]⟩ : ByteArray).size = 4 := rfl
  rw [e, if_pos (by omega), Bool.and_eq_true, range_all, Bool.and_eq_true, Bool.and_eq_true, all_ndAt]
  simp only [decide_eq_true_eq]
  have e0 : ∀ q, 0 < q → atB 4 3 q 0 = 0 := by
    intro q hq
    unfold atB
    rw [if_pos (by omega), if_neg (by omega), if_neg (by omega)]
  have e1 : ∀ q i, 1 ≤ i → i < q → atB 4 3 q i = 1 ∨ atB 4 3 q i = 2 := by
    intro q i h1 hi
    unfold atB
    rw [if_pos (by omega), if_neg (by omega)]
    split <;> omega
  have e2 : ∀ i, ndAt (ks.drop 1) i = ndAt ks (i + 1) := by
    intro i
    unfold ndAt
    rw [List.getElem?_drop, Nat.add_comm]
  constructor
  · rintro ⟨h2, H⟩
    have h2' : 2 ≤ ks.length := by omega
    refine ⟨⟨h2', ?_⟩, ?_⟩
    · have h9 := H 0 (by omega)
      rw [e0 _ (by omega)] at h9
      rw [← isK_c]
      exact h9
    · intro i hi
      simp at hi
      have h9 := H (i + 1) (by omega)
      rw [e2, ← isK_R]
      rcases e1 ks.length (i + 1) (by omega) (by omega) with h8 | h8 <;> (rw [h8] at h9; exact h9)
  · rintro ⟨⟨h2, H0⟩, H⟩
    refine ⟨by omega, ?_⟩
    intro i hi
    by_cases hz : i = 0
    · subst hz
      rw [e0 _ (by omega)]
      rw [← isK_c] at H0
      exact H0
    · have h9 := H (i - 1) (by simp; omega)
      rw [e2, show i - 1 + 1 = i by omega, ← isK_R] at h9
      rcases e1 ks.length i (by omega) (by omega) with h8 | h8 <;> (rw [h8]; exact h9)

theorem kind_list {k : Int} (h : letK k ≠ 45) : k = 12 ∨ k = 13 ∨ k = 14 ∨ k = 60 ∨ k = 62 ∨ k = 15 ∨ k = 17 ∨ k = 18 ∨ k = 19 ∨ k = 20 ∨ k = 70 ∨ k = 71 ∨ k = 72 ∨ k = 73 ∨ k = 74 ∨ k = 75 ∨ k = 76 ∨ k = 77 ∨ k = 78 ∨ k = 79 ∨ k = 80 ∨ k = 81 ∨ k = 82 ∨ k = 83 ∨ k = 84 ∨ k = 85 ∨ k = 86 ∨ k = 87 ∨ k = 88 ∨ k = 89 ∨ k = 90 ∨ k = 91 := by
  unfold letK at h
  repeat' split at h
  all_goals omega

theorem own_list {n : Nat} {p : Nd → Bool} (h : codeOwn n = some p) : letK (n : Int) ≠ 45 := by
  unfold codeOwn at h
  split at h
  all_goals first | (cases h) | decide
  all_goals decide

theorem dec_beq (n : Int) : decide (n = 0) = (n == 0) := by
  by_cases h : n = 0
  · subst h; rfl
  · rw [decide_eq_false h, beq_eq_false_iff_ne.2 h]

theorem own_eq (x : Nd) (h : letK x.kind ≠ 45) : ∃ p, codeOwn x.kind.toNat = some p ∧ ownB x = (x.place == 0 && p x) := by
  obtain ⟨k, nm, tx, ks, pl⟩ := x
  have hk := kind_list h
  clear h
  simp only at hk ⊢
  rcases hk with rfl | rfl | rfl | rfl | rfl | rfl | rfl | rfl | rfl | rfl | rfl | rfl | rfl | rfl | rfl | rfl | rfl | rfl | rfl | rfl | rfl | rfl | rfl | rfl | rfl | rfl | rfl | rfl | rfl | rfl | rfl | rfl
  all_goals
    refine ⟨_, rfl, ?_⟩
    simp [ownB, boundK, pText, pBare, pNumb, pNum, pGiven, pFail, pBin, pUn]
  all_goals rw [dec_beq]

theorem fun_c : (fun x : Nd => isK x.kind (99 : UInt8).toNat) = pCode := funext isK_c

theorem fun_q : (fun x : Nd => isK x.kind (113 : UInt8).toNat) = pPat := funext isK_q

theorem kids_19 (nm : Int) (tx : ByteArray) (kk pl : Int) (ks : List Nd) (hk : kk = (ks.length : Int)) : (!tup1 ⟨19, nm, tx, kk, pl⟩ && fitsB (shapeB ⟨19, nm, tx, kk, pl⟩) (starOf (shapeB ⟨19, nm, tx, kk, pl⟩)) ks) = codeKids 19 ⟨19, nm, tx, kk, pl⟩ ks := by
  have e3 : tup1 ⟨19, nm, tx, kk, pl⟩ = false := by simp [tup1]
  subst hk
  match ks with
  | [] =>
    have e1 : shapeB ⟨19, nm, tx, (([] : List Nd).length : Int), pl⟩ = ⟨#[]⟩ := by simp [shapeB]
    rw [e1, e3, show starOf ⟨#[]⟩ = 0 by decide, fits0_eq]
    rfl
  | [a] =>
    have e1 : shapeB ⟨19, nm, tx, (([a] : List Nd).length : Int), pl⟩ = ⟨#[113]⟩ := by simp [shapeB]
    rw [e1, e3, show starOf ⟨#[113]⟩ = 1 by decide, fits1_eq, fun_q]
    simp [fitAll, codeKids]
  | a :: b :: ks =>
    have e1 : shapeB ⟨19, nm, tx, ((a :: b :: ks : List Nd).length : Int), pl⟩ = ⟨#[113]⟩ := by simp [shapeB]; omega
    rw [e1, e3, show starOf ⟨#[113]⟩ = 1 by decide, fits1_eq, fun_q]
    have e2 : decide (((a :: b :: ks : List Nd).length : Int) ≤ 1) = false := decide_eq_false (by simp; omega)
    show (true && fitAll [pPat] (a :: b :: ks)) = (decide (((a :: b :: ks : List Nd).length : Int) ≤ 1) && (a :: b :: ks).all pPat)
    rw [e2]
    simp [fitAll]

end Go.Proofs.Ytekogjmmfhbinaa
