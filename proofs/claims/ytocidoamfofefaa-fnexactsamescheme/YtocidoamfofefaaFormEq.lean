
import Derived.Test.YtocidoamfofefaaSForm
import Derived.Test.YtocidoamfofefaaFormI
namespace Go.Proofs.Ytocidoamfofefaa

theorem isK_c (x : Nd) : isK x.kind 99 = pCode x := by
  obtain ⟨k, nm, tx, ks, pl⟩ := x
  rw [Bool.eq_iff_iff]
  unfold isK letK pCode
  simp only
  repeat' split
  all_goals simp
  all_goals omega

theorem isK_t (x : Nd) : isK x.kind 116 = pType x := by
  obtain ⟨k, nm, tx, ks, pl⟩ := x
  rw [Bool.eq_iff_iff]
  unfold isK letK pType
  simp only
  repeat' split
  all_goals simp
  all_goals omega

theorem isK_s (x : Nd) : isK x.kind 115 = pScheme x := by
  obtain ⟨k, nm, tx, ks, pl⟩ := x
  rw [Bool.eq_iff_iff]
  unfold isK letK pScheme
  simp only [pType]
  repeat' split
  all_goals simp
  all_goals omega

theorem isK_q (x : Nd) : isK x.kind 113 = pPat x := by
  obtain ⟨k, nm, tx, ks, pl⟩ := x
  rw [Bool.eq_iff_iff]
  unfold isK letK pPat
  simp only
  repeat' split
  all_goals simp
  all_goals omega

theorem isK_B (x : Nd) : isK x.kind 66 = pKind 82 x := by
  obtain ⟨k, nm, tx, ks, pl⟩ := x
  rw [Bool.eq_iff_iff]
  unfold isK letK pKind
  simp only
  repeat' split
  all_goals simp
  all_goals omega

theorem isK_R (x : Nd) : isK x.kind 82 = pKind 84 x := by
  obtain ⟨k, nm, tx, ks, pl⟩ := x
  rw [Bool.eq_iff_iff]
  unfold isK letK pKind
  simp only
  repeat' split
  all_goals simp
  all_goals omega

theorem range_all {q : Nat} {p : Nat → Bool} : ((List.range q).all p = true) ↔ ∀ i, i < q → p i = true := by
  rw [List.all_eq_true]
  exact ⟨fun h i hi => h i (List.mem_range.2 hi), fun h i hi => h i (List.mem_range.1 hi)⟩

theorem all_ndAt {ks : List Nd} {p : Nd → Bool} : (ks.all p = true) ↔ ∀ i, i < ks.length → p (ndAt ks i) = true := by
  rw [List.all_eq_true]
  constructor
  · intro h i hi
    rw [ndAt_get hi]
    exact h _ (List.getElem_mem hi)
  · intro h x hx
    obtain ⟨i, hi, rfl⟩ := List.mem_iff_getElem.1 hx
    have h9 := h i hi
    rwa [ndAt_get hi] at h9

theorem fits0_eq (ks : List Nd) : fitsB ⟨#[]⟩ 0 ks = fitAll [] ks := by
  cases ks with
  | nil => rfl
  | cons a ks => simp [fitsB, fitAll, ByteArray.size]

theorem fits1_eq (c : UInt8) (ks : List Nd) : fitsB ⟨#[c]⟩ 1 ks = fitAll [fun x => isK x.kind c.toNat] ks := by
  match ks with
  | [] => simp [fitsB, fitAll, ByteArray.size]
  | [a] => simp [fitsB, fitAll, ByteArray.size, List.range_succ, ndAt, atB]
  | a :: b :: ks => simp [fitsB, fitAll, ByteArray.size]

theorem fits2_eq (c d : UInt8) (ks : List Nd) : fitsB ⟨#[c, d]⟩ 2 ks = fitAll [fun x => isK x.kind c.toNat, fun x => isK x.kind d.toNat] ks := by
  match ks with
  | [] => simp [fitsB, fitAll, ByteArray.size]
  | [a] => simp [fitsB, fitAll, ByteArray.size]
  | [a, b] => simp [fitsB, fitAll, ByteArray.size, List.range_succ, ndAt, atB]
  | a :: b :: e :: ks => simp [fitsB, fitAll, ByteArray.size]

theorem fits3_eq (c d e : UInt8) (ks : List Nd) : fitsB ⟨#[c, d, e]⟩ 3 ks = fitAll [fun x => isK x.kind c.toNat, fun x => isK x.kind d.toNat, fun x => isK x.kind e.toNat] ks := by
  match ks with
  | [] => simp [fitsB, fitAll, ByteArray.size]
  | [a] => simp [fitsB, fitAll, ByteArray.size]
  | [a, b] => simp [fitsB, fitAll, ByteArray.size]
  | [a, b, f] => simp [fitsB, fitAll, ByteArray.size, List.range_succ, ndAt, atB]
  | a :: b :: f :: g :: ks => simp [fitsB, fitAll, ByteArray.size]

theorem fitsS_eq (c : UInt8) (ks : List Nd) : fitsB ⟨#[c, 42]⟩ 1 ks = ks.all (fun x => isK x.kind c.toNat) := by
  rw [Bool.eq_iff_iff, all_ndAt]
  unfold fitsB
  have e : (⟨#[c, 42]⟩ : ByteArray).size = 2 := rfl
  rw [e, if_pos (by omega), decide_eq_true (by omega), Bool.true_and, range_all]
  have h : ∀ i, i < ks.length → atB 2 1 ks.length i = 0 := by
    intro i hi
    unfold atB
    rw [if_pos (by omega), if_neg (by omega), if_pos (by omega)]
  constructor
  · intro H i hi
    have h9 := H i hi
    rw [h i hi] at h9
    exact h9
  · intro H i hi
    rw [h i hi]
    exact H i hi

theorem fitsL_eq (ks : List Nd) : fitsB ⟨#[66, 66, 42, 99]⟩ 2 ks = lastB (pKind 82) pCode ks := by
  rw [Bool.eq_iff_iff]
  unfold fitsB lastB
  have e : (⟨#[66, 66, 42, 99]⟩ : ByteArray).size = 4 := rfl
  rw [e, if_pos (by omega), Bool.and_eq_true, range_all, Bool.and_eq_true, Bool.and_eq_true, all_ndAt]
  simp only [decide_eq_true_eq]
  constructor
  · rintro ⟨h2, H⟩
    have h2' : 2 ≤ ks.length := by omega
    refine ⟨⟨h2', ?_⟩, ?_⟩
    · intro i hi
      simp at hi
      have h9 := H i (by omega)
      have e1 : atB 4 2 ks.length i = 0 ∨ atB 4 2 ks.length i = 1 := by
        unfold atB
        rw [if_pos (by omega), if_neg (by omega)]
        split <;> omega
      have e2 : ndAt (ks.take (ks.length - 1)) i = ndAt ks i := by
        unfold ndAt
        rw [List.getElem?_take]
        rw [if_pos (by omega)]
      rw [e2, ← isK_B]
      rcases e1 with e1 | e1 <;> (rw [e1] at h9; exact h9)
    · have h9 := H (ks.length - 1) (by omega)
      have e1 : atB 4 2 ks.length (ks.length - 1) = 3 := by
        unfold atB
        rw [if_pos (by omega), if_pos (by omega)]
        omega
      rw [e1] at h9
      rw [← isK_c]
      exact h9
  · rintro ⟨⟨h2, H⟩, HL⟩
    refine ⟨by omega, ?_⟩
    intro i hi
    by_cases hl : i = ks.length - 1
    · subst hl
      have e1 : atB 4 2 ks.length (ks.length - 1) = 3 := by
        unfold atB
        rw [if_pos (by omega), if_pos (by omega)]
        omega
      rw [e1]
      rw [← isK_c] at HL
      exact HL
    · have h9 := H i (by simp; omega)
      have e2 : ndAt (ks.take (ks.length - 1)) i = ndAt ks i := by
        unfold ndAt
        rw [List.getElem?_take]
        rw [if_pos (by omega)]
      rw [e2, ← isK_B] at h9
      have e1 : atB 4 2 ks.length i = 0 ∨ atB 4 2 ks.length i = 1 := by
        unfold atB
        rw [if_pos (by omega), if_neg (by omega)]
        split <;> omega
      rcases e1 with e1 | e1 <;> (rw [e1]; exact h9)

theorem fitsF_eq (ks : List Nd) : fitsB ⟨#[99, 82, 82, 42]⟩ 3 ks = firstB pCode (pKind 84) ks := by
  rw [Bool.eq_iff_iff]
  unfold fitsB firstB
  have e : (⟨#[99, 82, 82, 42]⟩ : ByteArray).size = 4 := rfl
  rw [e, if_pos (by omega), Bool.and_eq_true, range_all, Bool.and_eq_true, Bool.and_eq_true, all_ndAt]
  simp only [decide_eq_true_eq]
  have e0 : ∀ q, 0 < q → atB 4 3 q 0 = 0 := by
    intro q hq
    unfold atB
    rw [if_pos (by omega), if_neg (by omega), if_neg (by omega)]
  have e1 : ∀ q i, 1 ≤ i → i < q → atB 4 3 q i = 1 ∨ atB 4 3 q i = 2 := by
    intro q i h1 hi
    unfold atB
    rw [if_pos (by omega), if_neg (by omega)]
    split <;> omega
  have e2 : ∀ i, ndAt (ks.drop 1) i = ndAt ks (i + 1) := by
    intro i
    unfold ndAt
    rw [List.getElem?_drop, Nat.add_comm]
  constructor
  · rintro ⟨h2, H⟩
    have h2' : 2 ≤ ks.length := by omega
    refine ⟨⟨h2', ?_⟩, ?_⟩
    · have h9 := H 0 (by omega)
      rw [e0 _ (by omega)] at h9
      rw [← isK_c]
      exact h9
    · intro i hi
      simp at hi
      have h9 := H (i + 1) (by omega)
      rw [e2, ← isK_R]
      rcases e1 ks.length (i + 1) (by omega) (by omega) with h8 | h8 <;> (rw [h8] at h9; exact h9)
  · rintro ⟨⟨h2, H0⟩, H⟩
    refine ⟨by omega, ?_⟩
    intro i hi
    by_cases hz : i = 0
    · subst hz
      rw [e0 _ (by omega)]
      rw [← isK_c] at H0
      exact H0
    · have h9 := H (i - 1) (by simp; omega)
      rw [e2, show i - 1 + 1 = i by omega, ← isK_R] at h9
      rcases e1 ks.length i (by omega) (by omega) with h8 | h8 <;> (rw [h8]; exact h9)

theorem kind_list {k : Int} (h : letK k ≠ 45) : k = 12 ∨ k = 13 ∨ k = 14 ∨ k = 60 ∨ k = 62 ∨ k = 15 ∨ k = 17 ∨ k = 18 ∨ k = 19 ∨ k = 20 ∨ k = 70 ∨ k = 71 ∨ k = 72 ∨ k = 73 ∨ k = 74 ∨ k = 75 ∨ k = 76 ∨ k = 77 ∨ k = 78 ∨ k = 79 ∨ k = 80 ∨ k = 81 ∨ k = 82 ∨ k = 83 ∨ k = 84 ∨ k = 85 ∨ k = 86 ∨ k = 87 ∨ k = 88 ∨ k = 89 ∨ k = 90 ∨ k = 91 := by
  unfold letK at h
  repeat' split at h
  all_goals omega

theorem own_list {n : Nat} {p : Nd → Bool} (h : codeOwn n = some p) : letK (n : Int) ≠ 45 := by
  unfold codeOwn at h
  split at h
  all_goals first | (cases h) | decide
  all_goals decide

theorem dec_beq (n : Int) : decide (n = 0) = (n == 0) := by
  by_cases h : n = 0
  · subst h; rfl
  · rw [decide_eq_false h, beq_eq_false_iff_ne.2 h]

theorem own_eq (x : Nd) (h : letK x.kind ≠ 45) : ∃ p, codeOwn x.kind.toNat = some p ∧ ownB x = (x.place == 0 && p x) := by
  obtain ⟨k, nm, tx, ks, pl⟩ := x
  have hk := kind_list h
  clear h
  simp only at hk ⊢
  rcases hk with rfl | rfl | rfl | rfl | rfl | rfl | rfl | rfl | rfl | rfl | rfl | rfl | rfl | rfl | rfl | rfl | rfl | rfl | rfl | rfl | rfl | rfl | rfl | rfl | rfl | rfl | rfl | rfl | rfl | rfl | rfl | rfl
  all_goals
    refine ⟨_, rfl, ?_⟩
    simp [ownB, boundK, pText, pBare, pNumb, pNum, pGiven, pFail, pBin, pUn]
  all_goals rw [dec_beq]

theorem fun_t : (fun x : Nd => isK x.kind (116 : UInt8).toNat) = pType := funext isK_t

theorem fun_c : (fun x : Nd => isK x.kind (99 : UInt8).toNat) = pCode := funext isK_c

theorem fun_s : (fun x : Nd => isK x.kind (115 : UInt8).toNat) = pScheme := funext isK_s

theorem fun_q : (fun x : Nd => isK x.kind (113 : UInt8).toNat) = pPat := funext isK_q

theorem kids_12 (nm : Int) (tx : ByteArray) (kk pl : Int) (ks : List Nd) : (!tup1 ⟨12, nm, tx, kk, pl⟩ && fitsB (shapeB ⟨12, nm, tx, kk, pl⟩) (starOf (shapeB ⟨12, nm, tx, kk, pl⟩)) ks) = codeKids 12 ⟨12, nm, tx, kk, pl⟩ ks := by
  have e1 : shapeB ⟨12, nm, tx, kk, pl⟩ = ⟨#[116, 42]⟩ := by simp [shapeB]
  have e2 : starOf ⟨#[116, 42]⟩ = 1 := by decide
  have e3 : tup1 ⟨12, nm, tx, kk, pl⟩ = false := by simp [tup1]
  rw [e1, e2, e3, fitsS_eq, fun_t]
  show (true && ks.all pType) = (decide ((0 : Int) ≤ (ks.length : Int)) && ks.all pType)
  rw [decide_eq_true (by omega)]

theorem kids_13 (nm : Int) (tx : ByteArray) (kk pl : Int) (ks : List Nd) : (!tup1 ⟨13, nm, tx, kk, pl⟩ && fitsB (shapeB ⟨13, nm, tx, kk, pl⟩) (starOf (shapeB ⟨13, nm, tx, kk, pl⟩)) ks) = codeKids 13 ⟨13, nm, tx, kk, pl⟩ ks := by
  have e1 : shapeB ⟨13, nm, tx, kk, pl⟩ = ⟨#[116, 116]⟩ := by simp [shapeB]
  have e2 : starOf ⟨#[116, 116]⟩ = 2 := by decide
  have e3 : tup1 ⟨13, nm, tx, kk, pl⟩ = false := by simp [tup1]
  rw [e1, e2, e3, fits2_eq, fun_t]
  rfl

theorem kids_14 (nm : Int) (tx : ByteArray) (kk pl : Int) (ks : List Nd) (hk : kk = (ks.length : Int)) : (!tup1 ⟨14, nm, tx, kk, pl⟩ && fitsB (shapeB ⟨14, nm, tx, kk, pl⟩) (starOf (shapeB ⟨14, nm, tx, kk, pl⟩)) ks) = codeKids 14 ⟨14, nm, tx, kk, pl⟩ ks := by
  have e1 : shapeB ⟨14, nm, tx, kk, pl⟩ = ⟨#[116, 42]⟩ := by simp [shapeB]
  have e2 : starOf ⟨#[116, 42]⟩ = 1 := by decide
  have e3 : tup1 ⟨14, nm, tx, kk, pl⟩ = (kk == 1) := by simp [tup1]
  rw [e1, e2, e3, fitsS_eq, fun_t]
  subst hk
  rfl

theorem kids_60 (nm : Int) (tx : ByteArray) (kk pl : Int) (ks : List Nd) : (!tup1 ⟨60, nm, tx, kk, pl⟩ && fitsB (shapeB ⟨60, nm, tx, kk, pl⟩) (starOf (shapeB ⟨60, nm, tx, kk, pl⟩)) ks) = codeKids 60 ⟨60, nm, tx, kk, pl⟩ ks := by
  have e1 : shapeB ⟨60, nm, tx, kk, pl⟩ = ⟨#[]⟩ := by simp [shapeB]
  have e2 : starOf ⟨#[]⟩ = 0 := by decide
  have e3 : tup1 ⟨60, nm, tx, kk, pl⟩ = false := by simp [tup1]
  rw [e1, e2, e3, fits0_eq]
  rfl

theorem kids_62 (nm : Int) (tx : ByteArray) (kk pl : Int) (ks : List Nd) : (!tup1 ⟨62, nm, tx, kk, pl⟩ && fitsB (shapeB ⟨62, nm, tx, kk, pl⟩) (starOf (shapeB ⟨62, nm, tx, kk, pl⟩)) ks) = codeKids 62 ⟨62, nm, tx, kk, pl⟩ ks := by
  have e1 : shapeB ⟨62, nm, tx, kk, pl⟩ = ⟨#[115]⟩ := by simp [shapeB]
  have e2 : starOf ⟨#[115]⟩ = 1 := by decide
  have e3 : tup1 ⟨62, nm, tx, kk, pl⟩ = false := by simp [tup1]
  rw [e1, e2, e3, fits1_eq, fun_s]
  rfl

theorem kids_15 (nm : Int) (tx : ByteArray) (kk pl : Int) (ks : List Nd) : (!tup1 ⟨15, nm, tx, kk, pl⟩ && fitsB (shapeB ⟨15, nm, tx, kk, pl⟩) (starOf (shapeB ⟨15, nm, tx, kk, pl⟩)) ks) = codeKids 15 ⟨15, nm, tx, kk, pl⟩ ks := by
  have e1 : shapeB ⟨15, nm, tx, kk, pl⟩ = ⟨#[]⟩ := by simp [shapeB]
  have e2 : starOf ⟨#[]⟩ = 0 := by decide
  have e3 : tup1 ⟨15, nm, tx, kk, pl⟩ = false := by simp [tup1]
  rw [e1, e2, e3, fits0_eq]
  rfl

theorem kids_17 (nm : Int) (tx : ByteArray) (kk pl : Int) (ks : List Nd) : (!tup1 ⟨17, nm, tx, kk, pl⟩ && fitsB (shapeB ⟨17, nm, tx, kk, pl⟩) (starOf (shapeB ⟨17, nm, tx, kk, pl⟩)) ks) = codeKids 17 ⟨17, nm, tx, kk, pl⟩ ks := by
  have e1 : shapeB ⟨17, nm, tx, kk, pl⟩ = ⟨#[]⟩ := by simp [shapeB]
  have e2 : starOf ⟨#[]⟩ = 0 := by decide
  have e3 : tup1 ⟨17, nm, tx, kk, pl⟩ = false := by simp [tup1]
  rw [e1, e2, e3, fits0_eq]
  rfl

theorem kids_18 (nm : Int) (tx : ByteArray) (kk pl : Int) (ks : List Nd) : (!tup1 ⟨18, nm, tx, kk, pl⟩ && fitsB (shapeB ⟨18, nm, tx, kk, pl⟩) (starOf (shapeB ⟨18, nm, tx, kk, pl⟩)) ks) = codeKids 18 ⟨18, nm, tx, kk, pl⟩ ks := by
  have e1 : shapeB ⟨18, nm, tx, kk, pl⟩ = ⟨#[]⟩ := by simp [shapeB]
  have e2 : starOf ⟨#[]⟩ = 0 := by decide
  have e3 : tup1 ⟨18, nm, tx, kk, pl⟩ = false := by simp [tup1]
  rw [e1, e2, e3, fits0_eq]
  rfl

theorem kids_20 (nm : Int) (tx : ByteArray) (kk pl : Int) (ks : List Nd) (hk : kk = (ks.length : Int)) : (!tup1 ⟨20, nm, tx, kk, pl⟩ && fitsB (shapeB ⟨20, nm, tx, kk, pl⟩) (starOf (shapeB ⟨20, nm, tx, kk, pl⟩)) ks) = codeKids 20 ⟨20, nm, tx, kk, pl⟩ ks := by
  have e1 : shapeB ⟨20, nm, tx, kk, pl⟩ = ⟨#[113, 42]⟩ := by simp [shapeB]
  have e2 : starOf ⟨#[113, 42]⟩ = 1 := by decide
  have e3 : tup1 ⟨20, nm, tx, kk, pl⟩ = (kk == 1) := by simp [tup1]
  rw [e1, e2, e3, fitsS_eq, fun_q]
  subst hk
  rfl

theorem kids_70 (nm : Int) (tx : ByteArray) (kk pl : Int) (ks : List Nd) : (!tup1 ⟨70, nm, tx, kk, pl⟩ && fitsB (shapeB ⟨70, nm, tx, kk, pl⟩) (starOf (shapeB ⟨70, nm, tx, kk, pl⟩)) ks) = codeKids 70 ⟨70, nm, tx, kk, pl⟩ ks := by
  have e1 : shapeB ⟨70, nm, tx, kk, pl⟩ = ⟨#[]⟩ := by simp [shapeB, shapeN]
  have e2 : starOf ⟨#[]⟩ = 0 := by decide
  have e3 : tup1 ⟨70, nm, tx, kk, pl⟩ = false := by simp [tup1]
  rw [e1, e2, e3, fits0_eq]
  rfl

theorem kids_72 (nm : Int) (tx : ByteArray) (kk pl : Int) (ks : List Nd) : (!tup1 ⟨72, nm, tx, kk, pl⟩ && fitsB (shapeB ⟨72, nm, tx, kk, pl⟩) (starOf (shapeB ⟨72, nm, tx, kk, pl⟩)) ks) = codeKids 72 ⟨72, nm, tx, kk, pl⟩ ks := by
  have e1 : shapeB ⟨72, nm, tx, kk, pl⟩ = ⟨#[]⟩ := by simp [shapeB, shapeN]
  have e2 : starOf ⟨#[]⟩ = 0 := by decide
  have e3 : tup1 ⟨72, nm, tx, kk, pl⟩ = false := by simp [tup1]
  rw [e1, e2, e3, fits0_eq]
  rfl

theorem kids_73 (nm : Int) (tx : ByteArray) (kk pl : Int) (ks : List Nd) : (!tup1 ⟨73, nm, tx, kk, pl⟩ && fitsB (shapeB ⟨73, nm, tx, kk, pl⟩) (starOf (shapeB ⟨73, nm, tx, kk, pl⟩)) ks) = codeKids 73 ⟨73, nm, tx, kk, pl⟩ ks := by
  have e1 : shapeB ⟨73, nm, tx, kk, pl⟩ = ⟨#[]⟩ := by simp [shapeB, shapeN]
  have e2 : starOf ⟨#[]⟩ = 0 := by decide
  have e3 : tup1 ⟨73, nm, tx, kk, pl⟩ = false := by simp [tup1]
  rw [e1, e2, e3, fits0_eq]
  rfl

theorem kids_74 (nm : Int) (tx : ByteArray) (kk pl : Int) (ks : List Nd) : (!tup1 ⟨74, nm, tx, kk, pl⟩ && fitsB (shapeB ⟨74, nm, tx, kk, pl⟩) (starOf (shapeB ⟨74, nm, tx, kk, pl⟩)) ks) = codeKids 74 ⟨74, nm, tx, kk, pl⟩ ks := by
  have e1 : shapeB ⟨74, nm, tx, kk, pl⟩ = ⟨#[116, 42]⟩ := by simp [shapeB, shapeN]
  have e2 : starOf ⟨#[116, 42]⟩ = 1 := by decide
  have e3 : tup1 ⟨74, nm, tx, kk, pl⟩ = false := by simp [tup1]
  rw [e1, e2, e3, fitsS_eq, fun_t]
  show (true && ks.all pType) = (decide ((0 : Int) ≤ (ks.length : Int)) && ks.all pType)
  rw [decide_eq_true (by omega)]

theorem kids_75 (nm : Int) (tx : ByteArray) (kk pl : Int) (ks : List Nd) (hk : kk = (ks.length : Int)) : (!tup1 ⟨75, nm, tx, kk, pl⟩ && fitsB (shapeB ⟨75, nm, tx, kk, pl⟩) (starOf (shapeB ⟨75, nm, tx, kk, pl⟩)) ks) = codeKids 75 ⟨75, nm, tx, kk, pl⟩ ks := by
  have e1 : shapeB ⟨75, nm, tx, kk, pl⟩ = ⟨#[99, 42]⟩ := by simp [shapeB, shapeN]
  have e2 : starOf ⟨#[99, 42]⟩ = 1 := by decide
  have e3 : tup1 ⟨75, nm, tx, kk, pl⟩ = (kk == 1) := by simp [tup1]
  rw [e1, e2, e3, fitsS_eq, fun_c]
  subst hk
  rfl

theorem kids_76 (nm : Int) (tx : ByteArray) (kk pl : Int) (ks : List Nd) : (!tup1 ⟨76, nm, tx, kk, pl⟩ && fitsB (shapeB ⟨76, nm, tx, kk, pl⟩) (starOf (shapeB ⟨76, nm, tx, kk, pl⟩)) ks) = codeKids 76 ⟨76, nm, tx, kk, pl⟩ ks := by
  have e1 : shapeB ⟨76, nm, tx, kk, pl⟩ = ⟨#[116, 99]⟩ := by simp [shapeB, shapeN]
  have e2 : starOf ⟨#[116, 99]⟩ = 2 := by decide
  have e3 : tup1 ⟨76, nm, tx, kk, pl⟩ = false := by simp [tup1]
  rw [e1, e2, e3, fits2_eq, fun_t, fun_c]
  rfl

theorem kids_77 (nm : Int) (tx : ByteArray) (kk pl : Int) (ks : List Nd) : (!tup1 ⟨77, nm, tx, kk, pl⟩ && fitsB (shapeB ⟨77, nm, tx, kk, pl⟩) (starOf (shapeB ⟨77, nm, tx, kk, pl⟩)) ks) = codeKids 77 ⟨77, nm, tx, kk, pl⟩ ks := by
  have e1 : shapeB ⟨77, nm, tx, kk, pl⟩ = ⟨#[99, 99]⟩ := by simp [shapeB, shapeN]
  have e2 : starOf ⟨#[99, 99]⟩ = 2 := by decide
  have e3 : tup1 ⟨77, nm, tx, kk, pl⟩ = false := by simp [tup1]
  rw [e1, e2, e3, fits2_eq, fun_c]
  rfl

theorem kids_78 (nm : Int) (tx : ByteArray) (kk pl : Int) (ks : List Nd) : (!tup1 ⟨78, nm, tx, kk, pl⟩ && fitsB (shapeB ⟨78, nm, tx, kk, pl⟩) (starOf (shapeB ⟨78, nm, tx, kk, pl⟩)) ks) = codeKids 78 ⟨78, nm, tx, kk, pl⟩ ks := by
  have e1 : shapeB ⟨78, nm, tx, kk, pl⟩ = ⟨#[99]⟩ := by simp [shapeB, shapeN]
  have e2 : starOf ⟨#[99]⟩ = 1 := by decide
  have e3 : tup1 ⟨78, nm, tx, kk, pl⟩ = false := by simp [tup1]
  rw [e1, e2, e3, fits1_eq, fun_c]
  rfl

theorem kids_79 (nm : Int) (tx : ByteArray) (kk pl : Int) (ks : List Nd) : (!tup1 ⟨79, nm, tx, kk, pl⟩ && fitsB (shapeB ⟨79, nm, tx, kk, pl⟩) (starOf (shapeB ⟨79, nm, tx, kk, pl⟩)) ks) = codeKids 79 ⟨79, nm, tx, kk, pl⟩ ks := by
  have e1 : shapeB ⟨79, nm, tx, kk, pl⟩ = ⟨#[99, 116]⟩ := by simp [shapeB, shapeN]
  have e2 : starOf ⟨#[99, 116]⟩ = 2 := by decide
  have e3 : tup1 ⟨79, nm, tx, kk, pl⟩ = false := by simp [tup1]
  rw [e1, e2, e3, fits2_eq, fun_c, fun_t]
  rfl

theorem kids_80 (nm : Int) (tx : ByteArray) (kk pl : Int) (ks : List Nd) : (!tup1 ⟨80, nm, tx, kk, pl⟩ && fitsB (shapeB ⟨80, nm, tx, kk, pl⟩) (starOf (shapeB ⟨80, nm, tx, kk, pl⟩)) ks) = codeKids 80 ⟨80, nm, tx, kk, pl⟩ ks := by
  have e1 : shapeB ⟨80, nm, tx, kk, pl⟩ = ⟨#[115, 99, 99]⟩ := by simp [shapeB, shapeN]
  have e2 : starOf ⟨#[115, 99, 99]⟩ = 3 := by decide
  have e3 : tup1 ⟨80, nm, tx, kk, pl⟩ = false := by simp [tup1]
  rw [e1, e2, e3, fits3_eq, fun_s, fun_c]
  rfl

theorem kids_81 (nm : Int) (tx : ByteArray) (kk pl : Int) (ks : List Nd) : (!tup1 ⟨81, nm, tx, kk, pl⟩ && fitsB (shapeB ⟨81, nm, tx, kk, pl⟩) (starOf (shapeB ⟨81, nm, tx, kk, pl⟩)) ks) = codeKids 81 ⟨81, nm, tx, kk, pl⟩ ks := by
  have e1 : shapeB ⟨81, nm, tx, kk, pl⟩ = ⟨#[66, 66, 42, 99]⟩ := by simp [shapeB, shapeN]
  have e2 : starOf ⟨#[66, 66, 42, 99]⟩ = 2 := by decide
  have e3 : tup1 ⟨81, nm, tx, kk, pl⟩ = false := by simp [tup1]
  rw [e1, e2, e3, fitsL_eq]
  rfl

theorem kids_82 (nm : Int) (tx : ByteArray) (kk pl : Int) (ks : List Nd) : (!tup1 ⟨82, nm, tx, kk, pl⟩ && fitsB (shapeB ⟨82, nm, tx, kk, pl⟩) (starOf (shapeB ⟨82, nm, tx, kk, pl⟩)) ks) = codeKids 82 ⟨82, nm, tx, kk, pl⟩ ks := by
  have e1 : shapeB ⟨82, nm, tx, kk, pl⟩ = ⟨#[115, 99]⟩ := by simp [shapeB, shapeN]
  have e2 : starOf ⟨#[115, 99]⟩ = 2 := by decide
  have e3 : tup1 ⟨82, nm, tx, kk, pl⟩ = false := by simp [tup1]
  rw [e1, e2, e3, fits2_eq, fun_s, fun_c]
  rfl

theorem kids_83 (nm : Int) (tx : ByteArray) (kk pl : Int) (ks : List Nd) : (!tup1 ⟨83, nm, tx, kk, pl⟩ && fitsB (shapeB ⟨83, nm, tx, kk, pl⟩) (starOf (shapeB ⟨83, nm, tx, kk, pl⟩)) ks) = codeKids 83 ⟨83, nm, tx, kk, pl⟩ ks := by
  have e1 : shapeB ⟨83, nm, tx, kk, pl⟩ = ⟨#[99, 82, 82, 42]⟩ := by simp [shapeB, shapeN]
  have e2 : starOf ⟨#[99, 82, 82, 42]⟩ = 3 := by decide
  have e3 : tup1 ⟨83, nm, tx, kk, pl⟩ = false := by simp [tup1]
  rw [e1, e2, e3, fitsF_eq]
  rfl

theorem kids_84 (nm : Int) (tx : ByteArray) (kk pl : Int) (ks : List Nd) : (!tup1 ⟨84, nm, tx, kk, pl⟩ && fitsB (shapeB ⟨84, nm, tx, kk, pl⟩) (starOf (shapeB ⟨84, nm, tx, kk, pl⟩)) ks) = codeKids 84 ⟨84, nm, tx, kk, pl⟩ ks := by
  have e1 : shapeB ⟨84, nm, tx, kk, pl⟩ = ⟨#[113, 99]⟩ := by simp [shapeB, shapeN]
  have e2 : starOf ⟨#[113, 99]⟩ = 2 := by decide
  have e3 : tup1 ⟨84, nm, tx, kk, pl⟩ = false := by simp [tup1]
  rw [e1, e2, e3, fits2_eq, fun_q, fun_c]
  rfl

theorem kids_85 (nm : Int) (tx : ByteArray) (kk pl : Int) (ks : List Nd) : (!tup1 ⟨85, nm, tx, kk, pl⟩ && fitsB (shapeB ⟨85, nm, tx, kk, pl⟩) (starOf (shapeB ⟨85, nm, tx, kk, pl⟩)) ks) = codeKids 85 ⟨85, nm, tx, kk, pl⟩ ks := by
  have e1 : shapeB ⟨85, nm, tx, kk, pl⟩ = ⟨#[116, 99]⟩ := by simp [shapeB, shapeN]
  have e2 : starOf ⟨#[116, 99]⟩ = 2 := by decide
  have e3 : tup1 ⟨85, nm, tx, kk, pl⟩ = false := by simp [tup1]
  rw [e1, e2, e3, fits2_eq, fun_t, fun_c]
  rfl

theorem kids_86 (nm : Int) (tx : ByteArray) (kk pl : Int) (ks : List Nd) : (!tup1 ⟨86, nm, tx, kk, pl⟩ && fitsB (shapeB ⟨86, nm, tx, kk, pl⟩) (starOf (shapeB ⟨86, nm, tx, kk, pl⟩)) ks) = codeKids 86 ⟨86, nm, tx, kk, pl⟩ ks := by
  have e1 : shapeB ⟨86, nm, tx, kk, pl⟩ = ⟨#[99, 82, 82, 42]⟩ := by simp [shapeB, shapeN]
  have e2 : starOf ⟨#[99, 82, 82, 42]⟩ = 3 := by decide
  have e3 : tup1 ⟨86, nm, tx, kk, pl⟩ = false := by simp [tup1]
  rw [e1, e2, e3, fitsF_eq]
  rfl

theorem kids_87 (nm : Int) (tx : ByteArray) (kk pl : Int) (ks : List Nd) : (!tup1 ⟨87, nm, tx, kk, pl⟩ && fitsB (shapeB ⟨87, nm, tx, kk, pl⟩) (starOf (shapeB ⟨87, nm, tx, kk, pl⟩)) ks) = codeKids 87 ⟨87, nm, tx, kk, pl⟩ ks := by
  have e1 : shapeB ⟨87, nm, tx, kk, pl⟩ = ⟨#[99, 99]⟩ := by simp [shapeB, shapeN]
  have e2 : starOf ⟨#[99, 99]⟩ = 2 := by decide
  have e3 : tup1 ⟨87, nm, tx, kk, pl⟩ = false := by simp [tup1]
  rw [e1, e2, e3, fits2_eq, fun_c]
  rfl

theorem kids_88 (nm : Int) (tx : ByteArray) (kk pl : Int) (ks : List Nd) : (!tup1 ⟨88, nm, tx, kk, pl⟩ && fitsB (shapeB ⟨88, nm, tx, kk, pl⟩) (starOf (shapeB ⟨88, nm, tx, kk, pl⟩)) ks) = codeKids 88 ⟨88, nm, tx, kk, pl⟩ ks := by
  have e1 : shapeB ⟨88, nm, tx, kk, pl⟩ = ⟨#[99, 99]⟩ := by simp [shapeB, shapeN]
  have e2 : starOf ⟨#[99, 99]⟩ = 2 := by decide
  have e3 : tup1 ⟨88, nm, tx, kk, pl⟩ = false := by simp [tup1]
  rw [e1, e2, e3, fits2_eq, fun_c]
  rfl

theorem kids_89 (nm : Int) (tx : ByteArray) (kk pl : Int) (ks : List Nd) : (!tup1 ⟨89, nm, tx, kk, pl⟩ && fitsB (shapeB ⟨89, nm, tx, kk, pl⟩) (starOf (shapeB ⟨89, nm, tx, kk, pl⟩)) ks) = codeKids 89 ⟨89, nm, tx, kk, pl⟩ ks := by
  have e1 : shapeB ⟨89, nm, tx, kk, pl⟩ = ⟨#[99]⟩ := by simp [shapeB, shapeN]
  have e2 : starOf ⟨#[99]⟩ = 1 := by decide
  have e3 : tup1 ⟨89, nm, tx, kk, pl⟩ = false := by simp [tup1]
  rw [e1, e2, e3, fits1_eq, fun_c]
  rfl

theorem kids_90 (nm : Int) (tx : ByteArray) (kk pl : Int) (ks : List Nd) : (!tup1 ⟨90, nm, tx, kk, pl⟩ && fitsB (shapeB ⟨90, nm, tx, kk, pl⟩) (starOf (shapeB ⟨90, nm, tx, kk, pl⟩)) ks) = codeKids 90 ⟨90, nm, tx, kk, pl⟩ ks := by
  have e1 : shapeB ⟨90, nm, tx, kk, pl⟩ = ⟨#[116]⟩ := by simp [shapeB, shapeN]
  have e2 : starOf ⟨#[116]⟩ = 1 := by decide
  have e3 : tup1 ⟨90, nm, tx, kk, pl⟩ = false := by simp [tup1]
  rw [e1, e2, e3, fits1_eq, fun_t]
  rfl

theorem kids_91 (nm : Int) (tx : ByteArray) (kk pl : Int) (ks : List Nd) : (!tup1 ⟨91, nm, tx, kk, pl⟩ && fitsB (shapeB ⟨91, nm, tx, kk, pl⟩) (starOf (shapeB ⟨91, nm, tx, kk, pl⟩)) ks) = codeKids 91 ⟨91, nm, tx, kk, pl⟩ ks := by
  have e1 : shapeB ⟨91, nm, tx, kk, pl⟩ = ⟨#[116, 113]⟩ := by simp [shapeB, shapeN]
  have e2 : starOf ⟨#[116, 113]⟩ = 2 := by decide
  have e3 : tup1 ⟨91, nm, tx, kk, pl⟩ = false := by simp [tup1]
  rw [e1, e2, e3, fits2_eq, fun_t, fun_q]
  rfl

theorem kids_19 (nm : Int) (tx : ByteArray) (kk pl : Int) (ks : List Nd) (hk : kk = (ks.length : Int)) : (!tup1 ⟨19, nm, tx, kk, pl⟩ && fitsB (shapeB ⟨19, nm, tx, kk, pl⟩) (starOf (shapeB ⟨19, nm, tx, kk, pl⟩)) ks) = codeKids 19 ⟨19, nm, tx, kk, pl⟩ ks := by
  have e3 : tup1 ⟨19, nm, tx, kk, pl⟩ = false := by simp [tup1]
  subst hk
  match ks with
  | [] =>
    have e1 : shapeB ⟨19, nm, tx, (([] : List Nd).length : Int), pl⟩ = ⟨#[]⟩ := by simp [shapeB]
    rw [e1, e3, show starOf ⟨#[]⟩ = 0 by decide, fits0_eq]
    rfl
  | [a] =>
    have e1 : shapeB ⟨19, nm, tx, (([a] : List Nd).length : Int), pl⟩ = ⟨#[113]⟩ := by simp [shapeB]
    rw [e1, e3, show starOf ⟨#[113]⟩ = 1 by decide, fits1_eq, fun_q]
    simp [fitAll, codeKids]
  | a :: b :: ks =>
    have e1 : shapeB ⟨19, nm, tx, ((a :: b :: ks : List Nd).length : Int), pl⟩ = ⟨#[113]⟩ := by simp [shapeB]; omega
    rw [e1, e3, show starOf ⟨#[113]⟩ = 1 by decide, fits1_eq, fun_q]
    have e2 : decide (((a :: b :: ks : List Nd).length : Int) ≤ 1) = false := decide_eq_false (by simp; omega)
    show (true && fitAll [pPat] (a :: b :: ks)) = (decide (((a :: b :: ks : List Nd).length : Int) ≤ 1) && (a :: b :: ks).all pPat)
    rw [e2]
    simp [fitAll]

theorem kids_71 (nm : Int) (tx : ByteArray) (kk pl : Int) (ks : List Nd) : (!tup1 ⟨71, nm, tx, kk, pl⟩ && fitsB (shapeB ⟨71, nm, tx, kk, pl⟩) (starOf (shapeB ⟨71, nm, tx, kk, pl⟩)) ks) = codeKids 71 ⟨71, nm, tx, kk, pl⟩ ks := by
  have e3 : tup1 ⟨71, nm, tx, kk, pl⟩ = false := by simp [tup1]
  show _ = refB _ ks
  by_cases h : nm = -8
  · subst h
    have e1 : shapeB ⟨71, -8, tx, kk, pl⟩ = ⟨#[116]⟩ := by simp [shapeB]
    rw [e1, e3, show starOf ⟨#[116]⟩ = 1 by decide, fits1_eq, fun_t]
    unfold refB
    rw [if_pos rfl]
    match ks with
    | [] => rfl
    | [a] => simp [fitAll, ndAt]
    | a :: b :: ks => simp [fitAll]
  · have e1 : shapeB ⟨71, nm, tx, kk, pl⟩ = ⟨#[]⟩ := by simp [shapeB, shapeN, h]
    rw [e1, e3, show starOf ⟨#[]⟩ = 0 by decide, fits0_eq]
    unfold refB
    rw [if_neg h]
    cases ks with
    | nil => rfl
    | cons a ks => simp [fitAll]

theorem kids_eq (x : Nd) (ks : List Nd) (h : letK x.kind ≠ 45) (hk : x.kids = (ks.length : Int)) : (!tup1 x && fitsB (shapeB x) (starOf (shapeB x)) ks) = codeKids x.kind.toNat x ks := by
  obtain ⟨k, nm, tx, kk, pl⟩ := x
  have hl := kind_list h
  clear h
  simp only at hl hk ⊢
  rcases hl with rfl | rfl | rfl | rfl | rfl | rfl | rfl | rfl | rfl | rfl | rfl | rfl | rfl | rfl | rfl | rfl | rfl | rfl | rfl | rfl | rfl | rfl | rfl | rfl | rfl | rfl | rfl | rfl | rfl | rfl | rfl | rfl
  · exact kids_12 nm tx kk pl ks
  · exact kids_13 nm tx kk pl ks
  · exact kids_14 nm tx kk pl ks hk
  · exact kids_60 nm tx kk pl ks
  · exact kids_62 nm tx kk pl ks
  · exact kids_15 nm tx kk pl ks
  · exact kids_17 nm tx kk pl ks
  · exact kids_18 nm tx kk pl ks
  · exact kids_19 nm tx kk pl ks hk
  · exact kids_20 nm tx kk pl ks hk
  · exact kids_70 nm tx kk pl ks
  · exact kids_71 nm tx kk pl ks
  · exact kids_72 nm tx kk pl ks
  · exact kids_73 nm tx kk pl ks
  · exact kids_74 nm tx kk pl ks
  · exact kids_75 nm tx kk pl ks hk
  · exact kids_76 nm tx kk pl ks
  · exact kids_77 nm tx kk pl ks
  · exact kids_78 nm tx kk pl ks
  · exact kids_79 nm tx kk pl ks
  · exact kids_80 nm tx kk pl ks
  · exact kids_81 nm tx kk pl ks
  · exact kids_82 nm tx kk pl ks
  · exact kids_83 nm tx kk pl ks
  · exact kids_84 nm tx kk pl ks
  · exact kids_85 nm tx kk pl ks
  · exact kids_86 nm tx kk pl ks
  · exact kids_87 nm tx kk pl ks
  · exact kids_88 nm tx kk pl ks
  · exact kids_89 nm tx kk pl ks
  · exact kids_90 nm tx kk pl ks
  · exact kids_91 nm tx kk pl ks

theorem node_eq (x : Nd) (ks : List Nd) (hk : x.kids = (ks.length : Int)) :
    (letK x.kind != 45 && (ownB x && (!tup1 x && fitsB (shapeB x) (starOf (shapeB x)) ks))) = nodeOk codeOwn codeKids x ks := by
  by_cases h : letK x.kind = 45
  · have e : nodeOk codeOwn codeKids x ks = false := by
      unfold nodeOk
      by_cases h0 : 0 ≤ x.kind
      · cases ho : codeOwn x.kind.toNat with
        | none => simp
        | some p =>
          have h9 := own_list ho
          rw [Int.toNat_of_nonneg h0] at h9
          exact absurd h h9
      · simp [h0]
    rw [e, h]
    rfl
  · obtain ⟨p, hp, ho⟩ := own_eq x h
    have hl := kind_list h
    have h0 : decide (0 ≤ x.kind) = true := decide_eq_true (by omega)
    have h1 : decide (x.kind < 92) = true := decide_eq_true (by omega)
    have h2 : (letK x.kind != 45) = true := by simpa using h
    rw [kids_eq x ks h hk, ho, h2]
    unfold nodeOk
    rw [h0, h1, hp]
    simp only [Bool.true_and, Bool.and_assoc]

theorem okS_eq {t : List Nd} {S ys : List Sp} (h : after t t.length = some (S, ys)) (k : Nat) (hk : k < t.length) : okS t k = okAt codeOwn codeKids t k := by
  obtain ⟨Si, hSi, hkt, hK⟩ := kids_atS h k hk
  have hn : (ndAt t k).kids = ((kidsN t k).length : Int) := by
    rw [ndAt_get hk, kidsN_eq hSi hkt, List.length_map]
    exact hK.num.choose_spec
  unfold okS okAt
  rw [← node_eq (ndAt t k) (kidsN t k) hn, Bool.and_comm]

theorem form_eq (t : List Nd) : FormS t ↔ InForm codeOwn codeKids pCode t := by
  have hc : ∀ x : Nd, letK x.kind = 99 ↔ pCode x = true := by
    intro x
    rw [← isK_c]
    unfold isK
    simp
  constructor
  · rintro ⟨h1, h2, h3, h4⟩
    obtain ⟨h0, S, ys, hA⟩ := raw_after h2
    exact ⟨h1, h2, fun i hi => by rw [← okS_eq hA i hi]; exact h4 i hi, (hc _).1 h3⟩
  · rintro ⟨h1, h2, h4, h3⟩
    obtain ⟨h0, S, ys, hA⟩ := raw_after h2
    exact ⟨h1, h2, (hc _).2 h3, fun i hi => by rw [okS_eq hA i hi]; exact h4 i hi⟩

end Go.Proofs.Ytocidoamfofefaa
