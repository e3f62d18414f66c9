import Derived.Test.YtemancdlnakkmaaGreatSPlainF
import Derived.Test.YtemancdlnakkmaaGreatWAW
import Derived.Test.YtemancdlnakkmaaGreatPDem
import Derived.Test.YtemancdlnakkmaaGreatWAF
namespace Go.Proofs.YtemancdlnakkmaaGreat
theorem kidsP_15 (nm : Int) (tx : ByteArray) (kk pl : Int) (ks : List Nd) : (!tupP ⟨15, nm, tx, kk, pl⟩ && fitsB (shapeP ⟨15, nm, tx, kk, pl⟩) (starOf (shapeP ⟨15, nm, tx, kk, pl⟩)) ks) = plainKids 15 ⟨15, nm, tx, kk, pl⟩ ks := by
  have e1 : shapeP ⟨15, nm, tx, kk, pl⟩ = ⟨#[]⟩ := by simp [shapeP, shapeB]
  have e2 : starOf ⟨#[]⟩ = 0 := by decide
  have e3 : tupP ⟨15, nm, tx, kk, pl⟩ = false := by simp [tupP]
  rw [e1, e2, e3, fits0_eq]
  rfl
theorem kidsP_17 (nm : Int) (tx : ByteArray) (kk pl : Int) (ks : List Nd) : (!tupP ⟨17, nm, tx, kk, pl⟩ && fitsB (shapeP ⟨17, nm, tx, kk, pl⟩) (starOf (shapeP ⟨17, nm, tx, kk, pl⟩)) ks) = plainKids 17 ⟨17, nm, tx, kk, pl⟩ ks := by
  have e1 : shapeP ⟨17, nm, tx, kk, pl⟩ = ⟨#[]⟩ := by simp [shapeP, shapeB]
  have e2 : starOf ⟨#[]⟩ = 0 := by decide
  have e3 : tupP ⟨17, nm, tx, kk, pl⟩ = false := by simp [tupP]
  rw [e1, e2, e3, fits0_eq]
  rfl
theorem kidsP_18 (nm : Int) (tx : ByteArray) (kk pl : Int) (ks : List Nd) : (!tupP ⟨18, nm, tx, kk, pl⟩ && fitsB (shapeP ⟨18, nm, tx, kk, pl⟩) (starOf (shapeP ⟨18, nm, tx, kk, pl⟩)) ks) = plainKids 18 ⟨18, nm, tx, kk, pl⟩ ks := by
  have e1 : shapeP ⟨18, nm, tx, kk, pl⟩ = ⟨#[]⟩ := by simp [shapeP, shapeB]
  have e2 : starOf ⟨#[]⟩ = 0 := by decide
  have e3 : tupP ⟨18, nm, tx, kk, pl⟩ = false := by simp [tupP]
  rw [e1, e2, e3, fits0_eq]
  rfl
theorem kidsP_20 (nm : Int) (tx : ByteArray) (kk pl : Int) (ks : List Nd) (hk : kk = (ks.length : Int)) : (!tupP ⟨20, nm, tx, kk, pl⟩ && fitsB (shapeP ⟨20, nm, tx, kk, pl⟩) (starOf (shapeP ⟨20, nm, tx, kk, pl⟩)) ks) = plainKids 20 ⟨20, nm, tx, kk, pl⟩ ks := by
  have e1 : shapeP ⟨20, nm, tx, kk, pl⟩ = ⟨#[113, 42]⟩ := by simp [shapeP, shapeB]
  have e2 : starOf ⟨#[113, 42]⟩ = 1 := by decide
  have e3 : tupP ⟨20, nm, tx, kk, pl⟩ = (kk == 1) := by simp [tupP]
  rw [e1, e2, e3, fitsS_eq, fun_q]
  subst hk
  rfl
theorem kidsP_70 (nm : Int) (tx : ByteArray) (kk pl : Int) (ks : List Nd) : (!tupP ⟨70, nm, tx, kk, pl⟩ && fitsB (shapeP ⟨70, nm, tx, kk, pl⟩) (starOf (shapeP ⟨70, nm, tx, kk, pl⟩)) ks) = plainKids 70 ⟨70, nm, tx, kk, pl⟩ ks := by
  have e1 : shapeP ⟨70, nm, tx, kk, pl⟩ = ⟨#[]⟩ := by simp [shapeP, shapePN]
  have e2 : starOf ⟨#[]⟩ = 0 := by decide
  have e3 : tupP ⟨70, nm, tx, kk, pl⟩ = false := by simp [tupP]
  rw [e1, e2, e3, fits0_eq]
  rfl
theorem kidsP_71 (nm : Int) (tx : ByteArray) (kk pl : Int) (ks : List Nd) : (!tupP ⟨71, nm, tx, kk, pl⟩ && fitsB (shapeP ⟨71, nm, tx, kk, pl⟩) (starOf (shapeP ⟨71, nm, tx, kk, pl⟩)) ks) = plainKids 71 ⟨71, nm, tx, kk, pl⟩ ks := by
  have e1 : shapeP ⟨71, nm, tx, kk, pl⟩ = ⟨#[]⟩ := by simp [shapeP, shapePN]
  have e2 : starOf ⟨#[]⟩ = 0 := by decide
  have e3 : tupP ⟨71, nm, tx, kk, pl⟩ = false := by simp [tupP]
  rw [e1, e2, e3, fits0_eq]
  rfl
theorem kidsP_72 (nm : Int) (tx : ByteArray) (kk pl : Int) (ks : List Nd) : (!tupP ⟨72, nm, tx, kk, pl⟩ && fitsB (shapeP ⟨72, nm, tx, kk, pl⟩) (starOf (shapeP ⟨72, nm, tx, kk, pl⟩)) ks) = plainKids 72 ⟨72, nm, tx, kk, pl⟩ ks := by
  have e1 : shapeP ⟨72, nm, tx, kk, pl⟩ = ⟨#[]⟩ := by simp [shapeP, shapePN]
  have e2 : starOf ⟨#[]⟩ = 0 := by decide
  have e3 : tupP ⟨72, nm, tx, kk, pl⟩ = false := by simp [tupP]
  rw [e1, e2, e3, fits0_eq]
  rfl
theorem kidsP_73 (nm : Int) (tx : ByteArray) (kk pl : Int) (ks : List Nd) : (!tupP ⟨73, nm, tx, kk, pl⟩ && fitsB (shapeP ⟨73, nm, tx, kk, pl⟩) (starOf (shapeP ⟨73, nm, tx, kk, pl⟩)) ks) = plainKids 73 ⟨73, nm, tx, kk, pl⟩ ks := by
  have e1 : shapeP ⟨73, nm, tx, kk, pl⟩ = ⟨#[]⟩ := by simp [shapeP, shapePN]
  have e2 : starOf ⟨#[]⟩ = 0 := by decide
  have e3 : tupP ⟨73, nm, tx, kk, pl⟩ = false := by simp [tupP]
  rw [e1, e2, e3, fits0_eq]
  rfl
theorem kidsP_74 (nm : Int) (tx : ByteArray) (kk pl : Int) (ks : List Nd) : (!tupP ⟨74, nm, tx, kk, pl⟩ && fitsB (shapeP ⟨74, nm, tx, kk, pl⟩) (starOf (shapeP ⟨74, nm, tx, kk, pl⟩)) ks) = plainKids 74 ⟨74, nm, tx, kk, pl⟩ ks := by
  have e1 : shapeP ⟨74, nm, tx, kk, pl⟩ = ⟨#[]⟩ := by simp [shapeP, shapePN]
  have e2 : starOf ⟨#[]⟩ = 0 := by decide
  have e3 : tupP ⟨74, nm, tx, kk, pl⟩ = false := by simp [tupP]
  rw [e1, e2, e3, fits0_eq]
  rfl
theorem kidsP_75 (nm : Int) (tx : ByteArray) (kk pl : Int) (ks : List Nd) (hk : kk = (ks.length : Int)) : (!tupP ⟨75, nm, tx, kk, pl⟩ && fitsB (shapeP ⟨75, nm, tx, kk, pl⟩) (starOf (shapeP ⟨75, nm, tx, kk, pl⟩)) ks) = plainKids 75 ⟨75, nm, tx, kk, pl⟩ ks := by
  have e1 : shapeP ⟨75, nm, tx, kk, pl⟩ = ⟨#[99, 42]⟩ := by simp [shapeP, shapePN]
  have e2 : starOf ⟨#[99, 42]⟩ = 1 := by decide
  have e3 : tupP ⟨75, nm, tx, kk, pl⟩ = (kk == 1) := by simp [tupP]
  rw [e1, e2, e3, fitsS_eq, fun_c]
  subst hk
  rfl
theorem kidsP_76 (nm : Int) (tx : ByteArray) (kk pl : Int) (ks : List Nd) : (!tupP ⟨76, nm, tx, kk, pl⟩ && fitsB (shapeP ⟨76, nm, tx, kk, pl⟩) (starOf (shapeP ⟨76, nm, tx, kk, pl⟩)) ks) = plainKids 76 ⟨76, nm, tx, kk, pl⟩ ks := by
  have e1 : shapeP ⟨76, nm, tx, kk, pl⟩ = ⟨#[99]⟩ := by simp [shapeP, shapePN]
  have e2 : starOf ⟨#[99]⟩ = 1 := by decide
  have e3 : tupP ⟨76, nm, tx, kk, pl⟩ = false := by simp [tupP]
  rw [e1, e2, e3, fits1_eq, fun_c]
  rfl
theorem kidsP_77 (nm : Int) (tx : ByteArray) (kk pl : Int) (ks : List Nd) : (!tupP ⟨77, nm, tx, kk, pl⟩ && fitsB (shapeP ⟨77, nm, tx, kk, pl⟩) (starOf (shapeP ⟨77, nm, tx, kk, pl⟩)) ks) = plainKids 77 ⟨77, nm, tx, kk, pl⟩ ks := by
  have e1 : shapeP ⟨77, nm, tx, kk, pl⟩ = ⟨#[99, 99]⟩ := by simp [shapeP, shapePN]
  have e2 : starOf ⟨#[99, 99]⟩ = 2 := by decide
  have e3 : tupP ⟨77, nm, tx, kk, pl⟩ = false := by simp [tupP]
  rw [e1, e2, e3, fits2_eq, fun_c]
  rfl
theorem kidsP_80 (nm : Int) (tx : ByteArray) (kk pl : Int) (ks : List Nd) : (!tupP ⟨80, nm, tx, kk, pl⟩ && fitsB (shapeP ⟨80, nm, tx, kk, pl⟩) (starOf (shapeP ⟨80, nm, tx, kk, pl⟩)) ks) = plainKids 80 ⟨80, nm, tx, kk, pl⟩ ks := by
  have e1 : shapeP ⟨80, nm, tx, kk, pl⟩ = ⟨#[99, 99]⟩ := by simp [shapeP, shapePN]
  have e2 : starOf ⟨#[99, 99]⟩ = 2 := by decide
  have e3 : tupP ⟨80, nm, tx, kk, pl⟩ = false := by simp [tupP]
  rw [e1, e2, e3, fits2_eq, fun_c]
  rfl
theorem kidsP_81 (nm : Int) (tx : ByteArray) (kk pl : Int) (ks : List Nd) : (!tupP ⟨81, nm, tx, kk, pl⟩ && fitsB (shapeP ⟨81, nm, tx, kk, pl⟩) (starOf (shapeP ⟨81, nm, tx, kk, pl⟩)) ks) = plainKids 81 ⟨81, nm, tx, kk, pl⟩ ks := by
  have e1 : shapeP ⟨81, nm, tx, kk, pl⟩ = ⟨#[66, 66, 42, 99]⟩ := by simp [shapeP, shapePN]
  have e2 : starOf ⟨#[66, 66, 42, 99]⟩ = 2 := by decide
  have e3 : tupP ⟨81, nm, tx, kk, pl⟩ = false := by simp [tupP]
  rw [e1, e2, e3, fitsL_eq]
  rfl
theorem kidsP_82 (nm : Int) (tx : ByteArray) (kk pl : Int) (ks : List Nd) : (!tupP ⟨82, nm, tx, kk, pl⟩ && fitsB (shapeP ⟨82, nm, tx, kk, pl⟩) (starOf (shapeP ⟨82, nm, tx, kk, pl⟩)) ks) = plainKids 82 ⟨82, nm, tx, kk, pl⟩ ks := by
  have e1 : shapeP ⟨82, nm, tx, kk, pl⟩ = ⟨#[99]⟩ := by simp [shapeP, shapePN]
  have e2 : starOf ⟨#[99]⟩ = 1 := by decide
  have e3 : tupP ⟨82, nm, tx, kk, pl⟩ = false := by simp [tupP]
  rw [e1, e2, e3, fits1_eq, fun_c]
  rfl
theorem kidsP_83 (nm : Int) (tx : ByteArray) (kk pl : Int) (ks : List Nd) : (!tupP ⟨83, nm, tx, kk, pl⟩ && fitsB (shapeP ⟨83, nm, tx, kk, pl⟩) (starOf (shapeP ⟨83, nm, tx, kk, pl⟩)) ks) = plainKids 83 ⟨83, nm, tx, kk, pl⟩ ks := by
  have e1 : shapeP ⟨83, nm, tx, kk, pl⟩ = ⟨#[99, 82, 82, 42]⟩ := by simp [shapeP, shapePN]
  have e2 : starOf ⟨#[99, 82, 82, 42]⟩ = 3 := by decide
  have e3 : tupP ⟨83, nm, tx, kk, pl⟩ = false := by simp [tupP]
  rw [e1, e2, e3, fitsF_eq]
  rfl
theorem kidsP_84 (nm : Int) (tx : ByteArray) (kk pl : Int) (ks : List Nd) : (!tupP ⟨84, nm, tx, kk, pl⟩ && fitsB (shapeP ⟨84, nm, tx, kk, pl⟩) (starOf (shapeP ⟨84, nm, tx, kk, pl⟩)) ks) = plainKids 84 ⟨84, nm, tx, kk, pl⟩ ks := by
  have e1 : shapeP ⟨84, nm, tx, kk, pl⟩ = ⟨#[113, 99]⟩ := by simp [shapeP, shapePN]
  have e2 : starOf ⟨#[113, 99]⟩ = 2 := by decide
  have e3 : tupP ⟨84, nm, tx, kk, pl⟩ = false := by simp [tupP]
  rw [e1, e2, e3, fits2_eq, fun_q, fun_c]
  rfl
theorem kidsP_85 (nm : Int) (tx : ByteArray) (kk pl : Int) (ks : List Nd) : (!tupP ⟨85, nm, tx, kk, pl⟩ && fitsB (shapeP ⟨85, nm, tx, kk, pl⟩) (starOf (shapeP ⟨85, nm, tx, kk, pl⟩)) ks) = plainKids 85 ⟨85, nm, tx, kk, pl⟩ ks := by
  have e1 : shapeP ⟨85, nm, tx, kk, pl⟩ = ⟨#[99]⟩ := by simp [shapeP, shapePN]
  have e2 : starOf ⟨#[99]⟩ = 1 := by decide
  have e3 : tupP ⟨85, nm, tx, kk, pl⟩ = false := by simp [tupP]
  rw [e1, e2, e3, fits1_eq, fun_c]
  rfl
theorem kidsP_86 (nm : Int) (tx : ByteArray) (kk pl : Int) (ks : List Nd) : (!tupP ⟨86, nm, tx, kk, pl⟩ && fitsB (shapeP ⟨86, nm, tx, kk, pl⟩) (starOf (shapeP ⟨86, nm, tx, kk, pl⟩)) ks) = plainKids 86 ⟨86, nm, tx, kk, pl⟩ ks := by
  have e1 : shapeP ⟨86, nm, tx, kk, pl⟩ = ⟨#[99, 82, 82, 42]⟩ := by simp [shapeP, shapePN]
  have e2 : starOf ⟨#[99, 82, 82, 42]⟩ = 3 := by decide
  have e3 : tupP ⟨86, nm, tx, kk, pl⟩ = false := by simp [tupP]
  rw [e1, e2, e3, fitsF_eq]
  rfl
theorem kidsP_87 (nm : Int) (tx : ByteArray) (kk pl : Int) (ks : List Nd) : (!tupP ⟨87, nm, tx, kk, pl⟩ && fitsB (shapeP ⟨87, nm, tx, kk, pl⟩) (starOf (shapeP ⟨87, nm, tx, kk, pl⟩)) ks) = plainKids 87 ⟨87, nm, tx, kk, pl⟩ ks := by
  have e1 : shapeP ⟨87, nm, tx, kk, pl⟩ = ⟨#[99, 99]⟩ := by simp [shapeP, shapePN]
  have e2 : starOf ⟨#[99, 99]⟩ = 2 := by decide
  have e3 : tupP ⟨87, nm, tx, kk, pl⟩ = false := by simp [tupP]
  rw [e1, e2, e3, fits2_eq, fun_c]
  rfl
theorem kidsP_88 (nm : Int) (tx : ByteArray) (kk pl : Int) (ks : List Nd) : (!tupP ⟨88, nm, tx, kk, pl⟩ && fitsB (shapeP ⟨88, nm, tx, kk, pl⟩) (starOf (shapeP ⟨88, nm, tx, kk, pl⟩)) ks) = plainKids 88 ⟨88, nm, tx, kk, pl⟩ ks := by
  have e1 : shapeP ⟨88, nm, tx, kk, pl⟩ = ⟨#[99, 99]⟩ := by simp [shapeP, shapePN]
  have e2 : starOf ⟨#[99, 99]⟩ = 2 := by decide
  have e3 : tupP ⟨88, nm, tx, kk, pl⟩ = false := by simp [tupP]
  rw [e1, e2, e3, fits2_eq, fun_c]
  rfl
theorem kidsP_89 (nm : Int) (tx : ByteArray) (kk pl : Int) (ks : List Nd) : (!tupP ⟨89, nm, tx, kk, pl⟩ && fitsB (shapeP ⟨89, nm, tx, kk, pl⟩) (starOf (shapeP ⟨89, nm, tx, kk, pl⟩)) ks) = plainKids 89 ⟨89, nm, tx, kk, pl⟩ ks := by
  have e1 : shapeP ⟨89, nm, tx, kk, pl⟩ = ⟨#[99]⟩ := by simp [shapeP, shapePN]
  have e2 : starOf ⟨#[99]⟩ = 1 := by decide
  have e3 : tupP ⟨89, nm, tx, kk, pl⟩ = false := by simp [tupP]
  rw [e1, e2, e3, fits1_eq, fun_c]
  rfl
theorem kidsP_90 (nm : Int) (tx : ByteArray) (kk pl : Int) (ks : List Nd) : (!tupP ⟨90, nm, tx, kk, pl⟩ && fitsB (shapeP ⟨90, nm, tx, kk, pl⟩) (starOf (shapeP ⟨90, nm, tx, kk, pl⟩)) ks) = plainKids 90 ⟨90, nm, tx, kk, pl⟩ ks := by
  have e1 : shapeP ⟨90, nm, tx, kk, pl⟩ = ⟨#[]⟩ := by simp [shapeP, shapePN]
  have e2 : starOf ⟨#[]⟩ = 0 := by decide
  have e3 : tupP ⟨90, nm, tx, kk, pl⟩ = false := by simp [tupP]
  rw [e1, e2, e3, fits0_eq]
  rfl
theorem kidsP_91 (nm : Int) (tx : ByteArray) (kk pl : Int) (ks : List Nd) : (!tupP ⟨91, nm, tx, kk, pl⟩ && fitsB (shapeP ⟨91, nm, tx, kk, pl⟩) (starOf (shapeP ⟨91, nm, tx, kk, pl⟩)) ks) = plainKids 91 ⟨91, nm, tx, kk, pl⟩ ks := by
  have e1 : shapeP ⟨91, nm, tx, kk, pl⟩ = ⟨#[113]⟩ := by simp [shapeP, shapePN]
  have e2 : starOf ⟨#[113]⟩ = 1 := by decide
  have e3 : tupP ⟨91, nm, tx, kk, pl⟩ = false := by simp [tupP]
  rw [e1, e2, e3, fits1_eq, fun_q]
  rfl
theorem kidsP_19 (nm : Int) (tx : ByteArray) (kk pl : Int) (ks : List Nd) (hk : kk = (ks.length : Int)) : (!tupP ⟨19, nm, tx, kk, pl⟩ && fitsB (shapeP ⟨19, nm, tx, kk, pl⟩) (starOf (shapeP ⟨19, nm, tx, kk, pl⟩)) ks) = plainKids 19 ⟨19, nm, tx, kk, pl⟩ ks := by
  have e1 : shapeP ⟨19, nm, tx, kk, pl⟩ = shapeB ⟨19, nm, tx, kk, pl⟩ := by simp [shapeP]
  have e2 : tupP ⟨19, nm, tx, kk, pl⟩ = tup1 ⟨19, nm, tx, kk, pl⟩ := by simp [tupP, tup1]
  rw [e1, e2, kids_19 nm tx kk pl ks hk]
  rfl
theorem bar_list {k : Int} (h : barB k = false) : k = 15 ∨ k = 17 ∨ k = 18 ∨ k = 19 ∨ k = 20 ∨ k = 70 ∨ k = 71 ∨ k = 72 ∨ k = 73 ∨ k = 74 ∨ k = 75 ∨ k = 76 ∨ k = 77 ∨ k = 80 ∨ k = 81 ∨ k = 82 ∨ k = 83 ∨ k = 84 ∨ k = 85 ∨ k = 86 ∨ k = 87 ∨ k = 88 ∨ k = 89 ∨ k = 90 ∨ k = 91 := by
  unfold barB at h
  simp only [Bool.or_eq_false_iff, beq_eq_false_iff_ne] at h
  obtain ⟨⟨⟨⟨h1, h2⟩, h3⟩, h4⟩, h5⟩ := h
  have h6 := kind_list h1
  have a1 : k ≠ 12 := by intro e; subst e; exact h2 rfl
  have a2 : k ≠ 13 := by intro e; subst e; exact h2 rfl
  have a3 : k ≠ 14 := by intro e; subst e; exact h2 rfl
  have a4 : k ≠ 60 := by intro e; subst e; exact h2 rfl
  have a5 : k ≠ 62 := by intro e; subst e; exact h3 rfl
  omega
theorem plain_list {n : Nat} {p : Nd → Bool} (h : plainOwn n = some p) : barB (n : Int) = false := by
  unfold plainOwn at h
  by_cases ht : typB n = true
  · rw [if_pos ht] at h
    cases h
  · rw [if_neg ht] at h
    have h1 := kind_list (own_list h)
    have h2 : n ≠ 12 ∧ n ≠ 13 ∧ n ≠ 14 ∧ n ≠ 60 ∧ n ≠ 62 ∧ n ≠ 78 ∧ n ≠ 79 := by
      unfold typB at ht
      simp at ht
      omega
    have h3 : n = 15 ∨ n = 17 ∨ n = 18 ∨ n = 19 ∨ n = 20 ∨ n = 70 ∨ n = 71 ∨ n = 72 ∨ n = 73 ∨ n = 74 ∨ n = 75 ∨ n = 76 ∨ n = 77 ∨ n = 80 ∨ n = 81 ∨ n = 82 ∨ n = 83 ∨ n = 84 ∨ n = 85 ∨ n = 86 ∨ n = 87 ∨ n = 88 ∨ n = 89 ∨ n = 90 ∨ n = 91 := by omega
    clear h1 h2 ht h
    rcases h3 with rfl | rfl | rfl | rfl | rfl | rfl | rfl | rfl | rfl | rfl | rfl | rfl | rfl | rfl | rfl | rfl | rfl | rfl | rfl | rfl | rfl | rfl | rfl | rfl | rfl <;> decide
theorem kidsP_eq (x : Nd) (ks : List Nd) (h : barB x.kind = false) (hk : x.kids = (ks.length : Int)) : (!tupP x && fitsB (shapeP x) (starOf (shapeP x)) ks) = plainKids x.kind.toNat x ks := by
  obtain ⟨k, nm, tx, kk, pl⟩ := x
  have hl := bar_list h
  clear h
  simp only at hl hk ⊢
  rcases hl with rfl | rfl | rfl | rfl | rfl | rfl | rfl | rfl | rfl | rfl | rfl | rfl | rfl | rfl | rfl | rfl | rfl | rfl | rfl | rfl | rfl | rfl | rfl | rfl | rfl
  · exact kidsP_15 nm tx kk pl ks
  · exact kidsP_17 nm tx kk pl ks
  · exact kidsP_18 nm tx kk pl ks
  · exact kidsP_19 nm tx kk pl ks hk
  · exact kidsP_20 nm tx kk pl ks hk
  · exact kidsP_70 nm tx kk pl ks
  · exact kidsP_71 nm tx kk pl ks
  · exact kidsP_72 nm tx kk pl ks
  · exact kidsP_73 nm tx kk pl ks
  · exact kidsP_74 nm tx kk pl ks
  · exact kidsP_75 nm tx kk pl ks hk
  · exact kidsP_76 nm tx kk pl ks
  · exact kidsP_77 nm tx kk pl ks
  · exact kidsP_80 nm tx kk pl ks
  · exact kidsP_81 nm tx kk pl ks
  · exact kidsP_82 nm tx kk pl ks
  · exact kidsP_83 nm tx kk pl ks
  · exact kidsP_84 nm tx kk pl ks
  · exact kidsP_85 nm tx kk pl ks
  · exact kidsP_86 nm tx kk pl ks
  · exact kidsP_87 nm tx kk pl ks
  · exact kidsP_88 nm tx kk pl ks
  · exact kidsP_89 nm tx kk pl ks
  · exact kidsP_90 nm tx kk pl ks
  · exact kidsP_91 nm tx kk pl ks
theorem ownP_eq (x : Nd) (h : barB x.kind = false) : ∃ p, plainOwn x.kind.toNat = some p ∧ ownB x = (x.place == 0 && p x) := by
  have h1 : letK x.kind ≠ 45 := by
    unfold barB at h
    simp only [Bool.or_eq_false_iff, beq_eq_false_iff_ne] at h
    exact h.1.1.1.1
  obtain ⟨p, hp, ho⟩ := own_eq x h1
  refine ⟨p, ?_, ho⟩
  unfold plainOwn
  have hl := bar_list h
  rw [if_neg ?_, hp]
  intro ht
  unfold typB at ht
  simp at ht
  omega
theorem nodeP_eq (x : Nd) (ks : List Nd) (hk : x.kids = (ks.length : Int)) :
    (!barB x.kind && (ownB x && (!tupP x && fitsB (shapeP x) (starOf (shapeP x)) ks))) = nodeOk plainOwn plainKids x ks := by
  cases h : barB x.kind
  · obtain ⟨p, hp, ho⟩ := ownP_eq x h
    have hl := bar_list h
    have h0 : decide (0 ≤ x.kind) = true := decide_eq_true (by omega)
    have h1 : decide (x.kind < 92) = true := decide_eq_true (by omega)
    rw [kidsP_eq x ks h hk, ho]
    unfold nodeOk
    rw [h0, h1, hp]
    simp only [Bool.true_and, Bool.and_assoc, Bool.not_false]
  · have e : nodeOk plainOwn plainKids x ks = false := by
      unfold nodeOk
      by_cases h0 : 0 ≤ x.kind
      · cases ho : plainOwn x.kind.toNat with
        | none => simp
        | some p =>
          have h9 := plain_list ho
          rw [Int.toNat_of_nonneg h0, h] at h9
          cases h9
      · simp [h0]
    rw [e]
    rfl
theorem okP_eq {t : List Nd} {S ys : List Sp} (h : after t t.length = some (S, ys)) (k : Nat) (hk : k < t.length) : okP t k = okAt plainOwn plainKids t k := by
  obtain ⟨Si, hSi, hkt, hK⟩ := kids_atS h k hk
  have hn : (ndAt t k).kids = ((kidsN t k).length : Int) := by
    rw [ndAt_get hk, kidsN_eq hSi hkt, List.length_map]
    exact hK.num.choose_spec
  unfold okP okAt
  rw [nodeP_eq (ndAt t k) (kidsN t k) hn]
  cases hq : nodeOk plainOwn plainKids (ndAt t k) (kidsN t k)
  · rfl
  · have h62 : (ndAt t k).kind ≠ 62 := by
      intro e
      have h9 : nodeOk plainOwn plainKids (ndAt t k) (kidsN t k) = false := by
        rw [← nodeP_eq (ndAt t k) (kidsN t k) hn, e]
        rfl
      rw [hq] at h9
      cases h9
    rw [alls, if_neg h62]
    rfl
theorem plain_eq (t : List Nd) : PlainS t ↔ InForm plainOwn plainKids pCode t := by
  have hc : ∀ x : Nd, letK x.kind = 99 ↔ pCode x = true := by
    intro x
    rw [← isK_c]
    unfold isK
    simp
  constructor
  · rintro ⟨h1, h2, h3, h4⟩
    obtain ⟨h0, S, ys, hA⟩ := raw_after h2
    exact ⟨h1, h2, fun i hi => by rw [← okP_eq hA i hi]; exact h4 i hi, (hc _).1 h3⟩
  · rintro ⟨h1, h2, h4, h3⟩
    obtain ⟨h0, S, ys, hA⟩ := raw_after h2
    exact ⟨h1, h2, (hc _).2 h3, fun i hi => by rw [okP_eq hA i hi]; exact h4 i hi⟩
def cls (x : Nd) : Nat := if pCode x = true then 1 else if pPat x = true then 2 else if x.kind = 84 then 3 else if x.kind = 82 then 4 else 0
theorem code_not_pat {x : Nd} (h : pCode x = true) : pPat x = false := by
  simp [pCode] at h
  simp [pPat]
  omega
theorem pCode_cls (x : Nd) : pCode x = (cls x == 1) := by
  unfold cls
  cases h : pCode x <;> simp
  split
  · simp
  · split
    · simp
    · split <;> simp
theorem pPat_cls (x : Nd) : pPat x = (cls x == 2) := by
  unfold cls
  cases h : pCode x
  · cases h2 : pPat x <;> simp
    split
    · simp
    · split <;> simp
  · rw [code_not_pat h]; simp
theorem p84_cls (x : Nd) : pKind 84 x = (cls x == 3) := by
  unfold cls pKind
  by_cases h : x.kind = 84
  · have h1 : pCode x = false := by simp [pCode, h]
    have h2 : pPat x = false := by simp [pPat, h]
    rw [h1, h2]; simp [h]
  · have : (x.kind == 84) = false := by simpa using h
    rw [this]
    cases h1 : pCode x
    · cases h2 : pPat x
      · simp [h]; split <;> simp
      · simp
    · simp
theorem p82_cls (x : Nd) : pKind 82 x = (cls x == 4) := by
  unfold cls pKind
  by_cases h : x.kind = 82
  · have h1 : pCode x = false := by simp [pCode, h]
    have h2 : pPat x = false := by simp [pPat, h]
    rw [h1, h2]; simp [h]
  · have : (x.kind == 82) = false := by simpa using h
    rw [this]
    cases h1 : pCode x
    · cases h2 : pPat x
      · simp [h]; split <;> simp
      · simp
    · simp
def ByCls (p : Nd → Bool) : Prop := ∀ x y, cls x = cls y → p x = p y
theorem by_code : ByCls pCode := fun x y h => by rw [pCode_cls, pCode_cls, h]
theorem by_pat : ByCls pPat := fun x y h => by rw [pPat_cls, pPat_cls, h]
theorem by_84 : ByCls (pKind 84) := fun x y h => by rw [p84_cls, p84_cls, h]
theorem by_82 : ByCls (pKind 82) := fun x y h => by rw [p82_cls, p82_cls, h]
theorem fitAll_cls : ∀ {ps : List (Nd → Bool)} {ks ks' : List Nd}, ks.map cls = ks'.map cls → (∀ p ∈ ps, ByCls p) → fitAll ps ks = fitAll ps ks'
  | [], [], [], _, _ => rfl
  | [], [], _ :: _, h, _ => by simp at h
  | [], _ :: _, [], h, _ => by simp at h
  | [], _ :: _, _ :: _, _, _ => rfl
  | _ :: _, [], [], _, _ => rfl
  | _ :: _, [], _ :: _, h, _ => by simp at h
  | _ :: _, _ :: _, [], h, _ => by simp at h
  | p :: ps, x :: xs, y :: ys, h, hp => by
    simp only [List.map_cons, List.cons.injEq] at h
    simp only [fitAll]
    rw [hp p (by simp) x y h.1, fitAll_cls h.2 (fun q hq => hp q (by simp [hq]))]
theorem all_cls : ∀ {p : Nd → Bool} {ks ks' : List Nd}, ks.map cls = ks'.map cls → ByCls p → ks.all p = ks'.all p
  | _, [], [], _, _ => rfl
  | _, [], _ :: _, h, _ => by simp at h
  | _, _ :: _, [], h, _ => by simp at h
  | p, x :: xs, y :: ys, h, hp => by
    simp only [List.map_cons, List.cons.injEq] at h
    simp only [List.all_cons]
    rw [hp x y h.1, all_cls h.2 hp]
theorem len_cls {ks ks' : List Nd} (h : ks.map cls = ks'.map cls) : ks.length = ks'.length := by
  have := congrArg List.length h
  simpa using this
theorem at_cls {ks ks' : List Nd} (h : ks.map cls = ks'.map cls) (i : Nat) : cls (ndAt ks i) = cls (ndAt ks' i) := by
  have h1 : ∀ l : List Nd, cls (ndAt l i) = ((l.map cls)[i]?).getD (cls (ndAt [] 0)) := by
    intro l
    unfold ndAt
    rw [List.getElem?_map]
    cases l[i]? <;> rfl
  rw [h1, h1, h]
theorem firstB_cls {p0 p : Nd → Bool} {ks ks' : List Nd} (h : ks.map cls = ks'.map cls) (h0 : ByCls p0) (hp : ByCls p) : firstB p0 p ks = firstB p0 p ks' := by
  unfold firstB
  rw [len_cls h, h0 _ _ (at_cls h 0), all_cls (p := p) (ks := ks.drop 1) (ks' := ks'.drop 1) (by rw [List.map_drop, List.map_drop, h]) hp]
theorem lastB_cls {p pl : Nd → Bool} {ks ks' : List Nd} (h : ks.map cls = ks'.map cls) (hp : ByCls p) (hl : ByCls pl) : lastB p pl ks = lastB p pl ks' := by
  unfold lastB
  rw [len_cls h, hl _ _ (at_cls h _), all_cls (p := p) (ks := ks.take _) (ks' := ks'.take _) (by rw [List.map_take, List.map_take, h]) hp]
theorem own_kinds {i : Nat} {p : Nd → Bool} (h : plainOwn i = some p) : i = 15 ∨ i = 17 ∨ i = 18 ∨ i = 19 ∨ i = 20 ∨ i = 70 ∨ i = 71 ∨ i = 72 ∨ i = 73 ∨ i = 74 ∨ i = 75 ∨ i = 76 ∨ i = 77 ∨ i = 80 ∨ i = 81 ∨ i = 82 ∨ i = 83 ∨ i = 84 ∨ i = 85 ∨ i = 86 ∨ i = 87 ∨ i = 88 ∨ i = 89 ∨ i = 90 ∨ i = 91 := by
  have := bar_list (plain_list h)
  omega
theorem kids_cls {i : Nat} {p : Nd → Bool} (hi : plainOwn i = some p) (x y : Nd) {ks ks' : List Nd} (h : ks.map cls = ks'.map cls) : plainKids i x ks = plainKids i y ks' := by
  have e0 : fitAll [] ks = fitAll [] ks' := fitAll_cls h (by simp)
  have e1 : fitAll [pCode] ks = fitAll [pCode] ks' := fitAll_cls h (by simp [by_code])
  have e2 : fitAll [pCode, pCode] ks = fitAll [pCode, pCode] ks' := fitAll_cls h (by simp [by_code])
  have e3 : fitAll [pPat] ks = fitAll [pPat] ks' := fitAll_cls h (by simp [by_pat])
  have e4 : fitAll [pPat, pCode] ks = fitAll [pPat, pCode] ks' := fitAll_cls h (by simp [by_pat, by_code])
  have e5 := len_cls h
  have e6 := all_cls h by_pat
  have e7 := all_cls h by_code
  have e8 := firstB_cls h by_code by_84
  have e9 := lastB_cls h by_82 by_code
  rcases own_kinds hi with rfl | rfl | rfl | rfl | rfl | rfl | rfl | rfl | rfl | rfl | rfl | rfl | rfl | rfl | rfl | rfl | rfl | rfl | rfl | rfl | rfl | rfl | rfl | rfl | rfl <;>
    first
    | exact e0
    | exact e1
    | exact e2
    | exact e3
    | exact e4
    | exact e8
    | exact e9
    | (show (decide ((ks.length : Int) ≤ 1) && ks.all pPat) = (decide ((ks'.length : Int) ≤ 1) && ks'.all pPat); rw [e5, e6])
    | (show (((ks.length : Int) != 1) && ks.all pPat) = (((ks'.length : Int) != 1) && ks'.all pPat); rw [e5, e6])
    | (show (((ks.length : Int) != 1) && ks.all pCode) = (((ks'.length : Int) != 1) && ks'.all pCode); rw [e5, e7])
structure PlN (n : Nd) (ks : List Tre) : Prop where
  node : nodeOk plainOwn plainKids n (ks.map Tre.nd) = true
  text : n.text.size ≤ 1048576
  num : (Lit.int .i64 n.num).wf = true
  len : ks.length ≤ 60000
  kids : n.kids = (ks.length : Int)
structure PlT (T : Tre) : Prop where
  of ::
  lfp : Lfp (fun R T => ∃ n ks, T = .mk n ks ∧ PlN n ks ∧ ∀ k ∈ ks, R k) T
theorem PlT.grows : Grows (fun (R : Tre → Prop) T => ∃ n ks, T = .mk n ks ∧ PlN n ks ∧ ∀ k ∈ ks, R k) := by
  rintro R R' x h ⟨n, ks, e, h1, h2⟩
  exact ⟨n, ks, e, h1, fun k hk => h k (h2 k hk)⟩
theorem PlT.mk (n : Nd) (ks : List Tre) (h : PlN n ks) (hk : ∀ k ∈ ks, PlT k) : PlT (.mk n ks) := ⟨Lfp.fold PlT.grows ⟨n, ks, rfl, h, fun k h9 => (hk k h9).lfp⟩⟩
theorem PlT.both {n : Nd} {ks : List Tre} (h : PlT (.mk n ks)) : PlN n ks ∧ ∀ k ∈ ks, PlT k := by
  refine Lfp.ind PlT.grows (p := fun T => ∀ n ks, T = .mk n ks → PlN n ks ∧ ∀ k ∈ ks, PlT k) ?_ h.lfp n ks rfl
  rintro y ⟨n, ks, e, h1, h2⟩ n' ks' e'
  rw [e] at e'
  cases e'
  exact ⟨h1, fun k hk => ⟨(h2 k hk).1⟩⟩
theorem PlT.node {n : Nd} {ks : List Tre} (h : PlT (.mk n ks)) : PlN n ks := h.both.1
theorem PlT.kid {n : Nd} {ks : List Tre} (h : PlT (.mk n ks)) : ∀ k ∈ ks, PlT k := h.both.2
theorem nodeOk_parts {n : Nd} {ks : List Nd} (h : nodeOk plainOwn plainKids n ks = true) : ∃ p, plainOwn n.kind.toNat = some p ∧ 0 ≤ n.kind ∧ n.kind < 92 ∧ n.place = 0 ∧ p n = true ∧ plainKids n.kind.toNat n ks = true := by
  unfold nodeOk at h
  simp only [Bool.and_eq_true, decide_eq_true_eq, beq_iff_eq] at h
  obtain ⟨⟨⟨⟨h1, h2⟩, h3⟩, h4⟩, h5⟩ := h
  cases hp : plainOwn n.kind.toNat with
  | none => rw [hp] at h4; cases h4
  | some p => rw [hp] at h4; exact ⟨p, rfl, h1, h2, h3, h4, h5⟩
theorem nodeOk_of {n : Nd} {ks : List Nd} {p : Nd → Bool} (h0 : plainOwn n.kind.toNat = some p) (h1 : 0 ≤ n.kind) (h2 : n.kind < 92) (h3 : n.place = 0) (h4 : p n = true) (h5 : plainKids n.kind.toNat n ks = true) : nodeOk plainOwn plainKids n ks = true := by
  unfold nodeOk
  simp only [Bool.and_eq_true, decide_eq_true_eq, beq_iff_eq, h0]
  exact ⟨⟨⟨⟨h1, h2⟩, h3⟩, h4⟩, h5⟩
end Go.Proofs.YtemancdlnakkmaaGreat
