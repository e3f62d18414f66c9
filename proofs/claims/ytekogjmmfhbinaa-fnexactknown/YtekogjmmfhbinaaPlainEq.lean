import Derived.Test.YtekogjmmfhbinaaSPlainF
import Derived.Test.YtekogjmmfhbinaaWBN
import Derived.Test.YtekogjmmfhbinaaPDem
namespace Go.Proofs.Ytekogjmmfhbinaa

theorem kidsP_15 (nm : Int) (tx : ByteArray) (kk pl : Int) (ks : List Nd) : (!tupP ⟨15, nm, tx, kk, pl⟩ && fitsB (shapeP ⟨15, nm, tx, kk, pl⟩) (starOf (shapeP ⟨15, nm, tx, kk, pl⟩)) ks) = plainKids 15 ⟨15, nm, tx, kk, pl⟩ ks := by
  have e1 : shapeP ⟨15, nm, tx, kk, pl⟩ = ⟨#[]⟩ := by simp [shapeP, shapeB]
  have e2 : starOf ⟨#[]⟩ = 0 := by decide
  have e3 : tupP ⟨15, nm, tx, kk, pl⟩ = false := by simp [tupP]
  rw [e1, e2, e3, fits0_eq]
  rfl

theorem kidsP_17 (nm : Int) (tx : ByteArray) (kk pl : Int) (ks : List Nd) : (!tupP ⟨17, nm, tx, kk, pl⟩ && fitsB (shapeP ⟨17, nm, tx, kk, pl⟩) (starOf (shapeP ⟨17, nm, tx, kk, pl⟩)) ks) = plainKids 17 ⟨17, nm, tx, kk, pl⟩ ks := by
  have e1 : shapeP ⟨17, nm, tx, kk, pl⟩ = ⟨#[]⟩ := by simp [shapeP, shapeB]
  have e2 : starOf ⟨#[]⟩ = 0 := by decide
  have e3 : tupP ⟨17, nm, tx, kk, pl⟩ = false := by simp [tupP]
  rw [e1, e2, e3, fits0_eq]
  rfl

theorem kidsP_18 (nm : Int) (tx : ByteArray) (kk pl : Int) (ks : List Nd) : (!tupP ⟨18, nm, tx, kk, pl⟩ && fitsB (shapeP ⟨18, nm, tx, kk, pl⟩) (starOf (shapeP ⟨18, nm, tx, kk, pl⟩)) ks) = plainKids 18 ⟨18, nm, tx, kk, pl⟩ ks := by
  have e1 : shapeP ⟨18, nm, tx, kk, pl⟩ = ⟨#[]⟩ := by simp [shapeP, shapeB]
  have e2 : starOf ⟨#[]⟩ = 0 := by decide
  have e3 : tupP ⟨18, nm, tx, kk, pl⟩ = false := by simp [tupP]
  rw [e1, e2, e3, fits0_eq]
  rfl

theorem kidsP_20 (nm : Int) (tx : ByteArray) (kk pl : Int) (ks : List Nd) (hk : kk = (ks.length : Int)) : (!tupP ⟨20, nm, tx, kk, pl⟩ && fitsB (shapeP ⟨20, nm, tx, kk, pl⟩) (starOf (shapeP ⟨20, nm, tx, kk, pl⟩)) ks) = plainKids 20 ⟨20, nm, tx, kk, pl⟩ ks := by
  have e1 : shapeP ⟨20, nm, tx, kk, pl⟩ = ⟨#[113, 42]⟩ := by simp [shapeP, shapeB]
  have e2 : starOf ⟨#[113, 42]⟩ = 1 := by decide
  have e3 : tupP ⟨20, nm, tx, kk, pl⟩ = (kk == 1) := by simp [tupP]
  rw [e1, e2, e3, fitsS_eq, fun_q]
  subst hk
  rfl

theorem kidsP_70 (nm : Int) (tx : ByteArray) (kk pl : Int) (ks : List Nd) : (!tupP ⟨70, nm, tx, kk, pl⟩ && fitsB (shapeP ⟨70, nm, tx, kk, pl⟩) (starOf (shapeP ⟨70, nm, tx, kk, pl⟩)) ks) = plainKids 70 ⟨70, nm, tx, kk, pl⟩ ks := by
  have e1 : shapeP ⟨70, nm, tx, kk, pl⟩ = ⟨#[]⟩ := by simp [shapeP, shapePN]
  have e2 : starOf ⟨#[]⟩ = 0 := by decide
  have e3 : tupP ⟨70, nm, tx, kk, pl⟩ = false := by simp [tupP]
  rw [e1, e2, e3, fits0_eq]
  rfl

theorem kidsP_71 (nm : Int) (tx : ByteArray) (kk pl : Int) (ks : List Nd) : (!tupP ⟨71, nm, tx, kk, pl⟩ && fitsB (shapeP ⟨71, nm, tx, kk, pl⟩) (starOf (shapeP ⟨71, nm, tx, kk, pl⟩)) ks) = plainKids 71 ⟨71, nm, tx, kk, pl⟩ ks := by
  have e1 : shapeP ⟨71, nm, tx, kk, pl⟩ = ⟨#[]⟩ := by simp [shapeP, shapePN]
  have e2 : starOf ⟨#[]⟩ = 0 := by decide
  have e3 : tupP ⟨71, nm, tx, kk, pl⟩ = false := by simp [tupP]
  rw [e1, e2, e3, fits0_eq]
  rfl

theorem kidsP_72 (nm : Int) (tx : ByteArray) (kk pl : Int) (ks : List Nd) : (!tupP ⟨72, nm, tx, kk, pl⟩ && fitsB (shapeP ⟨72, nm, tx, kk, pl⟩) (starOf (shapeP ⟨72, nm, tx, kk, pl⟩)) ks) = plainKids 72 ⟨72, nm, tx, kk, pl⟩ ks := by
  have e1 : shapeP ⟨72, nm, tx, kk, pl⟩ = ⟨#[]⟩ := by simp [shapeP, shapePN]
  have e2 : starOf ⟨#[]⟩ = 0 := by decide
  have e3 : tupP ⟨72, nm, tx, kk, pl⟩ = false := by simp [tupP]
  rw [e1, e2, e3, fits0_eq]
  rfl

theorem kidsP_73 (nm : Int) (tx : ByteArray) (kk pl : Int) (ks : List Nd) : (!tupP ⟨73, nm, tx, kk, pl⟩ && fitsB (shapeP ⟨73, nm, tx, kk, pl⟩) (starOf (shapeP ⟨73, nm, tx, kk, pl⟩)) ks) = plainKids 73 ⟨73, nm, tx, kk, pl⟩ ks := by
  have e1 : shapeP ⟨73, nm, tx, kk, pl⟩ = ⟨#[]⟩ := by simp [shapeP, shapePN]
  have e2 : starOf ⟨#[]⟩ = 0 := by decide
  have e3 : tupP ⟨73, nm, tx, kk, pl⟩ = false := by simp [tupP]
  rw [e1, e2, e3, fits0_eq]
  rfl

theorem kidsP_74 (nm : Int) (tx : ByteArray) (kk pl : Int) (ks : List Nd) : (!tupP ⟨74, nm, tx, kk, pl⟩ && fitsB (shapeP ⟨74, nm, tx, kk, pl⟩) (starOf (shapeP ⟨74, nm, tx, kk, pl⟩)) ks) = plainKids 74 ⟨74, nm, tx, kk, pl⟩ ks := by
  have e1 : shapeP ⟨74, nm, tx, kk, pl⟩ = ⟨#[]⟩ := by simp [shapeP, shapePN]
  have e2 : starOf ⟨#[]⟩ = 0 := by decide
  have e3 : tupP ⟨74, nm, tx, kk, pl⟩ = false := by simp [tupP]
  rw [e1, e2, e3, fits0_eq]
  rfl

theorem kidsP_75 (nm : Int) (tx : ByteArray) (kk pl : Int) (ks : List Nd) (hk : kk = (ks.length : Int)) : (!tupP ⟨75, nm, tx, kk, pl⟩ && fitsB (shapeP ⟨75, nm, tx, kk, pl⟩) (starOf (shapeP ⟨75, nm, tx, kk, pl⟩)) ks) = plainKids 75 ⟨75, nm, tx, kk, pl⟩ ks := by
  have e1 : shapeP ⟨75, nm, tx, kk, pl⟩ = ⟨#[99, 42]⟩ := by simp [shapeP, shapePN]
  have e2 : starOf ⟨#[99, 42]⟩ = 1 := by decide
  have e3 : tupP ⟨75, nm, tx, kk, pl⟩ = (kk == 1) := by simp [tupP]
  rw [e1, e2, e3, fitsS_eq, fun_c]
  subst hk
  rfl

theorem kidsP_76 (nm : Int) (tx : ByteArray) (kk pl : Int) (ks : List Nd) : (!tupP ⟨76, nm, tx, kk, pl⟩ && fitsB (shapeP ⟨76, nm, tx, kk, pl⟩) (starOf (shapeP ⟨76, nm, tx, kk, pl⟩)) ks) = plainKids 76 ⟨76, nm, tx, kk, pl⟩ ks := by
  have e1 : shapeP ⟨76, nm, tx, kk, pl⟩ = ⟨#[99]⟩ := by simp [shapeP, shapePN]
  have e2 : starOf ⟨#[99]⟩ = 1 := by decide
  have e3 : tupP ⟨76, nm, tx, kk, pl⟩ = false := by simp [tupP]
  rw [e1, e2, e3, fits1_eq, fun_c]
  rfl

theorem kidsP_77 (nm : Int) (tx : ByteArray) (kk pl : Int) (ks : List Nd) : (!tupP ⟨77, nm, tx, kk, pl⟩ && fitsB (shapeP ⟨77, nm, tx, kk, pl⟩) (starOf (shapeP ⟨77, nm, tx, kk, pl⟩)) ks) = plainKids 77 ⟨77, nm, tx, kk, pl⟩ ks := by
  have e1 : shapeP ⟨77, nm, tx, kk, pl⟩ = ⟨#[99, 99]⟩ := by simp [shapeP, shapePN]
  have e2 : starOf ⟨#[99, 99]⟩ = 2 := by decide
  have e3 : tupP ⟨77, nm, tx, kk, pl⟩ = false := by simp [tupP]
  rw [e1, e2, e3, fits2_eq, fun_c]
  rfl

theorem kidsP_80 (nm : Int) (tx : ByteArray) (kk pl : Int) (ks : List Nd) : (!tupP ⟨80, nm, tx, kk, pl⟩ && fitsB (shapeP ⟨80, nm, tx, kk, pl⟩) (starOf (shapeP ⟨80, nm, tx, kk, pl⟩)) ks) = plainKids 80 ⟨80, nm, tx, kk, pl⟩ ks := by
  have e1 : shapeP ⟨80, nm, tx, kk, pl⟩ = ⟨#[99, 99]⟩ := by simp [shapeP, shapePN]
  have e2 : starOf ⟨#[99, 99]⟩ = 2 := by decide
  have e3 : tupP ⟨80, nm, tx, kk, pl⟩ = false := by simp [tupP]
  rw [e1, e2, e3, fits2_eq, fun_c]
  rfl

theorem kidsP_81 (nm : Int) (tx : ByteArray) (kk pl : Int) (ks : List Nd) : (!tupP ⟨81, nm, tx, kk, pl⟩ && fitsB (shapeP ⟨81, nm, tx, kk, pl⟩) (starOf (shapeP ⟨81, nm, tx, kk, pl⟩)) ks) = plainKids 81 ⟨81, nm, tx, kk, pl⟩ ks := by
  have e1 : shapeP ⟨81, nm, tx, kk, pl⟩ = ⟨#[66, 66, 42, 99]⟩ := by simp [shapeP, shapePN]
  have e2 : starOf ⟨#[66, 66, 42, 99]⟩ = 2 := by decide
  have e3 : tupP ⟨81, nm, tx, kk, pl⟩ = false := by simp [tupP]
  rw [e1, e2, e3, fitsL_eq]
  rfl

theorem kidsP_82 (nm : Int) (tx : ByteArray) (kk pl : Int) (ks : List Nd) : (!tupP ⟨82, nm, tx, kk, pl⟩ && fitsB (shapeP ⟨82, nm, tx, kk, pl⟩) (starOf (shapeP ⟨82, nm, tx, kk, pl⟩)) ks) = plainKids 82 ⟨82, nm, tx, kk, pl⟩ ks := by
  have e1 : shapeP ⟨82, nm, tx, kk, pl⟩ = ⟨#[99]⟩ := by simp [shapeP, shapePN]
  have e2 : starOf ⟨#[99]⟩ = 1 := by decide
  have e3 : tupP ⟨82, nm, tx, kk, pl⟩ = false := by simp [tupP]
  rw [e1, e2, e3, fits1_eq, fun_c]
  rfl

theorem kidsP_83 (nm : Int) (tx : ByteArray) (kk pl : Int) (ks : List Nd) : (!tupP ⟨83, nm, tx, kk, pl⟩ && fitsB (shapeP ⟨83, nm, tx, kk, pl⟩) (starOf (shapeP ⟨83, nm, tx, kk, pl⟩)) ks) = plainKids 83 ⟨83, nm, tx, kk, pl⟩ ks := by
  have e1 : shapeP ⟨83, nm, tx, kk, pl⟩ = ⟨#[99, 82, 82, 42]⟩ := by simp [shapeP, shapePN]
  have e2 : starOf ⟨#[99, 82, 82, 42]⟩ = 3 := by decide
  have e3 : tupP ⟨83, nm, tx, kk, pl⟩ = false := by simp [tupP]
  rw [e1, e2, e3, fitsF_eq]
  rfl

theorem kidsP_84 (nm : Int) (tx : ByteArray) (kk pl : Int) (ks : List Nd) : (!tupP ⟨84, nm, tx, kk, pl⟩ && fitsB (shapeP ⟨84, nm, tx, kk, pl⟩) (starOf (shapeP ⟨84, nm, tx, kk, pl⟩)) ks) = plainKids 84 ⟨84, nm, tx, kk, pl⟩ ks := by
  have e1 : shapeP ⟨84, nm, tx, kk, pl⟩ = ⟨#[113, 99]⟩ := by simp [shapeP, shapePN]
  have e2 : starOf ⟨#[113, 99]⟩ = 2 := by decide
  have e3 : tupP ⟨84, nm, tx, kk, pl⟩ = false := by simp [tupP]
  rw [e1, e2, e3, fits2_eq, fun_q, fun_c]
  rfl

theorem kidsP_85 (nm : Int) (tx : ByteArray) (kk pl : Int) (ks : List Nd) : (!tupP ⟨85, nm, tx, kk, pl⟩ && fitsB (shapeP ⟨85, nm, tx, kk, pl⟩) (starOf (shapeP ⟨85, nm, tx, kk, pl⟩)) ks) = plainKids 85 ⟨85, nm, tx, kk, pl⟩ ks := by
  have e1 : shapeP ⟨85, nm, tx, kk, pl⟩ = ⟨#[99]⟩ := by simp [shapeP, shapePN]
  have e2 : starOf ⟨#[99]⟩ = 1 := by decide
  have e3 : tupP ⟨85, nm, tx, kk, pl⟩ = false := by simp [tupP]
  rw [e1, e2, e3, fits1_eq, fun_c]
  rfl

theorem kidsP_86 (nm : Int) (tx : ByteArray) (kk pl : Int) (ks : List Nd) : (!tupP ⟨86, nm, tx, kk, pl⟩ && fitsB (shapeP ⟨86, nm, tx, kk, pl⟩) (starOf (shapeP ⟨86, nm, tx, kk, pl⟩)) ks) = plainKids 86 ⟨86, nm, tx, kk, pl⟩ ks := by
  have e1 : shapeP ⟨86, nm, tx, kk, pl⟩ = ⟨#[99, 82, 82, 42]⟩ := by simp [shapeP, shapePN]
  have e2 : starOf ⟨#[99, 82, 82, 42]⟩ = 3 := by decide
  have e3 : tupP ⟨86, nm, tx, kk, pl⟩ = false := by simp [tupP]
  rw [e1, e2, e3, fitsF_eq]
  rfl

theorem kidsP_87 (nm : Int) (tx : ByteArray) (kk pl : Int) (ks : List Nd) : (!tupP ⟨87, nm, tx, kk, pl⟩ && fitsB (shapeP ⟨87, nm, tx, kk, pl⟩) (starOf (shapeP ⟨87, nm, tx, kk, pl⟩)) ks) = plainKids 87 ⟨87, nm, tx, kk, pl⟩ ks := by
  have e1 : shapeP ⟨87, nm, tx, kk, pl⟩ = ⟨#[99, 99]⟩ := by simp [shapeP, shapePN]
  have e2 : starOf ⟨#[99, 99]⟩ = 2 := by decide
  have e3 : tupP ⟨87, nm, tx, kk, pl⟩ = false := by simp [tupP]
  rw [e1, e2, e3, fits2_eq, fun_c]
  rfl

theorem kidsP_88 (nm : Int) (tx : ByteArray) (kk pl : Int) (ks : List Nd) : (!tupP ⟨88, nm, tx, kk, pl⟩ && fitsB (shapeP ⟨88, nm, tx, kk, pl⟩) (starOf (shapeP ⟨88, nm, tx, kk, pl⟩)) ks) = plainKids 88 ⟨88, nm, tx, kk, pl⟩ ks := by
  have e1 : shapeP ⟨88, nm, tx, kk, pl⟩ = ⟨#[99, 99]⟩ := by simp [shapeP, shapePN]
  have e2 : starOf ⟨#[99, 99]⟩ = 2 := by decide
  have e3 : tupP ⟨88, nm, tx, kk, pl⟩ = false := by simp [tupP]
  rw [e1, e2, e3, fits2_eq, fun_c]
  rfl

theorem kidsP_89 (nm : Int) (tx : ByteArray) (kk pl : Int) (ks : List Nd) : (!tupP ⟨89, nm, tx, kk, pl⟩ && fitsB (shapeP ⟨89, nm, tx, kk, pl⟩) (starOf (shapeP ⟨89, nm, tx, kk, pl⟩)) ks) = plainKids 89 ⟨89, nm, tx, kk, pl⟩ ks := by
  have e1 : shapeP ⟨89, nm, tx, kk, pl⟩ = ⟨#[99]⟩ := by simp [shapeP, shapePN]
  have e2 : starOf ⟨#[99]⟩ = 1 := by decide
  have e3 : tupP ⟨89, nm, tx, kk, pl⟩ = false := by simp [tupP]
  rw [e1, e2, e3, fits1_eq, fun_c]
  rfl

theorem kidsP_90 (nm : Int) (tx : ByteArray) (kk pl : Int) (ks : List Nd) : (!tupP ⟨90, nm, tx, kk, pl⟩ && fitsB (shapeP ⟨90, nm, tx, kk, pl⟩) (starOf (shapeP ⟨90, nm, tx, kk, pl⟩)) ks) = plainKids 90 ⟨90, nm, tx, kk, pl⟩ ks := by
  have e1 : shapeP ⟨90, nm, tx, kk, pl⟩ = ⟨#[]⟩ := by simp [shapeP, shapePN]
  have e2 : starOf ⟨#[]⟩ = 0 := by decide
  have e3 : tupP ⟨90, nm, tx, kk, pl⟩ = false := by simp [tupP]
  rw [e1, e2, e3, fits0_eq]
  rfl

theorem kidsP_91 (nm : Int) (tx : ByteArray) (kk pl : Int) (ks : List Nd) : (!tupP ⟨91, nm, tx, kk, pl⟩ && fitsB (shapeP ⟨91, nm, tx, kk, pl⟩) (starOf (shapeP ⟨91, nm, tx, kk, pl⟩)) ks) = plainKids 91 ⟨91, nm, tx, kk, pl⟩ ks := by
  have e1 : shapeP ⟨91, nm, tx, kk, pl⟩ = ⟨#[113]⟩ := by simp [shapeP, shapePN]
  have e2 : starOf ⟨#[113]⟩ = 1 := by decide
  have e3 : tupP ⟨91, nm, tx, kk, pl⟩ = false := by simp [tupP]
  rw [e1, e2, e3, fits1_eq, fun_q]
  rfl

theorem kidsP_19 (nm : Int) (tx : ByteArray) (kk pl : Int) (ks : List Nd) (hk : kk = (ks.length : Int)) : (!tupP ⟨19, nm, tx, kk, pl⟩ && fitsB (shapeP ⟨19, nm, tx, kk, pl⟩) (starOf (shapeP ⟨19, nm, tx, kk, pl⟩)) ks) = plainKids 19 ⟨19, nm, tx, kk, pl⟩ ks := by
  have e1 : shapeP ⟨19, nm, tx, kk, pl⟩ = shapeB ⟨19, nm, tx, kk, pl⟩ := by simp [shapeP]
  have e2 : tupP ⟨19, nm, tx, kk, pl⟩ = tup1 ⟨19, nm, tx, kk, pl⟩ := by simp [tupP, tup1]
  rw [e1, e2, kids_19 nm tx kk pl ks hk]
  rfl

theorem bar_list {k : Int} (h : barB k = false) : k = 15 ∨ k = 17 ∨ k = 18 ∨ k = 19 ∨ k = 20 ∨ k = 70 ∨ k = 71 ∨ k = 72 ∨ k = 73 ∨ k = 74 ∨ k = 75 ∨ k = 76 ∨ k = 77 ∨ k = 80 ∨ k = 81 ∨ k = 82 ∨ k = 83 ∨ k = 84 ∨ k = 85 ∨ k = 86 ∨ k = 87 ∨ k = 88 ∨ k = 89 ∨ k = 90 ∨ k = 91 := by
  unfold barB at h
  simp only [Bool.or_eq_false_iff, beq_eq_false_iff_ne] at h
  obtain ⟨⟨⟨⟨h1, h2⟩, h3⟩, h4⟩, h5⟩ := h
  have h6 := kind_list h1
  have a1 : k ≠ 12 := by intro e; subst e; exact h2 rfl
  have a2 : k ≠ 13 := by intro e; subst e; exact h2 rfl
  have a3 : k ≠ 14 := by intro e; subst e; exact h2 rfl
  have a4 : k ≠ 60 := by intro e; subst e; exact h2 rfl
  have a5 : k ≠ 62 := by intro e; subst e; exact h3 rfl
  omega

theorem plain_list {n : Nat} {p : Nd → Bool} (h : plainOwn n = some p) : barB (n : Int) = false := by
  unfold plainOwn at h
  by_cases ht : typB n = true
  · rw [if_pos ht] at h
    cases h
  · rw [if_neg ht] at h
    have h1 := kind_list (own_list h)
    have h2 : n ≠ 12 ∧ n ≠ 13 ∧ n ≠ 14 ∧ n ≠ 60 ∧ n ≠ 62 ∧ n ≠ 78 ∧ n ≠ 79 := by
      unfold typB at ht
      simp at ht
      omega
    have h3 : n = 15 ∨ n = 17 ∨ n = 18 ∨ n = 19 ∨ n = 20 ∨ n = 70 ∨ n = 71 ∨ n = 72 ∨ n = 73 ∨ n = 74 ∨ n = 75 ∨ n = 76 ∨ n = 77 ∨ n = 80 ∨ n = 81 ∨ n = 82 ∨ n = 83 ∨ n = 84 ∨ n = 85 ∨ n = 86 ∨ n = 87 ∨ n = 88 ∨ n = 89 ∨ n = 90 ∨ n = 91 := by omega
    clear h1 h2 ht h
    rcases h3 with rfl | rfl | rfl | rfl | rfl | rfl | rfl | rfl | rfl | rfl | rfl | rfl | rfl | rfl | rfl | rfl | rfl | rfl | rfl | rfl | rfl | rfl | rfl | rfl | rfl <;> decide

theorem kidsP_eq (x : Nd) (ks : List Nd) (h : barB x.kind = false) (hk : x.kids = (ks.length : Int)) : (!tupP x && fitsB (shapeP x) (starOf (shapeP x)) ks) = plainKids x.kind.toNat x ks := by
  obtain ⟨k, nm, tx, kk, pl⟩ := x
  have hl := bar_list h
  clear h
  simp only at hl hk ⊢
  rcases hl with rfl | rfl | rfl | rfl | rfl | rfl | rfl | rfl | rfl | rfl | rfl | rfl | rfl | rfl | rfl | rfl | rfl | rfl | rfl | rfl | rfl | rfl | rfl | rfl | rfl
  · exact kidsP_15 nm tx kk pl ks
  · exact kidsP_17 nm tx kk pl ks
  · exact kidsP_18 nm tx kk pl ks
  · exact kidsP_19 nm tx kk pl ks hk
  · exact kidsP_20 nm tx kk pl ks hk
  · exact kidsP_70 nm tx kk pl ks
  · exact kidsP_71 nm tx kk pl ks
  · exact kidsP_72 nm tx kk pl ks
  · exact kidsP_73 nm tx kk pl ks
  · exact kidsP_74 nm tx kk pl ks
  · exact kidsP_75 nm tx kk pl ks hk
  · exact kidsP_76 nm tx kk pl ks
  · exact kidsP_77 nm tx kk pl ks
  · exact kidsP_80 nm tx kk pl ks
  · exact kidsP_81 nm tx kk pl ks
  · exact kidsP_82 nm tx kk pl ks
  · exact kidsP_83 nm tx kk pl ks
  · exact kidsP_84 nm tx kk pl ks
  · exact kidsP_85 nm tx kk pl ks
  · exact kidsP_86 nm tx kk pl ks
  · exact kidsP_87 nm tx kk pl ks
  · exact kidsP_88 nm tx kk pl ks
  · exact kidsP_89 nm tx kk pl ks
  · exact kidsP_90 nm tx kk pl ks
  · exact kidsP_91 nm tx kk pl ks

theorem ownP_eq (x : Nd) (h : barB x.kind = false) : ∃ p, plainOwn x.kind.toNat = some p ∧ ownB x = (x.place == 0 && p x) := by
  have h1 : letK x.kind ≠ 45 := by
    unfold barB at h
    simp only [Bool.or_eq_false_iff, beq_eq_false_iff_ne] at h
    exact h.1.1.1.1
  obtain ⟨p, hp, ho⟩ := own_eq x h1
  refine ⟨p, ?_, ho⟩
  unfold plainOwn
  have hl := bar_list h
  rw [if_neg ?_, hp]
  intro ht
  unfold typB at ht
  simp at ht
  omega

theorem nodeP_eq (x : Nd) (ks : List Nd) (hk : x.kids = (ks.length : Int)) :
    (!barB x.kind && (ownB x && (!tupP x && fitsB (shapeP x) (starOf (shapeP x)) ks))) = nodeOk plainOwn plainKids x ks := by
  cases h : barB x.kind
  · obtain ⟨p, hp, ho⟩ := ownP_eq x h
    have hl := bar_list h
    have h0 : decide (0 ≤ x.kind) = true := decide_eq_true (by omega)
    have h1 : decide (x.kind < 92) = true := decide_eq_true (by omega)
    rw [kidsP_eq x ks h hk, ho]
    unfold nodeOk
    rw [h0, h1, hp]
    simp only [Bool.true_and, Bool.and_assoc, Bool.not_false]
  · have e : nodeOk plainOwn plainKids x ks = false := by
      unfold nodeOk
      by_cases h0 : 0 ≤ x.kind
      · cases ho : plainOwn x.kind.toNat with
        | none => simp
        | some p =>
          have h9 := plain_list ho
          rw [Int.toNat_of_nonneg h0, h] at h9
          cases h9
      · simp [h0]
    rw [e]
    rfl

theorem okP_eq {t : List Nd} {S ys : List Sp} (h : after t t.length = some (S, ys)) (k : Nat) (hk : k < t.length) : okP t k = okAt plainOwn plainKids t k := by
  obtain ⟨Si, hSi, hkt, hK⟩ := kids_atS h k hk
  have hn : (ndAt t k).kids = ((kidsN t k).length : Int) := by
    rw [ndAt_get hk, kidsN_eq hSi hkt, List.length_map]
    exact hK.num.choose_spec
  unfold okP okAt
  rw [nodeP_eq (ndAt t k) (kidsN t k) hn]
  cases hq : nodeOk plainOwn plainKids (ndAt t k) (kidsN t k)
  · rfl
  · have h62 : (ndAt t k).kind ≠ 62 := by
      intro e
      have h9 : nodeOk plainOwn plainKids (ndAt t k) (kidsN t k) = false := by
        rw [← nodeP_eq (ndAt t k) (kidsN t k) hn, e]
        rfl
      rw [hq] at h9
      cases h9
    rw [alls, if_neg h62]
    rfl

theorem plain_eq (t : List Nd) : PlainS t ↔ InForm plainOwn plainKids pCode t := by
  have hc : ∀ x : Nd, letK x.kind = 99 ↔ pCode x = true := by
    intro x
    rw [← isK_c]
    unfold isK
    simp
  constructor
  · rintro ⟨h1, h2, h3, h4⟩
    obtain ⟨h0, S, ys, hA⟩ := raw_after h2
    exact ⟨h1, h2, fun i hi => by rw [← okP_eq hA i hi]; exact h4 i hi, (hc _).1 h3⟩
  · rintro ⟨h1, h2, h4, h3⟩
    obtain ⟨h0, S, ys, hA⟩ := raw_after h2
    exact ⟨h1, h2, (hc _).2 h3, fun i hi => by rw [okP_eq hA i hi]; exact h4 i hi⟩

end Go.Proofs.Ytekogjmmfhbinaa
