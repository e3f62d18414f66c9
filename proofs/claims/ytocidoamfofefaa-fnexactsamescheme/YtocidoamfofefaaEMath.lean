
import Derived.Test.YtocidoamfofefaaFormEq
namespace Go.Proofs.Ytocidoamfofefaa

/-- Kinds that plain code has nothing for. -/
def typI (k : Int) : Bool := k == 12 || k == 13 || k == 14 || k == 60 || k == 62 || k == 78 || k == 79

theorem typI_letters (k : Int) : (letK k == 116 || letK k == 115 || k == 78 || k == 79) = typI k := by
  rw [Bool.eq_iff_iff]
  unfold letK typI
  repeat' split
  all_goals simp
  all_goals omega

/-- How many kids a node has when types are left out. -/
def ekids (x : Nd) : Int :=
  if x.kind = 71 ∨ x.kind = 74 ∨ x.kind = 90 then 0
  else if x.kind = 76 ∨ x.kind = 82 ∨ x.kind = 85 ∨ x.kind = 91 then 1
  else if x.kind = 80 then 2
  else x.kids

def eraI (x : Nd) : Nd := ⟨x.kind, x.num, x.text, ekids x, x.place⟩

/-- The nodes that are left, of the first k. -/
def outTo (t : List Nd) : Nat → List Nd
  | 0 => []
  | k + 1 => if typI (ndAt t k).kind then outTo t k else outTo t k ++ [eraI (ndAt t k)]

theorem outTo_len (t : List Nd) (k : Nat) : (outTo t k).length ≤ k := by
  induction k with
  | zero => exact Nat.le_refl _
  | succ k ih =>
    unfold outTo
    split
    · omega
    · simp; exact ih

/-- A kid that is no type. -/
def noTy (y : Nd) : Bool := letK y.kind != 116 && letK y.kind != 115

theorem noTy_t {y : Nd} (h : pType y = true) : noTy y = false := by
  rw [← isK_t] at h
  unfold isK at h
  simp at h
  simp [noTy, h]

theorem noTy_s {y : Nd} (h : pScheme y = true) : noTy y = false := by
  rw [← isK_s] at h
  unfold isK at h
  simp at h
  rcases h with h | h <;> simp [noTy, h]

theorem noTy_of {y : Nd} {c : Nat} (hc : c ≠ 115 ∧ c ≠ 116) (h : isK y.kind c = true) : noTy y = true := by
  unfold isK at h
  have h9 : letK y.kind = c := by
    have e : (c == 115) = false := beq_eq_false_iff_ne.2 hc.1
    rw [e] at h
    simpa using h
  simp [noTy, h9, hc]

theorem noTy_c {y : Nd} (h : pCode y = true) : noTy y = true := noTy_of (c := 99) (by decide) (by rw [isK_c]; exact h)
theorem noTy_q {y : Nd} (h : pPat y = true) : noTy y = true := noTy_of (c := 113) (by decide) (by rw [isK_q]; exact h)
theorem noTy_B {y : Nd} (h : pKind 82 y = true) : noTy y = true := noTy_of (c := 66) (by decide) (by rw [isK_B]; exact h)
theorem noTy_R {y : Nd} (h : pKind 84 y = true) : noTy y = true := noTy_of (c := 82) (by decide) (by rw [isK_R]; exact h)

/-- How many of the kids are no types. -/
def cnt (ks : List Nd) : Nat := (ks.filter noTy).length

theorem cnt_none {ks : List Nd} {p : Nd → Bool} (hp : ∀ y, p y = true → noTy y = false) (h : ks.all p = true) : cnt ks = 0 := by
  unfold cnt
  rw [List.length_eq_zero_iff, List.filter_eq_nil_iff]
  intro y hy
  rw [hp y (List.all_eq_true.1 h y hy)]
  simp

theorem cnt_all {ks : List Nd} (h : ∀ y ∈ ks, noTy y = true) : cnt ks = ks.length := by
  unfold cnt
  rw [List.filter_eq_self.2 h]

theorem cnt_allp {ks : List Nd} {p : Nd → Bool} (hp : ∀ y, p y = true → noTy y = true) (h : ks.all p = true) : cnt ks = ks.length :=
  cnt_all fun y hy => hp y (List.all_eq_true.1 h y hy)

theorem cnt_nil {ks : List Nd} (h : fitAll [] ks = true) : cnt ks = 0 ∧ ks.length = 0 := by
  cases ks with
  | nil => exact ⟨rfl, rfl⟩
  | cons a ks => simp [fitAll] at h

theorem cnt_one {ks : List Nd} {p : Nd → Bool} (h : fitAll [p] ks = true) : ∃ a, ks = [a] ∧ p a = true := by
  match ks with
  | [] => simp [fitAll] at h
  | [a] => exact ⟨a, rfl, by simpa [fitAll] using h⟩
  | a :: b :: ks => simp [fitAll] at h

theorem cnt_two {ks : List Nd} {p q : Nd → Bool} (h : fitAll [p, q] ks = true) : ∃ a b, ks = [a, b] ∧ p a = true ∧ q b = true := by
  match ks with
  | [] => simp [fitAll] at h
  | [a] => simp [fitAll] at h
  | [a, b] => exact ⟨a, b, rfl, by simpa [fitAll] using h⟩
  | a :: b :: c :: ks => simp [fitAll] at h

theorem cnt_three {ks : List Nd} {p q r : Nd → Bool} (h : fitAll [p, q, r] ks = true) : ∃ a b c, ks = [a, b, c] ∧ p a = true ∧ q b = true ∧ r c = true := by
  match ks with
  | [] => simp [fitAll] at h
  | [a] => simp [fitAll] at h
  | [a, b] => simp [fitAll] at h
  | [a, b, c] => exact ⟨a, b, c, rfl, by simpa [fitAll] using h⟩
  | a :: b :: c :: d :: ks => simp [fitAll] at h

theorem cnt_first {ks : List Nd} (h : firstB pCode (pKind 84) ks = true) : cnt ks = ks.length := by
  unfold firstB at h
  simp only [Bool.and_eq_true, decide_eq_true_eq] at h
  obtain ⟨⟨h1, h2⟩, h3⟩ := h
  apply cnt_all
  intro y hy
  obtain ⟨i, hi, rfl⟩ := List.mem_iff_getElem.1 hy
  by_cases h0 : i = 0
  · subst h0
    rw [ndAt_get (by omega)] at h2
    exact noTy_c h2
  · refine noTy_R (List.all_eq_true.1 h3 _ ?_)
    rw [List.mem_iff_getElem]
    exact ⟨i - 1, by simp; omega, by simp [show i - 1 + 1 = i by omega]⟩

theorem cnt_last {ks : List Nd} (h : lastB (pKind 82) pCode ks = true) : cnt ks = ks.length := by
  unfold lastB at h
  simp only [Bool.and_eq_true, decide_eq_true_eq] at h
  obtain ⟨⟨h1, h2⟩, h3⟩ := h
  apply cnt_all
  intro y hy
  obtain ⟨i, hi, rfl⟩ := List.mem_iff_getElem.1 hy
  by_cases h0 : i = ks.length - 1
  · subst h0
    rw [ndAt_get (by omega)] at h3
    exact noTy_c h3
  · refine noTy_B (List.all_eq_true.1 h2 _ ?_)
    rw [List.mem_iff_getElem]
    exact ⟨i, by simp; omega, by simp⟩

theorem cnt_15 (nm : Int) (tx : ByteArray) (kk pl : Int) (ks : List Nd) (hk : kk = (ks.length : Int)) (h : codeKids 15 ⟨15, nm, tx, kk, pl⟩ ks = true) : ((cnt ks : Nat) : Int) = ekids ⟨15, nm, tx, kk, pl⟩ := by
  have h9 := cnt_nil (show fitAll [] ks = true from h)
  have e : ekids ⟨15, nm, tx, kk, pl⟩ = kk := by simp [ekids]
  rw [e, hk, h9.1, h9.2]

theorem cnt_17 (nm : Int) (tx : ByteArray) (kk pl : Int) (ks : List Nd) (hk : kk = (ks.length : Int)) (h : codeKids 17 ⟨17, nm, tx, kk, pl⟩ ks = true) : ((cnt ks : Nat) : Int) = ekids ⟨17, nm, tx, kk, pl⟩ := by
  have h9 := cnt_nil (show fitAll [] ks = true from h)
  have e : ekids ⟨17, nm, tx, kk, pl⟩ = kk := by simp [ekids]
  rw [e, hk, h9.1, h9.2]

theorem cnt_18 (nm : Int) (tx : ByteArray) (kk pl : Int) (ks : List Nd) (hk : kk = (ks.length : Int)) (h : codeKids 18 ⟨18, nm, tx, kk, pl⟩ ks = true) : ((cnt ks : Nat) : Int) = ekids ⟨18, nm, tx, kk, pl⟩ := by
  have h9 := cnt_nil (show fitAll [] ks = true from h)
  have e : ekids ⟨18, nm, tx, kk, pl⟩ = kk := by simp [ekids]
  rw [e, hk, h9.1, h9.2]

theorem cnt_19 (nm : Int) (tx : ByteArray) (kk pl : Int) (ks : List Nd) (hk : kk = (ks.length : Int)) (h : codeKids 19 ⟨19, nm, tx, kk, pl⟩ ks = true) : ((cnt ks : Nat) : Int) = ekids ⟨19, nm, tx, kk, pl⟩ := by
  have h9 : (decide ((ks.length : Int) ≤ 1) && ks.all pPat) = true := h
  rw [Bool.and_eq_true] at h9
  have e : ekids ⟨19, nm, tx, kk, pl⟩ = kk := by simp [ekids]
  rw [e, hk, cnt_allp (fun _ => noTy_q) h9.2]

theorem cnt_20 (nm : Int) (tx : ByteArray) (kk pl : Int) (ks : List Nd) (hk : kk = (ks.length : Int)) (h : codeKids 20 ⟨20, nm, tx, kk, pl⟩ ks = true) : ((cnt ks : Nat) : Int) = ekids ⟨20, nm, tx, kk, pl⟩ := by
  have h9 : (((ks.length : Int) != 1) && ks.all pPat) = true := h
  rw [Bool.and_eq_true] at h9
  have e : ekids ⟨20, nm, tx, kk, pl⟩ = kk := by simp [ekids]
  rw [e, hk, cnt_allp (fun _ => noTy_q) h9.2]

theorem cnt_70 (nm : Int) (tx : ByteArray) (kk pl : Int) (ks : List Nd) (hk : kk = (ks.length : Int)) (h : codeKids 70 ⟨70, nm, tx, kk, pl⟩ ks = true) : ((cnt ks : Nat) : Int) = ekids ⟨70, nm, tx, kk, pl⟩ := by
  have h9 := cnt_nil (show fitAll [] ks = true from h)
  have e : ekids ⟨70, nm, tx, kk, pl⟩ = kk := by simp [ekids]
  rw [e, hk, h9.1, h9.2]

theorem cnt_71 (nm : Int) (tx : ByteArray) (kk pl : Int) (ks : List Nd) (_hk : kk = (ks.length : Int)) (h : codeKids 71 ⟨71, nm, tx, kk, pl⟩ ks = true) : ((cnt ks : Nat) : Int) = ekids ⟨71, nm, tx, kk, pl⟩ := by
  have h9 : refB ⟨71, nm, tx, kk, pl⟩ ks = true := h
  have e : ekids ⟨71, nm, tx, kk, pl⟩ = 0 := by simp [ekids]
  rw [e]
  unfold refB at h9
  split at h9
  · simp only [Bool.and_eq_true, beq_iff_eq] at h9
    obtain ⟨h1, h2⟩ := h9
    match ks, h1 with
    | [a], _ =>
      have h3 : pType a = true := by simpa [ndAt] using h2
      simp [cnt, noTy_t h3]
  · have h1 : ks.length = 0 := by simpa using h9
    rw [List.length_eq_zero_iff] at h1
    subst h1
    rfl

theorem cnt_72 (nm : Int) (tx : ByteArray) (kk pl : Int) (ks : List Nd) (hk : kk = (ks.length : Int)) (h : codeKids 72 ⟨72, nm, tx, kk, pl⟩ ks = true) : ((cnt ks : Nat) : Int) = ekids ⟨72, nm, tx, kk, pl⟩ := by
  have h9 := cnt_nil (show fitAll [] ks = true from h)
  have e : ekids ⟨72, nm, tx, kk, pl⟩ = kk := by simp [ekids]
  rw [e, hk, h9.1, h9.2]

theorem cnt_73 (nm : Int) (tx : ByteArray) (kk pl : Int) (ks : List Nd) (hk : kk = (ks.length : Int)) (h : codeKids 73 ⟨73, nm, tx, kk, pl⟩ ks = true) : ((cnt ks : Nat) : Int) = ekids ⟨73, nm, tx, kk, pl⟩ := by
  have h9 := cnt_nil (show fitAll [] ks = true from h)
  have e : ekids ⟨73, nm, tx, kk, pl⟩ = kk := by simp [ekids]
  rw [e, hk, h9.1, h9.2]

theorem cnt_74 (nm : Int) (tx : ByteArray) (kk pl : Int) (ks : List Nd) (_hk : kk = (ks.length : Int)) (h : codeKids 74 ⟨74, nm, tx, kk, pl⟩ ks = true) : ((cnt ks : Nat) : Int) = ekids ⟨74, nm, tx, kk, pl⟩ := by
  have h9 : (decide ((0 : Int) ≤ (ks.length : Int)) && ks.all pType) = true := h
  rw [Bool.and_eq_true] at h9
  rw [cnt_none (fun _ => noTy_t) h9.2]
  simp [ekids]

theorem cnt_75 (nm : Int) (tx : ByteArray) (kk pl : Int) (ks : List Nd) (hk : kk = (ks.length : Int)) (h : codeKids 75 ⟨75, nm, tx, kk, pl⟩ ks = true) : ((cnt ks : Nat) : Int) = ekids ⟨75, nm, tx, kk, pl⟩ := by
  have h9 : (((ks.length : Int) != 1) && ks.all pCode) = true := h
  rw [Bool.and_eq_true] at h9
  have e : ekids ⟨75, nm, tx, kk, pl⟩ = kk := by simp [ekids]
  rw [e, hk, cnt_allp (fun _ => noTy_c) h9.2]

theorem cnt_76 (nm : Int) (tx : ByteArray) (kk pl : Int) (ks : List Nd) (_hk : kk = (ks.length : Int)) (h : codeKids 76 ⟨76, nm, tx, kk, pl⟩ ks = true) : ((cnt ks : Nat) : Int) = ekids ⟨76, nm, tx, kk, pl⟩ := by
  obtain ⟨a, b, rfl, h1, h2⟩ := cnt_two (show fitAll [pType, pCode] ks = true from h)
  simp [cnt, noTy_t h1, noTy_c h2, ekids]

theorem cnt_77 (nm : Int) (tx : ByteArray) (kk pl : Int) (ks : List Nd) (hk : kk = (ks.length : Int)) (h : codeKids 77 ⟨77, nm, tx, kk, pl⟩ ks = true) : ((cnt ks : Nat) : Int) = ekids ⟨77, nm, tx, kk, pl⟩ := by
  obtain ⟨a, b, rfl, h1, h2⟩ := cnt_two (show fitAll [pCode, pCode] ks = true from h)
  have e : ekids ⟨77, nm, tx, kk, pl⟩ = kk := by simp [ekids]
  rw [e, hk]
  simp [cnt, noTy_c h1, noTy_c h2]

theorem cnt_80 (nm : Int) (tx : ByteArray) (kk pl : Int) (ks : List Nd) (_hk : kk = (ks.length : Int)) (h : codeKids 80 ⟨80, nm, tx, kk, pl⟩ ks = true) : ((cnt ks : Nat) : Int) = ekids ⟨80, nm, tx, kk, pl⟩ := by
  obtain ⟨a, b, c, rfl, h1, h2, h3⟩ := cnt_three (show fitAll [pScheme, pCode, pCode] ks = true from h)
  simp [cnt, noTy_s h1, noTy_c h2, noTy_c h3, ekids]

theorem cnt_81 (nm : Int) (tx : ByteArray) (kk pl : Int) (ks : List Nd) (hk : kk = (ks.length : Int)) (h : codeKids 81 ⟨81, nm, tx, kk, pl⟩ ks = true) : ((cnt ks : Nat) : Int) = ekids ⟨81, nm, tx, kk, pl⟩ := by
  have e : ekids ⟨81, nm, tx, kk, pl⟩ = kk := by simp [ekids]
  rw [e, hk, cnt_last (show lastB (pKind 82) pCode ks = true from h)]

theorem cnt_82 (nm : Int) (tx : ByteArray) (kk pl : Int) (ks : List Nd) (_hk : kk = (ks.length : Int)) (h : codeKids 82 ⟨82, nm, tx, kk, pl⟩ ks = true) : ((cnt ks : Nat) : Int) = ekids ⟨82, nm, tx, kk, pl⟩ := by
  obtain ⟨a, b, rfl, h1, h2⟩ := cnt_two (show fitAll [pScheme, pCode] ks = true from h)
  simp [cnt, noTy_s h1, noTy_c h2, ekids]

theorem cnt_83 (nm : Int) (tx : ByteArray) (kk pl : Int) (ks : List Nd) (hk : kk = (ks.length : Int)) (h : codeKids 83 ⟨83, nm, tx, kk, pl⟩ ks = true) : ((cnt ks : Nat) : Int) = ekids ⟨83, nm, tx, kk, pl⟩ := by
  have e : ekids ⟨83, nm, tx, kk, pl⟩ = kk := by simp [ekids]
  rw [e, hk, cnt_first (show firstB pCode (pKind 84) ks = true from h)]

theorem cnt_84 (nm : Int) (tx : ByteArray) (kk pl : Int) (ks : List Nd) (hk : kk = (ks.length : Int)) (h : codeKids 84 ⟨84, nm, tx, kk, pl⟩ ks = true) : ((cnt ks : Nat) : Int) = ekids ⟨84, nm, tx, kk, pl⟩ := by
  obtain ⟨a, b, rfl, h1, h2⟩ := cnt_two (show fitAll [pPat, pCode] ks = true from h)
  have e : ekids ⟨84, nm, tx, kk, pl⟩ = kk := by simp [ekids]
  rw [e, hk]
  simp [cnt, noTy_q h1, noTy_c h2]

theorem cnt_85 (nm : Int) (tx : ByteArray) (kk pl : Int) (ks : List Nd) (_hk : kk = (ks.length : Int)) (h : codeKids 85 ⟨85, nm, tx, kk, pl⟩ ks = true) : ((cnt ks : Nat) : Int) = ekids ⟨85, nm, tx, kk, pl⟩ := by
  obtain ⟨a, b, rfl, h1, h2⟩ := cnt_two (show fitAll [pType, pCode] ks = true from h)
  simp [cnt, noTy_t h1, noTy_c h2, ekids]

theorem cnt_86 (nm : Int) (tx : ByteArray) (kk pl : Int) (ks : List Nd) (hk : kk = (ks.length : Int)) (h : codeKids 86 ⟨86, nm, tx, kk, pl⟩ ks = true) : ((cnt ks : Nat) : Int) = ekids ⟨86, nm, tx, kk, pl⟩ := by
  have e : ekids ⟨86, nm, tx, kk, pl⟩ = kk := by simp [ekids]
  rw [e, hk, cnt_first (show firstB pCode (pKind 84) ks = true from h)]

theorem cnt_87 (nm : Int) (tx : ByteArray) (kk pl : Int) (ks : List Nd) (hk : kk = (ks.length : Int)) (h : codeKids 87 ⟨87, nm, tx, kk, pl⟩ ks = true) : ((cnt ks : Nat) : Int) = ekids ⟨87, nm, tx, kk, pl⟩ := by
  obtain ⟨a, b, rfl, h1, h2⟩ := cnt_two (show fitAll [pCode, pCode] ks = true from h)
  have e : ekids ⟨87, nm, tx, kk, pl⟩ = kk := by simp [ekids]
  rw [e, hk]
  simp [cnt, noTy_c h1, noTy_c h2]

theorem cnt_88 (nm : Int) (tx : ByteArray) (kk pl : Int) (ks : List Nd) (hk : kk = (ks.length : Int)) (h : codeKids 88 ⟨88, nm, tx, kk, pl⟩ ks = true) : ((cnt ks : Nat) : Int) = ekids ⟨88, nm, tx, kk, pl⟩ := by
  obtain ⟨a, b, rfl, h1, h2⟩ := cnt_two (show fitAll [pCode, pCode] ks = true from h)
  have e : ekids ⟨88, nm, tx, kk, pl⟩ = kk := by simp [ekids]
  rw [e, hk]
  simp [cnt, noTy_c h1, noTy_c h2]

theorem cnt_89 (nm : Int) (tx : ByteArray) (kk pl : Int) (ks : List Nd) (hk : kk = (ks.length : Int)) (h : codeKids 89 ⟨89, nm, tx, kk, pl⟩ ks = true) : ((cnt ks : Nat) : Int) = ekids ⟨89, nm, tx, kk, pl⟩ := by
  obtain ⟨a, rfl, h1⟩ := cnt_one (show fitAll [pCode] ks = true from h)
  have e : ekids ⟨89, nm, tx, kk, pl⟩ = kk := by simp [ekids]
  rw [e, hk]
  simp [cnt, noTy_c h1]

theorem cnt_90 (nm : Int) (tx : ByteArray) (kk pl : Int) (ks : List Nd) (_hk : kk = (ks.length : Int)) (h : codeKids 90 ⟨90, nm, tx, kk, pl⟩ ks = true) : ((cnt ks : Nat) : Int) = ekids ⟨90, nm, tx, kk, pl⟩ := by
  obtain ⟨a, rfl, h1⟩ := cnt_one (show fitAll [pType] ks = true from h)
  simp [cnt, noTy_t h1, ekids]

theorem cnt_91 (nm : Int) (tx : ByteArray) (kk pl : Int) (ks : List Nd) (_hk : kk = (ks.length : Int)) (h : codeKids 91 ⟨91, nm, tx, kk, pl⟩ ks = true) : ((cnt ks : Nat) : Int) = ekids ⟨91, nm, tx, kk, pl⟩ := by
  obtain ⟨a, b, rfl, h1, h2⟩ := cnt_two (show fitAll [pType, pPat] ks = true from h)
  simp [cnt, noTy_t h1, noTy_q h2, ekids]

theorem cnt_eq (x : Nd) (ks : List Nd) (ht : typI x.kind = false) (hl : letK x.kind ≠ 45) (hk : x.kids = (ks.length : Int)) (h : codeKids x.kind.toNat x ks = true) : ((cnt ks : Nat) : Int) = ekids x := by
  obtain ⟨k, nm, tx, kk, pl⟩ := x
  have h1 := kind_list hl
  simp only at h1 ht hk h ⊢
  have h3 : k = 15 ∨ k = 17 ∨ k = 18 ∨ k = 19 ∨ k = 20 ∨ k = 70 ∨ k = 71 ∨ k = 72 ∨ k = 73 ∨ k = 74 ∨ k = 75 ∨ k = 76 ∨ k = 77 ∨ k = 80 ∨ k = 81 ∨ k = 82 ∨ k = 83 ∨ k = 84 ∨ k = 85 ∨ k = 86 ∨ k = 87 ∨ k = 88 ∨ k = 89 ∨ k = 90 ∨ k = 91 := by
    unfold typI at ht
    simp at ht
    omega
  clear h1 ht hl
  rcases h3 with rfl | rfl | rfl | rfl | rfl | rfl | rfl | rfl | rfl | rfl | rfl | rfl | rfl | rfl | rfl | rfl | rfl | rfl | rfl | rfl | rfl | rfl | rfl | rfl | rfl
  · exact cnt_15 nm tx kk pl ks hk h
  · exact cnt_17 nm tx kk pl ks hk h
  · exact cnt_18 nm tx kk pl ks hk h
  · exact cnt_19 nm tx kk pl ks hk h
  · exact cnt_20 nm tx kk pl ks hk h
  · exact cnt_70 nm tx kk pl ks hk h
  · exact cnt_71 nm tx kk pl ks hk h
  · exact cnt_72 nm tx kk pl ks hk h
  · exact cnt_73 nm tx kk pl ks hk h
  · exact cnt_74 nm tx kk pl ks hk h
  · exact cnt_75 nm tx kk pl ks hk h
  · exact cnt_76 nm tx kk pl ks hk h
  · exact cnt_77 nm tx kk pl ks hk h
  · exact cnt_80 nm tx kk pl ks hk h
  · exact cnt_81 nm tx kk pl ks hk h
  · exact cnt_82 nm tx kk pl ks hk h
  · exact cnt_83 nm tx kk pl ks hk h
  · exact cnt_84 nm tx kk pl ks hk h
  · exact cnt_85 nm tx kk pl ks hk h
  · exact cnt_86 nm tx kk pl ks hk h
  · exact cnt_87 nm tx kk pl ks hk h
  · exact cnt_88 nm tx kk pl ks hk h
  · exact cnt_89 nm tx kk pl ks hk h
  · exact cnt_90 nm tx kk pl ks hk h
  · exact cnt_91 nm tx kk pl ks hk h

/-- In code that is in form: what is counted is what is written. -/
theorem form_cnt {t : List Nd} (h : FormS t) (k : Nat) (hk : k < t.length) (ht : typI (ndAt t k).kind = false) : ((cnt (kidsN t k) : Nat) : Int) = ekids (ndAt t k) := by
  obtain ⟨h1, h2, h3, h4⟩ := h
  obtain ⟨h0, S, ys, hA⟩ := raw_after h2
  obtain ⟨Si, hSi, hkt, hK⟩ := kids_atS hA k hk
  have hn : (ndAt t k).kids = ((kidsN t k).length : Int) := by
    rw [ndAt_get hk, kidsN_eq hSi hkt, List.length_map]
    exact hK.num.choose_spec
  have h5 := h4 k hk
  unfold okS at h5
  simp only [Bool.and_eq_true] at h5
  obtain ⟨-, h6, -, h7⟩ := h5
  have hl : letK (ndAt t k).kind ≠ 45 := by simpa using h6
  have h8 := kids_eq (ndAt t k) (kidsN t k) hl hn
  exact cnt_eq _ _ ht hl hn (by rw [← h8, Bool.and_eq_true]; exact h7)

end Go.Proofs.Ytocidoamfofefaa
