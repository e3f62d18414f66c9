import Derived.Test.YtekogjmmfhbinaaFit
import Derived.Lib.Strings
namespace Go.Proofs.Ytekogjmmfhbinaa

open Go.RowKit

theorem tx_empty (tx : ByteArray) : tx.toList.isEmpty = (tx.size == 0) := by
  rw [Lib.toList_data]
  cases h : tx.data.toList with
  | nil =>
    have h9 : tx.data = #[] := by simpa using h
    simp [ByteArray.size, h9]
  | cons a l =>
    have h9 : tx.data.size = l.length + 1 := by rw [← Array.length_toList, h]; rfl
    simp [ByteArray.size, h9]

def pText (x : Nd) : Bool := x.num == 0
def pBare (x : Nd) : Bool := x.num == 0 && x.text.size == 0
def pNumb (x : Nd) : Bool := decide (x.num > 0) && x.text.size == 0
def pNum (x : Nd) : Bool := x.text.size == 0
def pGiven (x : Nd) : Bool := decide (-8 ≤ x.num) && decide (x.num ≤ -1) && x.text.size == 0
def pFail (x : Nd) : Bool := x.num == 0 && (x.text.toList == [77, 97, 116, 99, 104] || x.text.toList == [66, 105, 110, 100])
def pBin (x : Nd) : Bool := x.num == 0 && opsL.any (fun o => x.text.toList == o)
def pUn (x : Nd) : Bool := x.num == 0 && (x.text.toList == [126] || x.text.toList == [33])
def pCode (x : Nd) : Bool := decide (70 ≤ x.kind) && decide (x.kind ≤ 89) && x.kind != 82 && x.kind != 84
def pType (x : Nd) : Bool := x.kind == 12 || x.kind == 13 || x.kind == 14 || x.kind == 60
def pScheme (x : Nd) : Bool := x.kind == 62 || pType x
def pPat (x : Nd) : Bool := x.kind == 90 || x.kind == 91 || x.kind == 15 || x.kind == 17 || x.kind == 18 || x.kind == 19 || x.kind == 20
def pKind (k : Int) (x : Nd) : Bool := x.kind == k

theorem fitV_of {N : Nat} {p : Nd → Bool} (w : World) (hN : ∀ (args : Array Value) (w : World), (callFunc N args).run Try.prog w = .ok (.enter N args) w)
    (h : ∀ (x : Nd) (W : World), Calls Try.prog N #[.agg #[.int .i64 x.kind, .int .i64 x.num, .string x.text, .int .i64 x.kids, .int .i64 x.place]] W fun e w' => e = .returned (.bool (p x)) ∧ Below W.heap.size W w') :
    FitV w (.func (.func N) #[] #[]) p := ⟨N, #[], rfl, hN, fun x W _ => by simpa using h x W⟩

set_option maxHeartbeats 1000000 in
theorem isOfText_any (x : Nd) (W : World) :
    Calls Try.prog 63 #[.agg #[.int .i64 x.kind, .int .i64 x.num, .string x.text, .int .i64 x.kids, .int .i64 x.place]] W fun e w' => e = .returned (.bool (pText x)) ∧ Below W.heap.size W w' := by
  obtain ⟨kd, nm, tx, ks, pl⟩ := x
  unfold pText
  go_enter Try.func63, Try.ntmps63
  go_wp2
  go_ret
  exact ⟨rfl, (Below.refl _ _).alloc (Nat.le_refl _) _⟩

set_option maxHeartbeats 1000000 in
theorem isBareF_any (x : Nd) (W : World) :
    Calls Try.prog 65 #[.agg #[.int .i64 x.kind, .int .i64 x.num, .string x.text, .int .i64 x.kids, .int .i64 x.place]] W fun e w' => e = .returned (.bool (pBare x)) ∧ Below W.heap.size W w' := by
  obtain ⟨kd, nm, tx, ks, pl⟩ := x
  unfold pBare
  simp only
  have ht := tx_empty tx
  cases hn : (nm == 0)
  · go_enter Try.func65, Try.ntmps65
    go_wp2
    go_ret
    exact ⟨rfl, (Below.refl _ _).alloc (Nat.le_refl _) _⟩
  · go_enter Try.func65, Try.ntmps65
    go_wp2
    go_ret
    exact ⟨by rw [← ht]; rfl, (Below.refl _ _).alloc (Nat.le_refl _) _⟩

set_option maxHeartbeats 1000000 in
theorem isNumberF_any (x : Nd) (W : World) :
    Calls Try.prog 68 #[.agg #[.int .i64 x.kind, .int .i64 x.num, .string x.text, .int .i64 x.kids, .int .i64 x.place]] W fun e w' => e = .returned (.bool (pNum x)) ∧ Below W.heap.size W w' := by
  obtain ⟨kd, nm, tx, ks, pl⟩ := x
  unfold pNum
  simp only
  have ht := tx_empty tx
  go_enter Try.func68, Try.ntmps68
  go_wp2
  go_ret
  exact ⟨by rw [← ht]; rfl, (Below.refl _ _).alloc (Nat.le_refl _) _⟩

set_option maxHeartbeats 1000000 in
theorem isOfNumber_any (x : Nd) (W : World) :
    Calls Try.prog 67 #[.agg #[.int .i64 x.kind, .int .i64 x.num, .string x.text, .int .i64 x.kids, .int .i64 x.place]] W fun e w' => e = .returned (.bool (pNumb x)) ∧ Below W.heap.size W w' := by
  obtain ⟨kd, nm, tx, ks, pl⟩ := x
  unfold pNumb
  simp only
  have ht := tx_empty tx
  by_cases hn : nm > 0
  · have t : decide (nm > 0) = true := decide_eq_true hn
    go_enter Try.func67, Try.ntmps67
    go_wp2
    go_ret
    exact ⟨by rw [← ht, t]; rfl, (Below.refl _ _).alloc (Nat.le_refl _) _⟩
  · have t : decide (nm > 0) = false := decide_eq_false hn
    go_enter Try.func67, Try.ntmps67
    go_wp2
    go_ret
    exact ⟨by first | (rw [t]; rfl) | rfl, (Below.refl _ _).alloc (Nat.le_refl _) _⟩

set_option maxHeartbeats 1000000 in
theorem isGivenNumber_any (x : Nd) (W : World) :
    Calls Try.prog 70 #[.agg #[.int .i64 x.kind, .int .i64 x.num, .string x.text, .int .i64 x.kids, .int .i64 x.place]] W fun e w' => e = .returned (.bool (pGiven x)) ∧ Below W.heap.size W w' := by
  obtain ⟨kd, nm, tx, ks, pl⟩ := x
  unfold pGiven
  simp only
  have ht := tx_empty tx
  by_cases h1 : -8 ≤ nm
  · have t1 : decide (-8 ≤ nm) = true := decide_eq_true h1
    by_cases h2 : nm ≤ -1
    · have t2 : decide (nm ≤ -1) = true := decide_eq_true h2
      go_enter Try.func70, Try.ntmps70
      go_wp2
      go_ret
      exact ⟨by rw [← ht, t1, t2]; rfl, (Below.refl _ _).alloc (Nat.le_refl _) _⟩
    · have t2 : decide (nm ≤ -1) = false := decide_eq_false h2
      go_enter Try.func70, Try.ntmps70
      go_wp2
      go_ret
      exact ⟨by first | (rw [t1, t2]; rfl) | rfl, (Below.refl _ _).alloc (Nat.le_refl _) _⟩
  · have t1 : decide (-8 ≤ nm) = false := decide_eq_false h1
    go_enter Try.func70, Try.ntmps70
    go_wp2
    go_ret
    exact ⟨by first | (rw [t1]; rfl) | rfl, (Below.refl _ _).alloc (Nat.le_refl _) _⟩

set_option maxHeartbeats 1000000 in
theorem isFailure_any (x : Nd) (W : World) :
    Calls Try.prog 73 #[.agg #[.int .i64 x.kind, .int .i64 x.num, .string x.text, .int .i64 x.kids, .int .i64 x.place]] W fun e w' => e = .returned (.bool (pFail x)) ∧ Below W.heap.size W w' := by
  obtain ⟨kd, nm, tx, ks, pl⟩ := x
  unfold pFail
  simp only
  cases hn : (nm == 0)
  · go_enter Try.func73, Try.ntmps73
    go_wp2
    go_ret
    exact ⟨rfl, (Below.refl _ _).alloc (Nat.le_refl _) _⟩
  · cases h1 : (tx.toList == [77, 97, 116, 99, 104])
    · go_enter Try.func73, Try.ntmps73
      go_wp2
      go_ret
      exact ⟨rfl, (Below.refl _ _).alloc (Nat.le_refl _) _⟩
    · go_enter Try.func73, Try.ntmps73
      go_wp2
      go_ret
      exact ⟨rfl, (Below.refl _ _).alloc (Nat.le_refl _) _⟩

set_option maxHeartbeats 1000000 in
theorem isUnary_any (x : Nd) (W : World) :
    Calls Try.prog 76 #[.agg #[.int .i64 x.kind, .int .i64 x.num, .string x.text, .int .i64 x.kids, .int .i64 x.place]] W fun e w' => e = .returned (.bool (pUn x)) ∧ Below W.heap.size W w' := by
  obtain ⟨kd, nm, tx, ks, pl⟩ := x
  unfold pUn
  simp only
  cases hn : (nm == 0)
  · go_enter Try.func76, Try.ntmps76
    go_wp2
    go_ret
    exact ⟨rfl, (Below.refl _ _).alloc (Nat.le_refl _) _⟩
  · cases h1 : (tx.toList == [126])
    · go_enter Try.func76, Try.ntmps76
      go_wp2
      go_ret
      exact ⟨rfl, (Below.refl _ _).alloc (Nat.le_refl _) _⟩
    · go_enter Try.func76, Try.ntmps76
      go_wp2
      go_ret
      exact ⟨rfl, (Below.refl _ _).alloc (Nat.le_refl _) _⟩

set_option maxHeartbeats 4000000 in
theorem isBinary_any (x : Nd) (W : World) :
    Calls Try.prog 75 #[.agg #[.int .i64 x.kind, .int .i64 x.num, .string x.text, .int .i64 x.kids, .int .i64 x.place]] W fun e w' => e = .returned (.bool (pBin x)) ∧ Below W.heap.size W w' := by
  obtain ⟨kd, nm, tx, ks, pl⟩ := x
  have HV : Hid (pBin ⟨kd, nm, tx, ks, pl⟩ = (nm == 0 && opsL.any (fun o => tx.toList == o))) := rfl
  simp only [opsL, List.any_cons, List.any_nil] at HV
  cases h0 : (tx.toList == [58, 61])
  rotate_left
  · rw [h0] at HV
    simp only [Bool.true_or, Bool.and_true] at HV
    go_enter Try.func75, Try.ntmps75
    go_wp2
    go_ret
    exact ⟨by rw [HV.out]; rfl, (Below.refl _ _).alloc (Nat.le_refl _) _⟩
  rw [h0] at HV
  cases h1 : (tx.toList == [61])
  rotate_left
  · rw [h1] at HV
    simp only [Bool.or_true, Bool.true_or, Bool.and_true] at HV
    go_enter Try.func75, Try.ntmps75
    go_wp2
    go_ret
    exact ⟨by rw [HV.out]; rfl, (Below.refl _ _).alloc (Nat.le_refl _) _⟩
  rw [h1] at HV
  cases h2 : (tx.toList == [60, 62])
  rotate_left
  · rw [h2] at HV
    simp only [Bool.or_true, Bool.true_or, Bool.and_true] at HV
    go_enter Try.func75, Try.ntmps75
    go_wp2
    go_ret
    exact ⟨by rw [HV.out]; rfl, (Below.refl _ _).alloc (Nat.le_refl _) _⟩
  rw [h2] at HV
  cases h3 : (tx.toList == [60])
  rotate_left
  · rw [h3] at HV
    simp only [Bool.or_true, Bool.true_or, Bool.and_true] at HV
    go_enter Try.func75, Try.ntmps75
    go_wp2
    go_ret
    exact ⟨by rw [HV.out]; rfl, (Below.refl _ _).alloc (Nat.le_refl _) _⟩
  rw [h3] at HV
  cases h4 : (tx.toList == [60, 61])
  rotate_left
  · rw [h4] at HV
    simp only [Bool.or_true, Bool.true_or, Bool.and_true] at HV
    go_enter Try.func75, Try.ntmps75
    go_wp2
    go_ret
    exact ⟨by rw [HV.out]; rfl, (Below.refl _ _).alloc (Nat.le_refl _) _⟩
  rw [h4] at HV
  cases h5 : (tx.toList == [62])
  rotate_left
  · rw [h5] at HV
    simp only [Bool.or_true, Bool.true_or, Bool.and_true] at HV
    go_enter Try.func75, Try.ntmps75
    go_wp2
    go_ret
    exact ⟨by rw [HV.out]; rfl, (Below.refl _ _).alloc (Nat.le_refl _) _⟩
  rw [h5] at HV
  cases h6 : (tx.toList == [62, 61])
  rotate_left
  · rw [h6] at HV
    simp only [Bool.or_true, Bool.true_or, Bool.and_true] at HV
    go_enter Try.func75, Try.ntmps75
    go_wp2
    go_ret
    exact ⟨by rw [HV.out]; rfl, (Below.refl _ _).alloc (Nat.le_refl _) _⟩
  rw [h6] at HV
  cases h7 : (tx.toList == [94])
  rotate_left
  · rw [h7] at HV
    simp only [Bool.or_true, Bool.true_or, Bool.and_true] at HV
    go_enter Try.func75, Try.ntmps75
    go_wp2
    go_ret
    exact ⟨by rw [HV.out]; rfl, (Below.refl _ _).alloc (Nat.le_refl _) _⟩
  rw [h7] at HV
  cases h8 : (tx.toList == [43])
  rotate_left
  · rw [h8] at HV
    simp only [Bool.or_true, Bool.true_or, Bool.and_true] at HV
    go_enter Try.func75, Try.ntmps75
    go_wp2
    go_ret
    exact ⟨by rw [HV.out]; rfl, (Below.refl _ _).alloc (Nat.le_refl _) _⟩
  rw [h8] at HV
  cases h9 : (tx.toList == [45])
  rotate_left
  · rw [h9] at HV
    simp only [Bool.or_true, Bool.true_or, Bool.and_true] at HV
    go_enter Try.func75, Try.ntmps75
    go_wp2
    go_ret
    exact ⟨by rw [HV.out]; rfl, (Below.refl _ _).alloc (Nat.le_refl _) _⟩
  rw [h9] at HV
  cases h10 : (tx.toList == [42])
  rotate_left
  · rw [h10] at HV
    simp only [Bool.or_true, Bool.true_or, Bool.and_true] at HV
    go_enter Try.func75, Try.ntmps75
    go_wp2
    go_ret
    exact ⟨by rw [HV.out]; rfl, (Below.refl _ _).alloc (Nat.le_refl _) _⟩
  rw [h10] at HV
  cases h11 : (tx.toList == [47])
  rotate_left
  · rw [h11] at HV
    simp only [Bool.or_true, Bool.true_or, Bool.and_true] at HV
    go_enter Try.func75, Try.ntmps75
    go_wp2
    go_ret
    exact ⟨by rw [HV.out]; rfl, (Below.refl _ _).alloc (Nat.le_refl _) _⟩
  rw [h11] at HV
  cases h12 : (tx.toList == [37])
  rotate_left
  · rw [h12] at HV
    simp only [Bool.or_true, Bool.true_or, Bool.and_true] at HV
    go_enter Try.func75, Try.ntmps75
    go_wp2
    go_ret
    exact ⟨by rw [HV.out]; rfl, (Below.refl _ _).alloc (Nat.le_refl _) _⟩
  rw [h12] at HV
  simp only [Bool.or_false, Bool.and_false] at HV
  go_enter Try.func75, Try.ntmps75
  go_wp2
  go_ret
  exact ⟨by rw [HV.out]; rfl, (Below.refl _ _).alloc (Nat.le_refl _) _⟩

set_option maxHeartbeats 1000000 in
theorem isCode_any (x : Nd) (W : World) :
    Calls Try.prog 35 #[.agg #[.int .i64 x.kind, .int .i64 x.num, .string x.text, .int .i64 x.kids, .int .i64 x.place]] W fun e w' => e = .returned (.bool (pCode x)) ∧ Below W.heap.size W w' := by
  obtain ⟨kd, nm, tx, ks, pl⟩ := x
  unfold pCode
  simp only
  by_cases h1 : 70 ≤ kd
  · have t1 : decide (70 ≤ kd) = true := decide_eq_true h1
    by_cases h2 : kd ≤ 89
    · have t2 : decide (kd ≤ 89) = true := decide_eq_true h2
      cases h3 : (kd != 82)
      · go_enter Try.func35, Try.ntmps35
        go_wp2
        go_ret
        exact ⟨by simp, (Below.refl _ _).alloc (Nat.le_refl _) _⟩
      · go_enter Try.func35, Try.ntmps35
        go_wp2
        go_ret
        exact ⟨by simp [t1, t2], (Below.refl _ _).alloc (Nat.le_refl _) _⟩
    · have t2 : decide (kd ≤ 89) = false := decide_eq_false h2
      go_enter Try.func35, Try.ntmps35
      go_wp2
      go_ret
      exact ⟨by simp, (Below.refl _ _).alloc (Nat.le_refl _) _⟩
  · have t1 : decide (70 ≤ kd) = false := decide_eq_false h1
    go_enter Try.func35, Try.ntmps35
    go_wp2
    go_ret
    exact ⟨by simp, (Below.refl _ _).alloc (Nat.le_refl _) _⟩

set_option maxHeartbeats 1000000 in
theorem ofKind1_any (x : Nd) (k : Int) (b : Nat) (W : World) (hc : W.cell? ⟨b, 0, none⟩ = some (.int .i64 k)) :
    Calls Try.prog 84 #[.agg #[.int .i64 x.kind, .int .i64 x.num, .string x.text, .int .i64 x.kids, .int .i64 x.place], .pointer (some ⟨b, 0, none⟩)] W fun e w' => e = .returned (.bool (pKind k x)) ∧ Below W.heap.size W w' := by
  obtain ⟨kd, nm, tx, ks, pl⟩ := x
  unfold pKind
  have hl := lt_of_cell hc
  simp only at hl
  go_enter Try.func84, Try.ntmps84
  go_wp2
  go_ret
  exact ⟨rfl, (Below.refl _ _).alloc (Nat.le_refl _) _⟩

set_option maxHeartbeats 1000000 in
theorem isCodeType_any (x : Nd) (W : World) :
    Calls Try.prog 60 #[.agg #[.int .i64 x.kind, .int .i64 x.num, .string x.text, .int .i64 x.kids, .int .i64 x.place]] W fun e w' => e = .returned (.bool (pType x)) ∧ Below W.heap.size W w' := by
  obtain ⟨kd, nm, tx, ks, pl⟩ := x
  unfold pType
  simp only
  by_cases h : kd = 12 ∨ kd = 13 ∨ kd = 14 ∨ kd = 60
  · rcases h with rfl | rfl | rfl | rfl
    all_goals
      go_enter Try.func60, Try.ntmps60
      go_wp2
      go_ret
      exact ⟨rfl, (Below.refl _ _).alloc (Nat.le_refl _) _⟩
  · have u1 : (kd == 12) = false := by simp; omega
    have u2 : (kd == 13) = false := by simp; omega
    have u3 : (kd == 14) = false := by simp; omega
    have u4 : (kd == 60) = false := by simp; omega
    go_enter Try.func60, Try.ntmps60
    go_wp2
    go_ret
    exact ⟨by simp [u1, u2, u3, u4], (Below.refl _ _).alloc (Nat.le_refl _) _⟩

set_option maxHeartbeats 1000000 in
theorem isCodePat_any (x : Nd) (W : World) :
    Calls Try.prog 52 #[.agg #[.int .i64 x.kind, .int .i64 x.num, .string x.text, .int .i64 x.kids, .int .i64 x.place]] W fun e w' => e = .returned (.bool (pPat x)) ∧ Below W.heap.size W w' := by
  obtain ⟨kd, nm, tx, ks, pl⟩ := x
  unfold pPat
  simp only
  by_cases h : kd = 90 ∨ kd = 91 ∨ kd = 15 ∨ kd = 17 ∨ kd = 18 ∨ kd = 19 ∨ kd = 20
  · rcases h with rfl | rfl | rfl | rfl | rfl | rfl | rfl
    all_goals
      go_enter Try.func52, Try.ntmps52
      go_wp2
      go_ret
      exact ⟨rfl, (Below.refl _ _).alloc (Nat.le_refl _) _⟩
  · have u1 : (kd == 90) = false := by simp; omega
    have u2 : (kd == 91) = false := by simp; omega
    have u3 : (kd == 15) = false := by simp; omega
    have u4 : (kd == 17) = false := by simp; omega
    have u5 : (kd == 18) = false := by simp; omega
    have u6 : (kd == 19) = false := by simp; omega
    have u7 : (kd == 20) = false := by simp; omega
    go_enter Try.func52, Try.ntmps52
    go_wp2
    go_ret
    exact ⟨by simp [u1, u2, u3, u4, u5, u6, u7], (Below.refl _ _).alloc (Nat.le_refl _) _⟩

set_option maxHeartbeats 1000000 in
theorem isScheme_any (x : Nd) (W : World) :
    Calls Try.prog 61 #[.agg #[.int .i64 x.kind, .int .i64 x.num, .string x.text, .int .i64 x.kids, .int .i64 x.place]] W fun e w' => e = .returned (.bool (pScheme x)) ∧ Below W.heap.size W w' := by
  have HC := isCodeType_any x
  unfold pScheme
  obtain ⟨z, hz⟩ : ∃ z, pType x = z := ⟨_, rfl⟩
  rw [hz] at HC ⊢
  obtain ⟨kd, nm, tx, ks, pl⟩ := x
  simp only at HC ⊢
  have hb0 : Below W.heap.size W (W.alloc (Obj.cells #[.int .i64 kd, .int .i64 nm, .string tx, .int .i64 ks, .int .i64 pl] 39)) := (Below.refl _ _).alloc (Nat.le_refl _) _
  clear hz
  cases h : (kd == 62)
  · go_enter Try.func61, Try.ntmps61
    go_wp2_with fail
    refine (HC _).mono ?_
    rintro e w1 ⟨rfl, hb1⟩
    have hbb := Below.step hb0 hb1
    clear hb0 hb1 HC
    go_wp2
    go_ret
    exact ⟨rfl, hbb⟩
  · go_enter Try.func61, Try.ntmps61
    go_wp2
    go_ret
    exact ⟨rfl, hb0⟩

end Go.Proofs.Ytekogjmmfhbinaa
