import Derived.Test.YtedlofpgddjpgaaGreatWAJ
import Derived.Lib.Strings
import Derived.Deep.RegionWith
namespace Go.Proofs.YtedlofpgddjpgaaGreat
open Go.RowKit
theorem tx_empty (tx : ByteArray) : tx.toList.isEmpty = (tx.size == 0) := by
  rw [Lib.toList_data]
  cases h : tx.data.toList with
  | nil =>
    have h9 : tx.data = #[] := by simpa using h
    simp [ByteArray.size, h9]
  | cons a l =>
    have h9 : tx.data.size = l.length + 1 := by rw [← Array.length_toList, h]; rfl
    simp [ByteArray.size, h9]
def pText (x : Nd) : Bool := x.num == 0
def pBare (x : Nd) : Bool := x.num == 0 && x.text.size == 0
def pNumb (x : Nd) : Bool := decide (x.num > 0) && x.text.size == 0
def pNum (x : Nd) : Bool := x.text.size == 0
def pGiven (x : Nd) : Bool := decide (-8 ≤ x.num) && decide (x.num ≤ -1) && x.text.size == 0
def pFail (x : Nd) : Bool := x.num == 0 && (x.text.toList == [77, 97, 116, 99, 104] || x.text.toList == [66, 105, 110, 100])
def pBin (x : Nd) : Bool := x.num == 0 && opsL.any (fun o => x.text.toList == o)
def pUn (x : Nd) : Bool := x.num == 0 && (x.text.toList == [126] || x.text.toList == [33])
def pCode (x : Nd) : Bool := decide (70 ≤ x.kind) && decide (x.kind ≤ 89) && x.kind != 82 && x.kind != 84
def pType (x : Nd) : Bool := x.kind == 12 || x.kind == 13 || x.kind == 14 || x.kind == 60
def pScheme (x : Nd) : Bool := x.kind == 62 || pType x
def pPat (x : Nd) : Bool := x.kind == 90 || x.kind == 91 || x.kind == 15 || x.kind == 17 || x.kind == 18 || x.kind == 19 || x.kind == 20
def pKind (k : Int) (x : Nd) : Bool := x.kind == k
theorem fitV_of {N : Nat} {p : Nd → Bool} (w : World) (hN : ∀ (args : Array Value) (w : World), (callFunc N args).run Tryz.prog w = .ok (.enter N args) w)
    (h : ∀ (x : Nd) (W : World), Calls Tryz.prog N #[.agg #[.int .i64 x.kind, .int .i64 x.num, .string x.text, .int .i64 x.kids, .int .i64 x.place]] W fun e w' => e = .returned (.bool (p x)) ∧ Below W.heap.size W w') :
    FitV w (.func (.func N) #[] #[]) p := ⟨N, #[], rfl, hN, fun x W _ => by simpa using h x W⟩
set_option maxHeartbeats 1000000 in
theorem isOfText_any (x : Nd) (W : World) :
    Calls Tryz.prog 75 #[.agg #[.int .i64 x.kind, .int .i64 x.num, .string x.text, .int .i64 x.kids, .int .i64 x.place]] W fun e w' => e = .returned (.bool (pText x)) ∧ Below W.heap.size W w' := by
  obtain ⟨kd, nm, tx, ks, pl⟩ := x
  unfold pText
  go_enter Tryz.func75, Tryz.ntmps75
  go_wp2
  go_ret
  exact ⟨rfl, (Below.refl _ _).alloc (Nat.le_refl _) _⟩
set_option maxHeartbeats 1000000 in
theorem isBareF_any (x : Nd) (W : World) :
    Calls Tryz.prog 77 #[.agg #[.int .i64 x.kind, .int .i64 x.num, .string x.text, .int .i64 x.kids, .int .i64 x.place]] W fun e w' => e = .returned (.bool (pBare x)) ∧ Below W.heap.size W w' := by
  obtain ⟨kd, nm, tx, ks, pl⟩ := x
  unfold pBare
  simp only
  have ht := tx_empty tx
  cases hn : (nm == 0)
  · go_enter Tryz.func77, Tryz.ntmps77
    go_wp2
    go_ret
    exact ⟨rfl, (Below.refl _ _).alloc (Nat.le_refl _) _⟩
  · go_enter Tryz.func77, Tryz.ntmps77
    go_wp2
    go_ret
    exact ⟨by rw [← ht]; rfl, (Below.refl _ _).alloc (Nat.le_refl _) _⟩
set_option maxHeartbeats 1000000 in
theorem isNumberF_any (x : Nd) (W : World) :
    Calls Tryz.prog 80 #[.agg #[.int .i64 x.kind, .int .i64 x.num, .string x.text, .int .i64 x.kids, .int .i64 x.place]] W fun e w' => e = .returned (.bool (pNum x)) ∧ Below W.heap.size W w' := by
  obtain ⟨kd, nm, tx, ks, pl⟩ := x
  unfold pNum
  simp only
  have ht := tx_empty tx
  go_enter Tryz.func80, Tryz.ntmps80
  go_wp2
  go_ret
  exact ⟨by rw [← ht]; rfl, (Below.refl _ _).alloc (Nat.le_refl _) _⟩
set_option maxHeartbeats 1000000 in
theorem isOfNumber_any (x : Nd) (W : World) :
    Calls Tryz.prog 79 #[.agg #[.int .i64 x.kind, .int .i64 x.num, .string x.text, .int .i64 x.kids, .int .i64 x.place]] W fun e w' => e = .returned (.bool (pNumb x)) ∧ Below W.heap.size W w' := by
  obtain ⟨kd, nm, tx, ks, pl⟩ := x
  unfold pNumb
  simp only
  have ht := tx_empty tx
  by_cases hn : nm > 0
  · have t : decide (nm > 0) = true := decide_eq_true hn
    go_enter Tryz.func79, Tryz.ntmps79
    go_wp2
    go_ret
    exact ⟨by rw [← ht, t]; rfl, (Below.refl _ _).alloc (Nat.le_refl _) _⟩
  · have t : decide (nm > 0) = false := decide_eq_false hn
    go_enter Tryz.func79, Tryz.ntmps79
    go_wp2
    go_ret
    exact ⟨by first | (rw [t]; rfl) | rfl, (Below.refl _ _).alloc (Nat.le_refl _) _⟩
set_option maxHeartbeats 1000000 in
theorem isGivenNumber_any (x : Nd) (W : World) :
    Calls Tryz.prog 82 #[.agg #[.int .i64 x.kind, .int .i64 x.num, .string x.text, .int .i64 x.kids, .int .i64 x.place]] W fun e w' => e = .returned (.bool (pGiven x)) ∧ Below W.heap.size W w' := by
  obtain ⟨kd, nm, tx, ks, pl⟩ := x
  unfold pGiven
  simp only
  have ht := tx_empty tx
  by_cases h1 : -8 ≤ nm
  · have t1 : decide (-8 ≤ nm) = true := decide_eq_true h1
    by_cases h2 : nm ≤ -1
    · have t2 : decide (nm ≤ -1) = true := decide_eq_true h2
      go_enter Tryz.func82, Tryz.ntmps82
      go_wp2
      go_ret
      exact ⟨by rw [← ht, t1, t2]; rfl, (Below.refl _ _).alloc (Nat.le_refl _) _⟩
    · have t2 : decide (nm ≤ -1) = false := decide_eq_false h2
      go_enter Tryz.func82, Tryz.ntmps82
      go_wp2
      go_ret
      exact ⟨by first | (rw [t1, t2]; rfl) | rfl, (Below.refl _ _).alloc (Nat.le_refl _) _⟩
  · have t1 : decide (-8 ≤ nm) = false := decide_eq_false h1
    go_enter Tryz.func82, Tryz.ntmps82
    go_wp2
    go_ret
    exact ⟨by first | (rw [t1]; rfl) | rfl, (Below.refl _ _).alloc (Nat.le_refl _) _⟩
set_option maxHeartbeats 1000000 in
theorem isFailure_any (x : Nd) (W : World) :
    Calls Tryz.prog 85 #[.agg #[.int .i64 x.kind, .int .i64 x.num, .string x.text, .int .i64 x.kids, .int .i64 x.place]] W fun e w' => e = .returned (.bool (pFail x)) ∧ Below W.heap.size W w' := by
  obtain ⟨kd, nm, tx, ks, pl⟩ := x
  unfold pFail
  simp only
  cases hn : (nm == 0)
  · go_enter Tryz.func85, Tryz.ntmps85
    go_wp2
    go_ret
    exact ⟨rfl, (Below.refl _ _).alloc (Nat.le_refl _) _⟩
  · cases h1 : (tx.toList == [77, 97, 116, 99, 104])
    · go_enter Tryz.func85, Tryz.ntmps85
      go_wp2
      go_ret
      exact ⟨rfl, (Below.refl _ _).alloc (Nat.le_refl _) _⟩
    · go_enter Tryz.func85, Tryz.ntmps85
      go_wp2
      go_ret
      exact ⟨rfl, (Below.refl _ _).alloc (Nat.le_refl _) _⟩
set_option maxHeartbeats 1000000 in
theorem isUnary_any (x : Nd) (W : World) :
    Calls Tryz.prog 88 #[.agg #[.int .i64 x.kind, .int .i64 x.num, .string x.text, .int .i64 x.kids, .int .i64 x.place]] W fun e w' => e = .returned (.bool (pUn x)) ∧ Below W.heap.size W w' := by
  obtain ⟨kd, nm, tx, ks, pl⟩ := x
  unfold pUn
  simp only
  cases hn : (nm == 0)
  · go_enter Tryz.func88, Tryz.ntmps88
    go_wp2
    go_ret
    exact ⟨rfl, (Below.refl _ _).alloc (Nat.le_refl _) _⟩
  · cases h1 : (tx.toList == [126])
    · go_enter Tryz.func88, Tryz.ntmps88
      go_wp2
      go_ret
      exact ⟨rfl, (Below.refl _ _).alloc (Nat.le_refl _) _⟩
    · go_enter Tryz.func88, Tryz.ntmps88
      go_wp2
      go_ret
      exact ⟨rfl, (Below.refl _ _).alloc (Nat.le_refl _) _⟩
set_option maxHeartbeats 4000000 in
theorem isBinary_any (x : Nd) (W : World) :
    Calls Tryz.prog 87 #[.agg #[.int .i64 x.kind, .int .i64 x.num, .string x.text, .int .i64 x.kids, .int .i64 x.place]] W fun e w' => e = .returned (.bool (pBin x)) ∧ Below W.heap.size W w' := by
  obtain ⟨kd, nm, tx, ks, pl⟩ := x
  have HV : Hid (pBin ⟨kd, nm, tx, ks, pl⟩ = (nm == 0 && opsL.any (fun o => tx.toList == o))) := rfl
  simp only [opsL, List.any_cons, List.any_nil] at HV
  cases h0 : (tx.toList == [58, 61])
  rotate_left
  · rw [h0] at HV
    simp only [Bool.true_or, Bool.and_true] at HV
    go_enter Tryz.func87, Tryz.ntmps87
    go_wp2
    go_ret
    exact ⟨by rw [HV.out]; rfl, (Below.refl _ _).alloc (Nat.le_refl _) _⟩
  rw [h0] at HV
  cases h1 : (tx.toList == [61])
  rotate_left
  · rw [h1] at HV
    simp only [Bool.or_true, Bool.true_or, Bool.and_true] at HV
    go_enter Tryz.func87, Tryz.ntmps87
    go_wp2
    go_ret
    exact ⟨by rw [HV.out]; rfl, (Below.refl _ _).alloc (Nat.le_refl _) _⟩
  rw [h1] at HV
  cases h2 : (tx.toList == [60, 62])
  rotate_left
  · rw [h2] at HV
    simp only [Bool.or_true, Bool.true_or, Bool.and_true] at HV
    go_enter Tryz.func87, Tryz.ntmps87
    go_wp2
    go_ret
    exact ⟨by rw [HV.out]; rfl, (Below.refl _ _).alloc (Nat.le_refl _) _⟩
  rw [h2] at HV
  cases h3 : (tx.toList == [60])
  rotate_left
  · rw [h3] at HV
    simp only [Bool.or_true, Bool.true_or, Bool.and_true] at HV
    go_enter Tryz.func87, Tryz.ntmps87
    go_wp2
    go_ret
    exact ⟨by rw [HV.out]; rfl, (Below.refl _ _).alloc (Nat.le_refl _) _⟩
  rw [h3] at HV
  cases h4 : (tx.toList == [60, 61])
  rotate_left
  · rw [h4] at HV
    simp only [Bool.or_true, Bool.true_or, Bool.and_true] at HV
    go_enter Tryz.func87, Tryz.ntmps87
    go_wp2
    go_ret
    exact ⟨by rw [HV.out]; rfl, (Below.refl _ _).alloc (Nat.le_refl _) _⟩
  rw [h4] at HV
  cases h5 : (tx.toList == [62])
  rotate_left
  · rw [h5] at HV
    simp only [Bool.or_true, Bool.true_or, Bool.and_true] at HV
    go_enter Tryz.func87, Tryz.ntmps87
    go_wp2
    go_ret
    exact ⟨by rw [HV.out]; rfl, (Below.refl _ _).alloc (Nat.le_refl _) _⟩
  rw [h5] at HV
  cases h6 : (tx.toList == [62, 61])
  rotate_left
  · rw [h6] at HV
    simp only [Bool.or_true, Bool.true_or, Bool.and_true] at HV
    go_enter Tryz.func87, Tryz.ntmps87
    go_wp2
    go_ret
    exact ⟨by rw [HV.out]; rfl, (Below.refl _ _).alloc (Nat.le_refl _) _⟩
  rw [h6] at HV
  cases h7 : (tx.toList == [94])
  rotate_left
  · rw [h7] at HV
    simp only [Bool.or_true, Bool.true_or, Bool.and_true] at HV
    go_enter Tryz.func87, Tryz.ntmps87
    go_wp2
    go_ret
    exact ⟨by rw [HV.out]; rfl, (Below.refl _ _).alloc (Nat.le_refl _) _⟩
  rw [h7] at HV
  cases h8 : (tx.toList == [43])
  rotate_left
  · rw [h8] at HV
    simp only [Bool.or_true, Bool.true_or, Bool.and_true] at HV
    go_enter Tryz.func87, Tryz.ntmps87
    go_wp2
    go_ret
    exact ⟨by rw [HV.out]; rfl, (Below.refl _ _).alloc (Nat.le_refl _) _⟩
  rw [h8] at HV
  cases h9 : (tx.toList == [45])
  rotate_left
  · rw [h9] at HV
    simp only [Bool.or_true, Bool.true_or, Bool.and_true] at HV
    go_enter Tryz.func87, Tryz.ntmps87
    go_wp2
    go_ret
    exact ⟨by rw [HV.out]; rfl, (Below.refl _ _).alloc (Nat.le_refl _) _⟩
  rw [h9] at HV
  cases h10 : (tx.toList == [42])
  rotate_left
  · rw [h10] at HV
    simp only [Bool.or_true, Bool.true_or, Bool.and_true] at HV
    go_enter Tryz.func87, Tryz.ntmps87
    go_wp2
    go_ret
    exact ⟨by rw [HV.out]; rfl, (Below.refl _ _).alloc (Nat.le_refl _) _⟩
  rw [h10] at HV
  cases h11 : (tx.toList == [47])
  rotate_left
  · rw [h11] at HV
    simp only [Bool.or_true, Bool.true_or, Bool.and_true] at HV
    go_enter Tryz.func87, Tryz.ntmps87
    go_wp2
    go_ret
    exact ⟨by rw [HV.out]; rfl, (Below.refl _ _).alloc (Nat.le_refl _) _⟩
  rw [h11] at HV
  cases h12 : (tx.toList == [37])
  rotate_left
  · rw [h12] at HV
    simp only [Bool.or_true, Bool.true_or, Bool.and_true] at HV
    go_enter Tryz.func87, Tryz.ntmps87
    go_wp2
    go_ret
    exact ⟨by rw [HV.out]; rfl, (Below.refl _ _).alloc (Nat.le_refl _) _⟩
  rw [h12] at HV
  simp only [Bool.or_false, Bool.and_false] at HV
  go_enter Tryz.func87, Tryz.ntmps87
  go_wp2
  go_ret
  exact ⟨by rw [HV.out]; rfl, (Below.refl _ _).alloc (Nat.le_refl _) _⟩
set_option maxHeartbeats 1000000 in
theorem isCode_any (x : Nd) (W : World) :
    Calls Tryz.prog 38 #[.agg #[.int .i64 x.kind, .int .i64 x.num, .string x.text, .int .i64 x.kids, .int .i64 x.place]] W fun e w' => e = .returned (.bool (pCode x)) ∧ Below W.heap.size W w' := by
  obtain ⟨kd, nm, tx, ks, pl⟩ := x
  unfold pCode
  simp only
  by_cases h1 : 70 ≤ kd
  · have t1 : decide (70 ≤ kd) = true := decide_eq_true h1
    by_cases h2 : kd ≤ 89
    · have t2 : decide (kd ≤ 89) = true := decide_eq_true h2
      cases h3 : (kd != 82)
      · go_enter Tryz.func38, Tryz.ntmps38
        go_wp2
        go_ret
        exact ⟨by simp, (Below.refl _ _).alloc (Nat.le_refl _) _⟩
      · go_enter Tryz.func38, Tryz.ntmps38
        go_wp2
        go_ret
        exact ⟨by simp [t1, t2], (Below.refl _ _).alloc (Nat.le_refl _) _⟩
    · have t2 : decide (kd ≤ 89) = false := decide_eq_false h2
      go_enter Tryz.func38, Tryz.ntmps38
      go_wp2
      go_ret
      exact ⟨by simp, (Below.refl _ _).alloc (Nat.le_refl _) _⟩
  · have t1 : decide (70 ≤ kd) = false := decide_eq_false h1
    go_enter Tryz.func38, Tryz.ntmps38
    go_wp2
    go_ret
    exact ⟨by simp, (Below.refl _ _).alloc (Nat.le_refl _) _⟩
set_option maxHeartbeats 1000000 in
theorem ofKind1_any (x : Nd) (k : Int) (b : Nat) (W : World) (hc : W.cell? ⟨b, 0, none⟩ = some (.int .i64 k)) :
    Calls Tryz.prog 102 #[.agg #[.int .i64 x.kind, .int .i64 x.num, .string x.text, .int .i64 x.kids, .int .i64 x.place], .pointer (some ⟨b, 0, none⟩)] W fun e w' => e = .returned (.bool (pKind k x)) ∧ Below W.heap.size W w' := by
  obtain ⟨kd, nm, tx, ks, pl⟩ := x
  unfold pKind
  have hl := lt_of_cell hc
  simp only at hl
  go_enter Tryz.func102, Tryz.ntmps102
  go_wp2
  go_ret
  exact ⟨rfl, (Below.refl _ _).alloc (Nat.le_refl _) _⟩
set_option maxHeartbeats 1000000 in
theorem isCodeType_any (x : Nd) (W : World) :
    Calls Tryz.prog 72 #[.agg #[.int .i64 x.kind, .int .i64 x.num, .string x.text, .int .i64 x.kids, .int .i64 x.place]] W fun e w' => e = .returned (.bool (pType x)) ∧ Below W.heap.size W w' := by
  obtain ⟨kd, nm, tx, ks, pl⟩ := x
  unfold pType
  simp only
  by_cases h : kd = 12 ∨ kd = 13 ∨ kd = 14 ∨ kd = 60
  · rcases h with rfl | rfl | rfl | rfl
    all_goals
      go_enter Tryz.func72, Tryz.ntmps72
      go_wp2
      go_ret
      exact ⟨rfl, (Below.refl _ _).alloc (Nat.le_refl _) _⟩
  · have u1 : (kd == 12) = false := by simp; omega
    have u2 : (kd == 13) = false := by simp; omega
    have u3 : (kd == 14) = false := by simp; omega
    have u4 : (kd == 60) = false := by simp; omega
    go_enter Tryz.func72, Tryz.ntmps72
    go_wp2
    go_ret
    exact ⟨by simp [u1, u2, u3, u4], (Below.refl _ _).alloc (Nat.le_refl _) _⟩
set_option maxHeartbeats 1000000 in
theorem isCodePat_any (x : Nd) (W : World) :
    Calls Tryz.prog 61 #[.agg #[.int .i64 x.kind, .int .i64 x.num, .string x.text, .int .i64 x.kids, .int .i64 x.place]] W fun e w' => e = .returned (.bool (pPat x)) ∧ Below W.heap.size W w' := by
  obtain ⟨kd, nm, tx, ks, pl⟩ := x
  unfold pPat
  simp only
  by_cases h : kd = 90 ∨ kd = 91 ∨ kd = 15 ∨ kd = 17 ∨ kd = 18 ∨ kd = 19 ∨ kd = 20
  · rcases h with rfl | rfl | rfl | rfl | rfl | rfl | rfl
    all_goals
      go_enter Tryz.func61, Tryz.ntmps61
      go_wp2
      go_ret
      exact ⟨rfl, (Below.refl _ _).alloc (Nat.le_refl _) _⟩
  · have u1 : (kd == 90) = false := by simp; omega
    have u2 : (kd == 91) = false := by simp; omega
    have u3 : (kd == 15) = false := by simp; omega
    have u4 : (kd == 17) = false := by simp; omega
    have u5 : (kd == 18) = false := by simp; omega
    have u6 : (kd == 19) = false := by simp; omega
    have u7 : (kd == 20) = false := by simp; omega
    go_enter Tryz.func61, Tryz.ntmps61
    go_wp2
    go_ret
    exact ⟨by simp [u1, u2, u3, u4, u5, u6, u7], (Below.refl _ _).alloc (Nat.le_refl _) _⟩
set_option maxHeartbeats 1000000 in
theorem isScheme_any (x : Nd) (W : World) :
    Calls Tryz.prog 73 #[.agg #[.int .i64 x.kind, .int .i64 x.num, .string x.text, .int .i64 x.kids, .int .i64 x.place]] W fun e w' => e = .returned (.bool (pScheme x)) ∧ Below W.heap.size W w' := by
  have HC := isCodeType_any x
  unfold pScheme
  obtain ⟨z, hz⟩ : ∃ z, pType x = z := ⟨_, rfl⟩
  rw [hz] at HC ⊢
  obtain ⟨kd, nm, tx, ks, pl⟩ := x
  simp only at HC ⊢
  have hb0 : Below W.heap.size W (W.alloc (Obj.cells #[.int .i64 kd, .int .i64 nm, .string tx, .int .i64 ks, .int .i64 pl] 34)) := (Below.refl _ _).alloc (Nat.le_refl _) _
  clear hz
  cases h : (kd == 62)
  · go_enter Tryz.func73, Tryz.ntmps73
    go_wp2_with fail
    refine (HC _).mono ?_
    rintro e w1 ⟨rfl, hb1⟩
    have hbb := Below.step hb0 hb1
    clear hb0 hb1 HC
    go_wp2
    go_ret
    exact ⟨rfl, hbb⟩
  · go_enter Tryz.func73, Tryz.ntmps73
    go_wp2
    go_ret
    exact ⟨rfl, hb0⟩
end Go.Proofs.YtedlofpgddjpgaaGreat

namespace Go.Proofs.YtedlofpgddjpgaaGreat
open Go.RowKit
def fitAll : List (Nd → Bool) → List Nd → Bool
  | [], [] => true
  | p :: ps, x :: xs => p x && fitAll ps xs
  | _, _ => false
theorem fitAll_ne : ∀ (ps : List (Nd → Bool)) (xs : List Nd), xs.length ≠ ps.length → fitAll ps xs = false
  | [], [], h => absurd rfl h
  | [], _ :: _, _ => rfl
  | _ :: _, [], _ => rfl
  | p :: ps, x :: xs, h => by
    have := fitAll_ne ps xs (by simpa using h)
    simp [fitAll, this]
theorem fitAll_no : ∀ (ps : List (Nd → Bool)) (xs : List Nd) (k : Nat) (h : k < ps.length) (h' : k < xs.length), ps[k] xs[k] = false → fitAll ps xs = false
  | [], _, _, h, _, _ => by simp at h
  | _ :: _, [], _, _, h', _ => by simp at h'
  | p :: ps, x :: xs, 0, _, _, e => by simp at e; simp [fitAll, e]
  | p :: ps, x :: xs, k + 1, h, h', e => by
    have := fitAll_no ps xs k (by simpa using h) (by simpa using h') (by simpa using e)
    simp [fitAll, this]
theorem fitAll_yes : ∀ (ps : List (Nd → Bool)) (xs : List Nd), xs.length = ps.length → (∀ k (h : k < ps.length) (h' : k < xs.length), ps[k] xs[k] = true) → fitAll ps xs = true
  | [], [], _, _ => rfl
  | [], _ :: _, h, _ => by simp at h
  | _ :: _, [], h, _ => by simp at h
  | p :: ps, x :: xs, h, e => by
    have h1 := e 0 (by simp) (by simp)
    have h2 := fitAll_yes ps xs (by simpa using h) (fun k hk hk' => e (k + 1) (by simpa using hk) (by simpa using hk'))
    simp at h1
    simp [fitAll, h1, h2]
def FitsAt (w : World) (ao : Option Addr) (ps : List (Nd → Bool)) : Prop :=
  ∀ i (h : i < ps.length), ∃ b o v, ao = some ⟨b, o, none⟩ ∧ w.cell? ⟨b, o + i, none⟩ = some v ∧ FitV w v ps[i]
theorem FitsAt.below {w w' : World} {ao : Option Addr} {ps : List (Nd → Bool)} (h : FitsAt w ao ps) (hb : Below w.heap.size w w') : FitsAt w' ao ps := by
  intro i hi
  obtain ⟨b, o, v, e, hc, hv⟩ := h i hi
  exact ⟨b, o, v, e, (hb.cell (p := ⟨b, o + i, none⟩) (lt_of_cell hc)).trans hc, hv.below hb⟩
set_option maxHeartbeats 1000000 in
theorem just11_any (x : Nd) (v : Value) (p : Nd → Bool) (w : World) (hv : FitV w v p) :
    Calls Tryz.prog 91 #[.agg #[.int .i64 x.kind, .int .i64 x.num, .string x.text, .int .i64 x.kids, .int .i64 x.place], v] w fun e w' =>
      e = .returned (.bool (p x)) ∧ Below w.heap.size w w' := by
  obtain ⟨N, lb, rfl, hN, HF⟩ := hv
  have HP := HF x
  obtain ⟨z, hz⟩ : ∃ z, p x = z := ⟨_, rfl⟩
  rw [hz] at HP ⊢
  clear HF hz
  obtain ⟨kd, nm, tx, ks, pl⟩ := x
  have hb0 : Below w.heap.size w (w.alloc (Obj.cells #[.int .i64 kd, .int .i64 nm, .string tx, .int .i64 ks, .int .i64 pl] 34)) := (Below.refl _ _).alloc (Nat.le_refl _) _
  simp only at HP
  go_enter Tryz.func91, Tryz.ntmps91
  go_wp2_with fail
  refine (HP _ hb0).mono ?_
  rintro e w1 ⟨rfl, hb1⟩
  have hb2 := Below.step hb0 hb1
  clear HP hb0 hb1
  go_wp2
  go_ret
  exact ⟨rfl, hb2⟩
set_option maxHeartbeats 2000000 in
theorem equalFit_any (xs : List Nd) (n : Nat) (HX : Hid (xs.length = n)) (ps : List (Nd → Bool)) (l : Nat) (HL : Hid (ps.length = l)) (ao ap : Option Addr) (cap cp : Nat) (w : World) (hx : Nodes w ao xs) (hp : FitsAt w ap ps) (hlx : n ≤ 60000) (hlp : l ≤ 60000) :
    Calls Tryz.prog 90 #[.slice ao n cap, .slice ap l cp, .func (.func 91) #[] #[]] w fun e w' =>
      e = .returned (.bool (fitAll ps xs)) ∧ Below w.heap.size w w' := by
  by_cases hnl : n = l
  · subst hnl
    go_enter Tryz.func90, Tryz.ntmps90
    go_wp2
    go_loopw [17] (fun i wr => ∃ (k : Nat), k ≤ n ∧ i = .int .i64 k ∧ (∀ j (h : j < ps.length) (h' : j < xs.length), j < k → ps[j] xs[j] = true) ∧ Below w.heap.size w wr) (fun i _ => n - (intOf i).toNat)
    case atStart => exact ⟨0, Nat.zero_le _, rfl, fun j _ _ h => absurd h (by omega), Below.refl _ _⟩
    case round =>
      obtain ⟨k, hk, rfl, hall, hb⟩ := hrel
      have HALL : Hid (∀ j (h : j < ps.length) (h' : j < xs.length), j < k → ps[j] xs[j] = true) := hall
      clear hall
      by_cases hlt : k < n
      · have hltx : k < xs.length := by have := HX.out; omega
        have hltp : k < ps.length := by have := HL.out; omega
        obtain ⟨x, hxk⟩ : ∃ x, xs[k] = x := ⟨_, rfl⟩
        obtain ⟨b, o, rfl, hcx⟩ := hx.below hb k hltx
        obtain ⟨b', o', v, rfl, hcv, hfv⟩ := hp.below hb k hltp
        rw [hxk] at hcx
        obtain ⟨c0, c1, c2, c3, c4⟩ := hcx
        have hlb : b < wr.heap.size := lt_of_cell c0
        have hlb' : b' < wr.heap.size := lt_of_cell hcv
        obtain ⟨z, hz⟩ : ∃ z, ps[k] x = z := ⟨_, rfl⟩
        have HZ : Hid (ps[k] xs[k] = z) := by show ps[k] xs[k] = z; rw [hxk]; exact hz
        obtain ⟨kd, nm, tx, ks, pl⟩ := x
        have hb0 : Below wr.heap.size wr (wr.alloc (Obj.cells #[.int .i64 kd, .int .i64 nm, .string tx, .int .i64 ks, .int .i64 pl] 34)) := (Below.refl _ _).alloc (Nat.le_refl _) _
        have HC := just11_any ⟨kd, nm, tx, ks, pl⟩ v ps[k] _ (hfv.below hb0)
        rw [hz] at HC
        obtain ⟨N, lb, rfl, -, -⟩ := hfv
        have hbA := Below.step hb hb0
        clear hx hxk hp hb hb0 hz
        go_wp2_with fail
        refine HC.mono ?_
        rintro e w1 ⟨rfl, hb1⟩
        have hbb := Below.step hbA hb1
        clear hbA hb1 HC c0 c1 c2 c3 c4 hcv
        cases z
        · have HV : Hid (fitAll ps xs = false) := fitAll_no ps xs k hltp hltx HZ.out
          go_wp2
          go_ret
          exact ⟨by rw [HV.out]; rfl, hbb⟩
        · go_wp2
          go_roundw
          case rel =>
            refine ⟨k + 1, by omega, by go_num, ?_, hbb⟩
            intro j h h' hj
            by_cases hjk : j = k
            · subst hjk; exact HZ.out
            · exact HALL.out j h h' (by omega)
          case measure => simp [intOf]; omega
      · have HV : Hid (fitAll ps xs = true) := fitAll_yes ps xs (by rw [HX.out, HL.out]) (fun j h h' => HALL.out j h h' (by have := HX.out; omega))
        clear hx hp
        go_wp2
        go_ret
        exact ⟨by rw [HV.out]; rfl, hb⟩
  · have HV : Hid (fitAll ps xs = false) := fitAll_ne ps xs (by rw [HX.out, HL.out]; exact hnl)
    have hnl' : ((n : Int) != (l : Int)) = true := by simp; omega
    clear hx hp
    go_enter Tryz.func90, Tryz.ntmps90
    go_wp2
    go_ret
    exact ⟨by rw [HV.out]; rfl, Below.refl _ _⟩
end Go.Proofs.YtedlofpgddjpgaaGreat

namespace Go.Proofs.YtedlofpgddjpgaaGreat
open Go.RowKit
theorem allFit_later (p : Nd → Bool) (v : Value) (ks : List Nd) (q : Nat) (HQ : Hid (ks.length = q)) (hq : q ≤ 60000) (ao : Option Addr) (W : World) (hx : Nodes W ao ks) (hv : FitV W v p) :
    Hid (∀ (W' : World) (cap : Nat), Below W.heap.size W W' → Calls Tryz.prog 104 #[.slice ao q cap, v] W' fun e w' => e = .returned (.bool (ks.all p)) ∧ Below W'.heap.size W' w') :=
  fun W' cap hb => allFit_any p v ks q HQ ao cap W' (hx.below hb) hq (hv.below hb)
theorem new_node (x : Nd) (W : World) : Below W.heap.size W (W.alloc (Obj.cells #[.int .i64 x.kind, .int .i64 x.num, .string x.text, .int .i64 x.kids, .int .i64 x.place] 34)) := (Below.refl _ _).alloc (Nat.le_refl _) _
set_option maxHeartbeats 1000000 in
theorem some1_any (x : Nd) (ks : List Nd) (q : Nat) (HQ : Hid (ks.length = q)) (hq : q ≤ 60000) (ao : Option Addr) (cap : Nat) (b1 b2 : Nat) (least : Int) (v : Value) (p : Nd → Bool) (W : World)
    (c1 : W.cell? ⟨b1, 0, none⟩ = some (.int .i64 least)) (c2 : W.cell? ⟨b2, 0, none⟩ = some v) (hx : Nodes W ao ks) (hv : FitV W v p) :
    Calls Tryz.prog 103 #[.agg #[.int .i64 x.kind, .int .i64 x.num, .string x.text, .int .i64 x.kids, .int .i64 x.place], .slice ao q cap, .pointer (some ⟨b1, 0, none⟩), .pointer (some ⟨b2, 0, none⟩)] W fun e w' =>
      e = .returned (.bool (decide (least ≤ (ks.length : Int)) && ks.all p)) ∧ Below W.heap.size W w' := by
  have hl2 := lt_of_cell c2
  have hl1 := lt_of_cell c1
  simp only at hl1 hl2
  have HC := allFit_later p v ks q HQ hq ao W hx hv
  obtain ⟨N, lb, rfl, -, -⟩ := hv
  rw [HQ.out]
  have hb0 := new_node x W
  by_cases h : least ≤ (q : Int)
  · have t : decide ((q : Int) ≥ least) = true := by exact decide_eq_true (by omega)
    have HB : Hid (decide (least ≤ (q : Int)) = true) := by show decide (least ≤ (q : Int)) = true; exact decide_eq_true (by omega)
    clear hx
    go_enter Tryz.func103, Tryz.ntmps103
    go_wp2_with fail
    refine (HC.out _ _ hb0).mono ?_
    rintro e w1 ⟨rfl, hb1⟩
    have hbb := Below.step hb0 hb1
    clear hb0 hb1
    go_wp2
    go_ret
    exact ⟨by rw [HB.out]; rfl, hbb⟩
  · have t : decide ((q : Int) ≥ least) = false := by exact decide_eq_false (by omega)
    have HB : Hid (decide (least ≤ (q : Int)) = false) := by show decide (least ≤ (q : Int)) = false; exact decide_eq_false (by omega)
    clear hx
    go_enter Tryz.func103, Tryz.ntmps103
    go_wp2
    go_ret
    exact ⟨by first | (rw [HB.out]; rfl) | rfl, hb0⟩
set_option maxHeartbeats 1000000 in
theorem notOne1_any (x : Nd) (ks : List Nd) (q : Nat) (HQ : Hid (ks.length = q)) (hq : q ≤ 60000) (ao : Option Addr) (cap : Nat) (b2 : Nat) (v : Value) (p : Nd → Bool) (W : World)
     (c2 : W.cell? ⟨b2, 0, none⟩ = some v) (hx : Nodes W ao ks) (hv : FitV W v p) :
    Calls Tryz.prog 105 #[.agg #[.int .i64 x.kind, .int .i64 x.num, .string x.text, .int .i64 x.kids, .int .i64 x.place], .slice ao q cap, .pointer (some ⟨b2, 0, none⟩)] W fun e w' =>
      e = .returned (.bool (((ks.length : Int) != 1) && ks.all p)) ∧ Below W.heap.size W w' := by
  have hl2 := lt_of_cell c2
  skip
  simp only at hl2
  have HC := allFit_later p v ks q HQ hq ao W hx hv
  obtain ⟨N, lb, rfl, -, -⟩ := hv
  rw [HQ.out]
  have hb0 := new_node x W
  by_cases h : q ≠ 1
  · have t : ((q : Int) != 1) = true := by simp; omega
    have HB : Hid (((q : Int) != 1) = true) := by show ((q : Int) != 1) = true; simp; omega
    clear hx
    go_enter Tryz.func105, Tryz.ntmps105
    go_wp2_with fail
    refine (HC.out _ _ hb0).mono ?_
    rintro e w1 ⟨rfl, hb1⟩
    have hbb := Below.step hb0 hb1
    clear hb0 hb1
    go_wp2
    go_ret
    exact ⟨by rw [HB.out]; rfl, hbb⟩
  · have t : ((q : Int) != 1) = false := by simp; omega
    have HB : Hid (((q : Int) != 1) = false) := by show ((q : Int) != 1) = false; simp; omega
    clear hx
    go_enter Tryz.func105, Tryz.ntmps105
    go_wp2
    go_ret
    exact ⟨by first | (rw [HB.out]; rfl) | rfl, hb0⟩
set_option maxHeartbeats 1000000 in
theorem atMostOne1_any (x : Nd) (ks : List Nd) (q : Nat) (HQ : Hid (ks.length = q)) (hq : q ≤ 60000) (ao : Option Addr) (cap : Nat) (b2 : Nat) (v : Value) (p : Nd → Bool) (W : World)
     (c2 : W.cell? ⟨b2, 0, none⟩ = some v) (hx : Nodes W ao ks) (hv : FitV W v p) :
    Calls Tryz.prog 106 #[.agg #[.int .i64 x.kind, .int .i64 x.num, .string x.text, .int .i64 x.kids, .int .i64 x.place], .slice ao q cap, .pointer (some ⟨b2, 0, none⟩)] W fun e w' =>
      e = .returned (.bool (decide ((ks.length : Int) ≤ 1) && ks.all p)) ∧ Below W.heap.size W w' := by
  have hl2 := lt_of_cell c2
  skip
  simp only at hl2
  have HC := allFit_later p v ks q HQ hq ao W hx hv
  obtain ⟨N, lb, rfl, -, -⟩ := hv
  rw [HQ.out]
  have hb0 := new_node x W
  by_cases h : q ≤ 1
  · have t : decide ((q : Int) ≤ 1) = true := by exact decide_eq_true (by omega)
    have HB : Hid (decide ((q : Int) ≤ 1) = true) := by show decide ((q : Int) ≤ 1) = true; exact decide_eq_true (by omega)
    clear hx
    go_enter Tryz.func106, Tryz.ntmps106
    go_wp2_with fail
    refine (HC.out _ _ hb0).mono ?_
    rintro e w1 ⟨rfl, hb1⟩
    have hbb := Below.step hb0 hb1
    clear hb0 hb1
    go_wp2
    go_ret
    exact ⟨by rw [HB.out]; rfl, hbb⟩
  · have t : decide ((q : Int) ≤ 1) = false := by exact decide_eq_false (by omega)
    have HB : Hid (decide ((q : Int) ≤ 1) = false) := by show decide ((q : Int) ≤ 1) = false; exact decide_eq_false (by omega)
    clear hx
    go_enter Tryz.func106, Tryz.ntmps106
    go_wp2
    go_ret
    exact ⟨by first | (rw [HB.out]; rfl) | rfl, hb0⟩
set_option maxHeartbeats 1000000 in
theorem just1_any (x : Nd) (ks : List Nd) (q : Nat) (HQ : Hid (ks.length = q)) (hq : q ≤ 60000) (ao : Option Addr) (cap : Nat) (b : Nat) (ap : Option Addr) (l cp : Nat) (ps : List (Nd → Bool)) (HL : Hid (ps.length = l)) (hl : l ≤ 60000) (W : World)
    (c1 : W.cell? ⟨b, 0, none⟩ = some (.slice ap l cp)) (hx : Nodes W ao ks) (hp : FitsAt W ap ps) :
    Calls Tryz.prog 89 #[.agg #[.int .i64 x.kind, .int .i64 x.num, .string x.text, .int .i64 x.kids, .int .i64 x.place], .slice ao q cap, .pointer (some ⟨b, 0, none⟩)] W fun e w' =>
      e = .returned (.bool (fitAll ps ks)) ∧ Below W.heap.size W w' := by
  have hl1 := lt_of_cell c1
  simp only at hl1
  have hb0 := new_node x W
  have HC := equalFit_any ks q HQ ps l HL ao ap cap cp _ (hx.below hb0) (hp.below hb0) hq hl
  clear hx hp
  go_enter Tryz.func89, Tryz.ntmps89
  go_wp2_with fail
  refine HC.mono ?_
  rintro e w1 ⟨rfl, hb1⟩
  have hbb := Below.step hb0 hb1
  clear hb0 hb1
  go_wp2
  go_ret
  exact ⟨rfl, hbb⟩
def firstB (p0 p : Nd → Bool) (ks : List Nd) : Bool := decide (2 ≤ ks.length) && p0 (ndAt ks 0) && (ks.drop 1).all p
def lastB (p pl : Nd → Bool) (ks : List Nd) : Bool := decide (2 ≤ ks.length) && (ks.take (ks.length - 1)).all p && pl (ndAt ks (ks.length - 1))
theorem Nodes.tail {w : World} {b o : Nat} {ks : List Nd} (h : Nodes w (some ⟨b, o, none⟩) ks) : Nodes w (some ⟨b, o + 5, none⟩) (ks.drop 1) := by
  intro i hi
  obtain ⟨b', o', e, hn⟩ := h (1 + i) (by simp at hi; omega)
  simp only [Option.some.injEq, Addr.mk.injEq, and_true] at e
  obtain ⟨rfl, rfl⟩ := e
  refine ⟨b, o + 5, rfl, ?_⟩
  rw [List.getElem_drop]
  have e : o + (1 + i) * 5 = o + 5 + i * 5 := by omega
  rw [e] at hn
  exact hn
theorem Nodes.front {w : World} {ao : Option Addr} {ks : List Nd} (h : Nodes w ao ks) (m : Nat) : Nodes w ao (ks.take m) := by
  intro i hi
  obtain ⟨b', o', e, hn⟩ := h i (by simp at hi; omega)
  refine ⟨b', o', e, ?_⟩
  rw [List.getElem_take]
  exact hn
theorem FitV.later {p : Nd → Bool} {w : World} {N : Nat} {lb : Array Value} (h : FitV w (.func (.func N) #[] lb) p) :
    (∀ (args : Array Value) (w : World), (callFunc N args).run Tryz.prog w = .ok (.enter N args) w) ∧
    Hid (∀ (x : Nd) (W : World), Below w.heap.size w W → Calls Tryz.prog N (#[.agg #[.int .i64 x.kind, .int .i64 x.num, .string x.text, .int .i64 x.kids, .int .i64 x.place]] ++ lb) W fun e w' => e = .returned (.bool (p x)) ∧ Below W.heap.size W w') := by
  obtain ⟨N', lb', e, hN, HF⟩ := h
  simp only [Value.func.injEq, Fn.func.injEq, true_and] at e
  obtain ⟨rfl, rfl⟩ := e
  exact ⟨hN, HF⟩
end Go.Proofs.YtedlofpgddjpgaaGreat
