import Derived.Test.YtedlofpgddjpgaaGreatWAJ
import Derived.Lib.Strings
namespace Go.Proofs.YtedlofpgddjpgaaGreat
open Go.RowKit
def FitV (w : World) (v : Value) (p : Nd → Bool) : Prop :=
  ∃ N lb, v = .func (.func N) #[] lb ∧ (∀ (args : Array Value) (w : World), (callFunc N args).run Tryz.prog w = .ok (.enter N args) w) ∧
    ∀ (x : Nd) (W : World), Below w.heap.size w W → Calls Tryz.prog N (#[.agg #[.int .i64 x.kind, .int .i64 x.num, .string x.text, .int .i64 x.kids, .int .i64 x.place]] ++ lb) W fun e w' =>
      e = .returned (.bool (p x)) ∧ Below W.heap.size W w'
theorem FitV.below {w w' : World} {v : Value} {p : Nd → Bool} (h : FitV w v p) (hb : Below w.heap.size w w') : FitV w' v p := by
  obtain ⟨N, lb, e, hN, hF⟩ := h
  exact ⟨N, lb, e, hN, fun x W hW => hF x W (Below.step hb hW)⟩
def KidsV (w : World) (v : Value) (p : Nd → List Nd → Bool) : Prop :=
  ∃ N lb, v = .func (.func N) #[] lb ∧ (∀ (args : Array Value) (w : World), (callFunc N args).run Tryz.prog w = .ok (.enter N args) w) ∧
    ∀ (x : Nd) (ks : List Nd) (q : Nat) (ao : Option Addr) (cap : Nat) (W : World), Below w.heap.size w W → Hid (ks.length = q) → q ≤ 60000 → q ≤ cap → Nodes W ao ks →
      Calls Tryz.prog N (#[.agg #[.int .i64 x.kind, .int .i64 x.num, .string x.text, .int .i64 x.kids, .int .i64 x.place], .slice ao q cap] ++ lb) W fun e w' =>
        e = .returned (.bool (p x ks)) ∧ Below W.heap.size W w'
theorem KidsV.below {w w' : World} {v : Value} {p : Nd → List Nd → Bool} (h : KidsV w v p) (hb : Below w.heap.size w w') : KidsV w' v p := by
  obtain ⟨N, lb, e, hN, hF⟩ := h
  exact ⟨N, lb, e, hN, fun x ks q ao cap W hW => hF x ks q ao cap W (Below.step hb hW)⟩
set_option maxHeartbeats 1000000 in
theorem allFit1_any (x : Nd) (b : Nat) (v : Value) (p : Nd → Bool) (w : World) (hc : w.cell? ⟨b, 0, none⟩ = some v) (hv : FitV w v p) :
    Calls Tryz.prog 121 #[.agg #[.int .i64 x.kind, .int .i64 x.num, .string x.text, .int .i64 x.kids, .int .i64 x.place], .pointer (some ⟨b, 0, none⟩)] w fun e w' =>
      e = .returned (.bool (!p x)) ∧ Below w.heap.size w w' := by
  have hlb : b < w.heap.size := lt_of_cell hc
  obtain ⟨N, lb, rfl, hN, HF⟩ := hv
  have HP := HF x
  obtain ⟨z, hz⟩ : ∃ z, p x = z := ⟨_, rfl⟩
  rw [hz] at HP ⊢
  clear HF hz
  obtain ⟨kd, nm, tx, ks, pl⟩ := x
  have hb0 : Below w.heap.size w (w.alloc (Obj.cells #[.int .i64 kd, .int .i64 nm, .string tx, .int .i64 ks, .int .i64 pl] 34)) := (Below.refl _ _).alloc (Nat.le_refl _) _
  simp only at HP
  go_enter Tryz.func121, Tryz.ntmps121
  go_wp2_with fail
  refine (HP _ hb0).mono ?_
  rintro e w1 ⟨rfl, hb1⟩
  have hb2 := Below.step hb0 hb1
  clear HP hb0 hb1
  go_wp2
  go_ret
  exact ⟨rfl, hb2⟩
theorem anyF_true {α : Type} {p : α → Bool} {xs : List α} (k : Nat) (h : k < xs.length) (hf : p xs[k] = true) : xs.any p = true :=
  List.any_eq_true.2 ⟨_, List.getElem_mem h, hf⟩
theorem takeF_any {α : Type} {p : α → Bool} {xs : List α} (k : Nat) (h : k < xs.length) (ht : p xs[k] = false) (ha : (xs.take k).any p = false) : (xs.take (k + 1)).any p = false := by
  rw [List.take_succ_eq_append_getElem h, List.any_append, ha]
  simp [ht]
set_option maxHeartbeats 2000000 in
theorem indexFunc_fit (p : Nd → Bool) (v : Value) (fb : Nat) (xs : List Nd) (n : Nat) (HX : Hid (xs.length = n)) (ao : Option Addr) (cap : Nat) (w : World) (hx : Nodes w ao xs) (hlx : n ≤ 60000) (hc : w.cell? ⟨fb, 0, none⟩ = some v) (hv : FitV w v p) :
    Calls Tryz.prog 126 #[.slice ao n cap, .func (.func 121) #[] #[.pointer (some ⟨fb, 0, none⟩)]] w fun e w' =>
      (∃ r : Int, e = .returned (.int .i64 r) ∧ decide (r ≥ 0) = xs.any (fun n => !p n)) ∧ Below w.heap.size w w' := by
  have hlb : fb < w.heap.size := lt_of_cell hc
  have HU : Hid (∀ (x : Nd) (W : World), Below w.heap.size w W → Calls Tryz.prog 121 #[.agg #[.int .i64 x.kind, .int .i64 x.num, .string x.text, .int .i64 x.kids, .int .i64 x.place], .pointer (some ⟨fb, 0, none⟩)] W fun e w' => e = .returned (.bool (!p x)) ∧ Below W.heap.size W w') := by
    intro x W hW
    exact allFit1_any x fb v p W ((hW.cell (p := ⟨fb, 0, none⟩) hlb).trans hc) (hv.below hW)
  clear hv hc
  go_enter Tryz.func126, Tryz.ntmps126
  go_wp2
  go_loopw [8] (fun i wr => ∃ (k : Nat), k ≤ n ∧ i = .int .i64 k ∧ (xs.take k).any (fun n => !p n) = false ∧ Below w.heap.size w wr) (fun i _ => n - (intOf i).toNat)
  case atStart => exact ⟨0, Nat.zero_le _, rfl, by simp, Below.refl _ _⟩
  case round =>
    obtain ⟨k, hk, rfl, hall, hb⟩ := hrel
    by_cases hlt : k < n
    · have hltx : k < xs.length := by have := HX.out; omega
      obtain ⟨x, hxk⟩ : ∃ x, xs[k] = x := ⟨_, rfl⟩
      obtain ⟨b, o, rfl, hcx⟩ := hx.below hb k hltx
      rw [hxk] at hcx
      obtain ⟨c0, c1, c2, c3, c4⟩ := hcx
      have hlb : b < wr.heap.size := lt_of_cell c0
      have HXK : Hid (xs[k] = x) := hxk
      clear hx hxk
      have HC := HU.out x wr hb
      cases hq : (!p x)
      · have HA : Hid ((xs.take (k + 1)).any (fun n => !p n) = false) := takeF_any k hltx (by rw [HXK.out]; exact hq) hall
        clear hall
        go_wp2_with fail
        refine HC.mono ?_
        rintro e w1 ⟨rfl, hb1⟩
        rw [hq]
        have hbb := Below.step hb hb1
        clear hb hb1 c0 c1 c2 c3 c4 HC
        go_wp2
        go_roundw
        case rel => exact ⟨k + 1, by omega, by go_num, HA.out, hbb⟩
        case measure => simp [intOf]; omega
      · have HA : Hid (xs.any (fun n => !p n) = true) := anyF_true k hltx (by rw [HXK.out]; exact hq)
        clear hall
        go_wp2_with fail
        refine HC.mono ?_
        rintro e w1 ⟨rfl, hb1⟩
        rw [hq]
        have hbb := Below.step hb hb1
        clear hb hb1 c0 c1 c2 c3 c4 HC
        go_wp2
        go_ret
        exact ⟨⟨(k : Int), rfl, by rw [HA.out]; simp⟩, hbb⟩
    · have HA : Hid (xs.any (fun n => !p n) = false) := by
        have h9 := hall
        rw [List.take_of_length_le (by have := HX.out; omega)] at h9
        exact h9
      clear hall hx
      go_wp2
      go_ret
      exact ⟨⟨-1, rfl, by rw [HA.out]; rfl⟩, hb⟩
theorem all_none (p : Nd → Bool) (xs : List Nd) : xs.all p = !xs.any (fun n => !p n) := by
  induction xs with
  | nil => rfl
  | cons x xs ih => simp only [List.all_cons, List.any_cons, Bool.not_or, ← ih, Bool.not_not]
set_option maxHeartbeats 1000000 in
theorem containsFunc_fit (p : Nd → Bool) (v : Value) (fb : Nat) (xs : List Nd) (n : Nat) (HX : Hid (xs.length = n)) (ao : Option Addr) (cap : Nat) (w : World) (hx : Nodes w ao xs) (hlx : n ≤ 60000) (hc : w.cell? ⟨fb, 0, none⟩ = some v) (hv : FitV w v p) :
    Calls Tryz.prog 120 #[.slice ao n cap, .func (.func 121) #[] #[.pointer (some ⟨fb, 0, none⟩)]] w fun e w' =>
      e = .returned (.bool (xs.any (fun n => !p n))) ∧ Below w.heap.size w w' := by
  have HI := indexFunc_fit p v fb xs n HX ao cap w hx hlx hc hv
  clear hx hc hv
  go_enter Tryz.func120, Tryz.ntmps120
  go_wp2_with fail
  refine HI.mono ?_
  rintro e w1 ⟨⟨r, rfl, hr⟩, hb⟩
  have HR : Hid (decide (r ≥ 0) = xs.any (fun n => !p n)) := hr
  clear hr HI
  go_wp2
  go_ret
  exact ⟨by rw [← HR.out]; rfl, hb⟩
set_option maxHeartbeats 1000000 in
theorem allFit_any (p : Nd → Bool) (v : Value) (xs : List Nd) (n : Nat) (HX : Hid (xs.length = n)) (ao : Option Addr) (cap : Nat) (w : World) (hx : Nodes w ao xs) (hlx : n ≤ 60000) (hv : FitV w v p) :
    Calls Tryz.prog 104 #[.slice ao n cap, v] w fun e w' => e = .returned (.bool (xs.all p)) ∧ Below w.heap.size w w' := by
  have hv2 := hv
  obtain ⟨N, lb, rfl, -, -⟩ := hv2
  have hb0 : Below w.heap.size w (w.alloc (.cells #[.func (.func N) #[] lb] 92)) := (Below.refl _ _).alloc (Nat.le_refl _) _
  have hcv : (w.alloc (.cells #[.func (.func N) #[] lb] 92)).cell? ⟨w.heap.size, 0, none⟩ = some (.func (.func N) #[] lb) := by rw [cell_of_row _ _ _ _ _ _ (heap_alloc_new _ _)]; rfl
  have HI := containsFunc_fit p _ w.heap.size xs n HX ao cap _ (hx.below hb0) hlx hcv (hv.below hb0)
  have HV : Hid (xs.all p = !xs.any (fun n => !p n)) := all_none p xs
  clear hcv hx hv
  go_enter Tryz.func104, Tryz.ntmps104
  go_wp2_with fail
  refine HI.mono ?_
  rintro e w1 ⟨rfl, hb⟩
  have hbb := Below.step hb0 hb
  clear hb hb0 HI
  go_wp2
  go_ret
  exact ⟨by rw [HV.out]; rfl, hbb⟩
end Go.Proofs.YtedlofpgddjpgaaGreat

namespace Go.Proofs.YtedlofpgddjpgaaGreat
open Go.RowKit
theorem tx_empty (tx : ByteArray) : tx.toList.isEmpty = (tx.size == 0) := by
  rw [Lib.toList_data]
  cases h : tx.data.toList with
  | nil =>
    have h9 : tx.data = #[] := by simpa using h
    simp [ByteArray.size, h9]
  | cons a l =>
    have h9 : tx.data.size = l.length + 1 := by rw [← Array.length_toList, h]; rfl
    simp [ByteArray.size, h9]
def pText (x : Nd) : Bool := x.num == 0
def pBare (x : Nd) : Bool := x.num == 0 && x.text.size == 0
def pNumb (x : Nd) : Bool := decide (x.num > 0) && x.text.size == 0
def pNum (x : Nd) : Bool := x.text.size == 0
def pGiven (x : Nd) : Bool := decide (-8 ≤ x.num) && decide (x.num ≤ -1) && x.text.size == 0
def pFail (x : Nd) : Bool := x.num == 0 && (x.text.toList == [77, 97, 116, 99, 104] || x.text.toList == [66, 105, 110, 100])
def pBin (x : Nd) : Bool := x.num == 0 && opsL.any (fun o => x.text.toList == o)
def pUn (x : Nd) : Bool := x.num == 0 && (x.text.toList == [126] || x.text.toList == [33])
def pCode (x : Nd) : Bool := decide (70 ≤ x.kind) && decide (x.kind ≤ 89) && x.kind != 82 && x.kind != 84
def pType (x : Nd) : Bool := x.kind == 12 || x.kind == 13 || x.kind == 14 || x.kind == 60
def pScheme (x : Nd) : Bool := x.kind == 62 || pType x
def pPat (x : Nd) : Bool := x.kind == 90 || x.kind == 91 || x.kind == 15 || x.kind == 17 || x.kind == 18 || x.kind == 19 || x.kind == 20
def pKind (k : Int) (x : Nd) : Bool := x.kind == k
theorem fitV_of {N : Nat} {p : Nd → Bool} (w : World) (hN : ∀ (args : Array Value) (w : World), (callFunc N args).run Tryz.prog w = .ok (.enter N args) w)
    (h : ∀ (x : Nd) (W : World), Calls Tryz.prog N #[.agg #[.int .i64 x.kind, .int .i64 x.num, .string x.text, .int .i64 x.kids, .int .i64 x.place]] W fun e w' => e = .returned (.bool (p x)) ∧ Below W.heap.size W w') :
    FitV w (.func (.func N) #[] #[]) p := ⟨N, #[], rfl, hN, fun x W _ => by simpa using h x W⟩
set_option maxHeartbeats 1000000 in
theorem isOfText_any (x : Nd) (W : World) :
    Calls Tryz.prog 75 #[.agg #[.int .i64 x.kind, .int .i64 x.num, .string x.text, .int .i64 x.kids, .int .i64 x.place]] W fun e w' => e = .returned (.bool (pText x)) ∧ Below W.heap.size W w' := by
  obtain ⟨kd, nm, tx, ks, pl⟩ := x
  unfold pText
  go_enter Tryz.func75, Tryz.ntmps75
  go_wp2
  go_ret
  exact ⟨rfl, (Below.refl _ _).alloc (Nat.le_refl _) _⟩
set_option maxHeartbeats 1000000 in
theorem isBareF_any (x : Nd) (W : World) :
    Calls Tryz.prog 77 #[.agg #[.int .i64 x.kind, .int .i64 x.num, .string x.text, .int .i64 x.kids, .int .i64 x.place]] W fun e w' => e = .returned (.bool (pBare x)) ∧ Below W.heap.size W w' := by
  obtain ⟨kd, nm, tx, ks, pl⟩ := x
  unfold pBare
  simp only
  have ht := tx_empty tx
  cases hn : (nm == 0)
  · go_enter Tryz.func77, Tryz.ntmps77
    go_wp2
    go_ret
    exact ⟨rfl, (Below.refl _ _).alloc (Nat.le_refl _) _⟩
  · go_enter Tryz.func77, Tryz.ntmps77
    go_wp2
    go_ret
    exact ⟨by rw [← ht]; rfl, (Below.refl _ _).alloc (Nat.le_refl _) _⟩
set_option maxHeartbeats 1000000 in
theorem isNumberF_any (x : Nd) (W : World) :
    Calls Tryz.prog 80 #[.agg #[.int .i64 x.kind, .int .i64 x.num, .string x.text, .int .i64 x.kids, .int .i64 x.place]] W fun e w' => e = .returned (.bool (pNum x)) ∧ Below W.heap.size W w' := by
  obtain ⟨kd, nm, tx, ks, pl⟩ := x
  unfold pNum
  simp only
  have ht := tx_empty tx
  go_enter Tryz.func80, Tryz.ntmps80
  go_wp2
  go_ret
  exact ⟨by rw [← ht]; rfl, (Below.refl _ _).alloc (Nat.le_refl _) _⟩
set_option maxHeartbeats 1000000 in
theorem isOfNumber_any (x : Nd) (W : World) :
    Calls Tryz.prog 79 #[.agg #[.int .i64 x.kind, .int .i64 x.num, .string x.text, .int .i64 x.kids, .int .i64 x.place]] W fun e w' => e = .returned (.bool (pNumb x)) ∧ Below W.heap.size W w' := by
  obtain ⟨kd, nm, tx, ks, pl⟩ := x
  unfold pNumb
  simp only
  have ht := tx_empty tx
  by_cases hn : nm > 0
  · have t : decide (nm > 0) = true := decide_eq_true hn
    go_enter Tryz.func79, Tryz.ntmps79
    go_wp2
    go_ret
    exact ⟨by rw [← ht, t]; rfl, (Below.refl _ _).alloc (Nat.le_refl _) _⟩
  · have t : decide (nm > 0) = false := decide_eq_false hn
    go_enter Tryz.func79, Tryz.ntmps79
    go_wp2
    go_ret
    exact ⟨by first | (rw [t]; rfl) | rfl, (Below.refl _ _).alloc (Nat.le_refl _) _⟩
set_option maxHeartbeats 1000000 in
theorem isGivenNumber_any (x : Nd) (W : World) :
    Calls Tryz.prog 82 #[.agg #[.int .i64 x.kind, .int .i64 x.num, .string x.text, .int .i64 x.kids, .int .i64 x.place]] W fun e w' => e = .returned (.bool (pGiven x)) ∧ Below W.heap.size W w' := by
  obtain ⟨kd, nm, tx, ks, pl⟩ := x
  unfold pGiven
  simp only
  have ht := tx_empty tx
  by_cases h1 : -8 ≤ nm
  · have t1 : decide (-8 ≤ nm) = true := decide_eq_true h1
    by_cases h2 : nm ≤ -1
    · have t2 : decide (nm ≤ -1) = true := decide_eq_true h2
      go_enter Tryz.func82, Tryz.ntmps82
      go_wp2
      go_ret
      exact ⟨by rw [← ht, t1, t2]; rfl, (Below.refl _ _).alloc (Nat.le_refl _) _⟩
    · have t2 : decide (nm ≤ -1) = false := decide_eq_false h2
      go_enter Tryz.func82, Tryz.ntmps82
      go_wp2
      go_ret
      exact ⟨by first | (rw [t1, t2]; rfl) | rfl, (Below.refl _ _).alloc (Nat.le_refl _) _⟩
  · have t1 : decide (-8 ≤ nm) = false := decide_eq_false h1
    go_enter Tryz.func82, Tryz.ntmps82
    go_wp2
    go_ret
    exact ⟨by first | (rw [t1]; rfl) | rfl, (Below.refl _ _).alloc (Nat.le_refl _) _⟩
set_option maxHeartbeats 1000000 in
theorem isFailure_any (x : Nd) (W : World) :
    Calls Tryz.prog 85 #[.agg #[.int .i64 x.kind, .int .i64 x.num, .string x.text, .int .i64 x.kids, .int .i64 x.place]] W fun e w' => e = .returned (.bool (pFail x)) ∧ Below W.heap.size W w' := by
  obtain ⟨kd, nm, tx, ks, pl⟩ := x
  unfold pFail
  simp only
  cases hn : (nm == 0)
  · go_enter Tryz.func85, Tryz.ntmps85
    go_wp2
    go_ret
    exact ⟨rfl, (Below.refl _ _).alloc (Nat.le_refl _) _⟩
  · cases h1 : (tx.toList == [77, 97, 116, 99, 104])
    · go_enter Tryz.func85, Tryz.ntmps85
      go_wp2
      go_ret
      exact ⟨rfl, (Below.refl _ _).alloc (Nat.le_refl _) _⟩
    · go_enter Tryz.func85, Tryz.ntmps85
      go_wp2
      go_ret
      exact ⟨rfl, (Below.refl _ _).alloc (Nat.le_refl _) _⟩
set_option maxHeartbeats 1000000 in
theorem isUnary_any (x : Nd) (W : World) :
    Calls Tryz.prog 88 #[.agg #[.int .i64 x.kind, .int .i64 x.num, .string x.text, .int .i64 x.kids, .int .i64 x.place]] W fun e w' => e = .returned (.bool (pUn x)) ∧ Below W.heap.size W w' := by
  obtain ⟨kd, nm, tx, ks, pl⟩ := x
  unfold pUn
  simp only
  cases hn : (nm == 0)
  · go_enter Tryz.func88, Tryz.ntmps88
    go_wp2
    go_ret
    exact ⟨rfl, (Below.refl _ _).alloc (Nat.le_refl _) _⟩
  · cases h1 : (tx.toList == [126])
    · go_enter Tryz.func88, Tryz.ntmps88
      go_wp2
      go_ret
      exact ⟨rfl, (Below.refl _ _).alloc (Nat.le_refl _) _⟩
    · go_enter Tryz.func88, Tryz.ntmps88
      go_wp2
      go_ret
      exact ⟨rfl, (Below.refl _ _).alloc (Nat.le_refl _) _⟩
set_option maxHeartbeats 4000000 in
theorem isBinary_any (x : Nd) (W : World) :
    Calls Tryz.prog 87 #[.agg #[.int .i64 x.kind, .int .i64 x.num, .string x.text, .int .i64 x.kids, .int .i64 x.place]] W fun e w' => e = .returned (.bool (pBin x)) ∧ Below W.heap.size W w' := by
  obtain ⟨kd, nm, tx, ks, pl⟩ := x
  have HV : Hid (pBin ⟨kd, nm, tx, ks, pl⟩ = (nm == 0 && opsL.any (fun o => tx.toList == o))) := rfl
  simp only [opsL, List.any_cons, List.any_nil] at HV
  cases h0 : (tx.toList == [58, 61])
  rotate_left
  · rw [h0] at HV
    simp only [Bool.true_or, Bool.and_true] at HV
    go_enter Tryz.func87, Tryz.ntmps87
    go_wp2
    go_ret
    exact ⟨by rw [HV.out]; rfl, (Below.refl _ _).alloc (Nat.le_refl _) _⟩
  rw [h0] at HV
  cases h1 : (tx.toList == [61])
  rotate_left
  · rw [h1] at HV
    simp only [Bool.or_true, Bool.true_or, Bool.and_true] at HV
    go_enter Tryz.func87, Tryz.ntmps87
    go_wp2
    go_ret
    exact ⟨by rw [HV.out]; rfl, (Below.refl _ _).alloc (Nat.le_refl _) _⟩
  rw [h1] at HV
  cases h2 : (tx.toList == [60, 62])
  rotate_left
  · rw [h2] at HV
    simp only [Bool.or_true, Bool.true_or, Bool.and_true] at HV
    go_enter Tryz.func87, Tryz.ntmps87
    go_wp2
    go_ret
    exact ⟨by rw [HV.out]; rfl, (Below.refl _ _).alloc (Nat.le_refl _) _⟩
  rw [h2] at HV
  cases h3 : (tx.toList == [60])
  rotate_left
  · rw [h3] at HV
    simp only [Bool.or_true, Bool.true_or, Bool.and_true] at HV
    go_enter Tryz.func87, Tryz.ntmps87
    go_wp2
    go_ret
    exact ⟨by rw [HV.out]; rfl, (Below.refl _ _).alloc (Nat.le_refl _) _⟩
  rw [h3] at HV
  cases h4 : (tx.toList == [60, 61])
  rotate_left
  · rw [h4] at HV
    simp only [Bool.or_true, Bool.true_or, Bool.and_true] at HV
    go_enter Tryz.func87, Tryz.ntmps87
    go_wp2
    go_ret
    exact ⟨by rw [HV.out]; rfl, (Below.refl _ _).alloc (Nat.le_refl _) _⟩
  rw [h4] at HV
  cases h5 : (tx.toList == [62])
  rotate_left
  · rw [h5] at HV
    simp only [Bool.or_true, Bool.true_or, Bool.and_true] at HV
    go_enter Tryz.func87, Tryz.ntmps87
    go_wp2
    go_ret
    exact ⟨by rw [HV.out]; rfl, (Below.refl _ _).alloc (Nat.le_refl _) _⟩
  rw [h5] at HV
  cases h6 : (tx.toList == [62, 61])
  rotate_left
  · rw [h6] at HV
    simp only [Bool.or_true, Bool.true_or, Bool.and_true] at HV
    go_enter Tryz.func87, Tryz.ntmps87
    go_wp2
    go_ret
    exact ⟨by rw [HV.out]; rfl, (Below.refl _ _).alloc (Nat.le_refl _) _⟩
  rw [h6] at HV
  cases h7 : (tx.toList == [94])
  rotate_left
  · rw [h7] at HV
    simp only [Bool.or_true, Bool.true_or, Bool.and_true] at HV
    go_enter Tryz.func87, Tryz.ntmps87
    go_wp2
    go_ret
    exact ⟨by rw [HV.out]; rfl, (Below.refl _ _).alloc (Nat.le_refl _) _⟩
  rw [h7] at HV
  cases h8 : (tx.toList == [43])
  rotate_left
  · rw [h8] at HV
    simp only [Bool.or_true, Bool.true_or, Bool.and_true] at HV
    go_enter Tryz.func87, Tryz.ntmps87
    go_wp2
    go_ret
    exact ⟨by rw [HV.out]; rfl, (Below.refl _ _).alloc (Nat.le_refl _) _⟩
  rw [h8] at HV
  cases h9 : (tx.toList == [45])
  rotate_left
  · rw [h9] at HV
    simp only [Bool.or_true, Bool.true_or, Bool.and_true] at HV
    go_enter Tryz.func87, Tryz.ntmps87
    go_wp2
    go_ret
    exact ⟨by rw [HV.out]; rfl, (Below.refl _ _).alloc (Nat.le_refl _) _⟩
  rw [h9] at HV
  cases h10 : (tx.toList == [42])
  rotate_left
  · rw [h10] at HV
    simp only [Bool.or_true, Bool.true_or, Bool.and_true] at HV
    go_enter Tryz.func87, Tryz.ntmps87
    go_wp2
    go_ret
    exact ⟨by rw [HV.out]; rfl, (Below.refl _ _).alloc (Nat.le_refl _) _⟩
  rw [h10] at HV
  cases h11 : (tx.toList == [47])
  rotate_left
  · rw [h11] at HV
    simp only [Bool.or_true, Bool.true_or, Bool.and_true] at HV
    go_enter Tryz.func87, Tryz.ntmps87
    go_wp2
    go_ret
    exact ⟨by rw [HV.out]; rfl, (Below.refl _ _).alloc (Nat.le_refl _) _⟩
  rw [h11] at HV
  cases h12 : (tx.toList == [37])
  rotate_left
  · rw [h12] at HV
    simp only [Bool.or_true, Bool.true_or, Bool.and_true] at HV
    go_enter Tryz.func87, Tryz.ntmps87
    go_wp2
    go_ret
    exact ⟨by rw [HV.out]; rfl, (Below.refl _ _).alloc (Nat.le_refl _) _⟩
  rw [h12] at HV
  simp only [Bool.or_false, Bool.and_false] at HV
  go_enter Tryz.func87, Tryz.ntmps87
  go_wp2
  go_ret
  exact ⟨by rw [HV.out]; rfl, (Below.refl _ _).alloc (Nat.le_refl _) _⟩
set_option maxHeartbeats 1000000 in
theorem isCode_any (x : Nd) (W : World) :
    Calls Tryz.prog 38 #[.agg #[.int .i64 x.kind, .int .i64 x.num, .string x.text, .int .i64 x.kids, .int .i64 x.place]] W fun e w' => e = .returned (.bool (pCode x)) ∧ Below W.heap.size W w' := by
  obtain ⟨kd, nm, tx, ks, pl⟩ := x
  unfold pCode
  simp only
  by_cases h1 : 70 ≤ kd
  · have t1 : decide (70 ≤ kd) = true := decide_eq_true h1
    by_cases h2 : kd ≤ 89
    · have t2 : decide (kd ≤ 89) = true := decide_eq_true h2
      cases h3 : (kd != 82)
      · go_enter Tryz.func38, Tryz.ntmps38
        go_wp2
        go_ret
        exact ⟨by simp, (Below.refl _ _).alloc (Nat.le_refl _) _⟩
      · go_enter Tryz.func38, Tryz.ntmps38
        go_wp2
        go_ret
        exact ⟨by simp [t1, t2], (Below.refl _ _).alloc (Nat.le_refl _) _⟩
    · have t2 : decide (kd ≤ 89) = false := decide_eq_false h2
      go_enter Tryz.func38, Tryz.ntmps38
      go_wp2
      go_ret
      exact ⟨by simp, (Below.refl _ _).alloc (Nat.le_refl _) _⟩
  · have t1 : decide (70 ≤ kd) = false := decide_eq_false h1
    go_enter Tryz.func38, Tryz.ntmps38
    go_wp2
    go_ret
    exact ⟨by simp, (Below.refl _ _).alloc (Nat.le_refl _) _⟩
set_option maxHeartbeats 1000000 in
theorem ofKind1_any (x : Nd) (k : Int) (b : Nat) (W : World) (hc : W.cell? ⟨b, 0, none⟩ = some (.int .i64 k)) :
    Calls Tryz.prog 102 #[.agg #[.int .i64 x.kind, .int .i64 x.num, .string x.text, .int .i64 x.kids, .int .i64 x.place], .pointer (some ⟨b, 0, none⟩)] W fun e w' => e = .returned (.bool (pKind k x)) ∧ Below W.heap.size W w' := by
  obtain ⟨kd, nm, tx, ks, pl⟩ := x
  unfold pKind
  have hl := lt_of_cell hc
  simp only at hl
  go_enter Tryz.func102, Tryz.ntmps102
  go_wp2
  go_ret
  exact ⟨rfl, (Below.refl _ _).alloc (Nat.le_refl _) _⟩
set_option maxHeartbeats 1000000 in
theorem isCodeType_any (x : Nd) (W : World) :
    Calls Tryz.prog 72 #[.agg #[.int .i64 x.kind, .int .i64 x.num, .string x.text, .int .i64 x.kids, .int .i64 x.place]] W fun e w' => e = .returned (.bool (pType x)) ∧ Below W.heap.size W w' := by
  obtain ⟨kd, nm, tx, ks, pl⟩ := x
  unfold pType
  simp only
  by_cases h : kd = 12 ∨ kd = 13 ∨ kd = 14 ∨ kd = 60
  · rcases h with rfl | rfl | rfl | rfl
    all_goals
      go_enter Tryz.func72, Tryz.ntmps72
      go_wp2
      go_ret
      exact ⟨rfl, (Below.refl _ _).alloc (Nat.le_refl _) _⟩
  · have u1 : (kd == 12) = false := by simp; omega
    have u2 : (kd == 13) = false := by simp; omega
    have u3 : (kd == 14) = false := by simp; omega
    have u4 : (kd == 60) = false := by simp; omega
    go_enter Tryz.func72, Tryz.ntmps72
    go_wp2
    go_ret
    exact ⟨by simp [u1, u2, u3, u4], (Below.refl _ _).alloc (Nat.le_refl _) _⟩
set_option maxHeartbeats 1000000 in
theorem isCodePat_any (x : Nd) (W : World) :
    Calls Tryz.prog 61 #[.agg #[.int .i64 x.kind, .int .i64 x.num, .string x.text, .int .i64 x.kids, .int .i64 x.place]] W fun e w' => e = .returned (.bool (pPat x)) ∧ Below W.heap.size W w' := by
  obtain ⟨kd, nm, tx, ks, pl⟩ := x
  unfold pPat
  simp only
  by_cases h : kd = 90 ∨ kd = 91 ∨ kd = 15 ∨ kd = 17 ∨ kd = 18 ∨ kd = 19 ∨ kd = 20
  · rcases h with rfl | rfl | rfl | rfl | rfl | rfl | rfl
    all_goals
      go_enter Tryz.func61, Tryz.ntmps61
      go_wp2
      go_ret
      exact ⟨rfl, (Below.refl _ _).alloc (Nat.le_refl _) _⟩
  · have u1 : (kd == 90) = false := by simp; omega
    have u2 : (kd == 91) = false := by simp; omega
    have u3 : (kd == 15) = false := by simp; omega
    have u4 : (kd == 17) = false := by simp; omega
    have u5 : (kd == 18) = false := by simp; omega
    have u6 : (kd == 19) = false := by simp; omega
    have u7 : (kd == 20) = false := by simp; omega
    go_enter Tryz.func61, Tryz.ntmps61
    go_wp2
    go_ret
    exact ⟨by simp [u1, u2, u3, u4, u5, u6, u7], (Below.refl _ _).alloc (Nat.le_refl _) _⟩
set_option maxHeartbeats 1000000 in
theorem isScheme_any (x : Nd) (W : World) :
    Calls Tryz.prog 73 #[.agg #[.int .i64 x.kind, .int .i64 x.num, .string x.text, .int .i64 x.kids, .int .i64 x.place]] W fun e w' => e = .returned (.bool (pScheme x)) ∧ Below W.heap.size W w' := by
  have HC := isCodeType_any x
  unfold pScheme
  obtain ⟨z, hz⟩ : ∃ z, pType x = z := ⟨_, rfl⟩
  rw [hz] at HC ⊢
  obtain ⟨kd, nm, tx, ks, pl⟩ := x
  simp only at HC ⊢
  have hb0 : Below W.heap.size W (W.alloc (Obj.cells #[.int .i64 kd, .int .i64 nm, .string tx, .int .i64 ks, .int .i64 pl] 34)) := (Below.refl _ _).alloc (Nat.le_refl _) _
  clear hz
  cases h : (kd == 62)
  · go_enter Tryz.func73, Tryz.ntmps73
    go_wp2_with fail
    refine (HC _).mono ?_
    rintro e w1 ⟨rfl, hb1⟩
    have hbb := Below.step hb0 hb1
    clear hb0 hb1 HC
    go_wp2
    go_ret
    exact ⟨rfl, hbb⟩
  · go_enter Tryz.func73, Tryz.ntmps73
    go_wp2
    go_ret
    exact ⟨rfl, hb0⟩
end Go.Proofs.YtedlofpgddjpgaaGreat

namespace Go.Proofs.YtedlofpgddjpgaaGreat
open Go.RowKit
def fitAll : List (Nd → Bool) → List Nd → Bool
  | [], [] => true
  | p :: ps, x :: xs => p x && fitAll ps xs
  | _, _ => false
theorem fitAll_ne : ∀ (ps : List (Nd → Bool)) (xs : List Nd), xs.length ≠ ps.length → fitAll ps xs = false
  | [], [], h => absurd rfl h
  | [], _ :: _, _ => rfl
  | _ :: _, [], _ => rfl
  | p :: ps, x :: xs, h => by
    have := fitAll_ne ps xs (by simpa using h)
    simp [fitAll, this]
theorem fitAll_no : ∀ (ps : List (Nd → Bool)) (xs : List Nd) (k : Nat) (h : k < ps.length) (h' : k < xs.length), ps[k] xs[k] = false → fitAll ps xs = false
  | [], _, _, h, _, _ => by simp at h
  | _ :: _, [], _, _, h', _ => by simp at h'
  | p :: ps, x :: xs, 0, _, _, e => by simp at e; simp [fitAll, e]
  | p :: ps, x :: xs, k + 1, h, h', e => by
    have := fitAll_no ps xs k (by simpa using h) (by simpa using h') (by simpa using e)
    simp [fitAll, this]
theorem fitAll_yes : ∀ (ps : List (Nd → Bool)) (xs : List Nd), xs.length = ps.length → (∀ k (h : k < ps.length) (h' : k < xs.length), ps[k] xs[k] = true) → fitAll ps xs = true
  | [], [], _, _ => rfl
  | [], _ :: _, h, _ => by simp at h
  | _ :: _, [], h, _ => by simp at h
  | p :: ps, x :: xs, h, e => by
    have h1 := e 0 (by simp) (by simp)
    have h2 := fitAll_yes ps xs (by simpa using h) (fun k hk hk' => e (k + 1) (by simpa using hk) (by simpa using hk'))
    simp at h1
    simp [fitAll, h1, h2]
def FitsAt (w : World) (ao : Option Addr) (ps : List (Nd → Bool)) : Prop :=
  ∀ i (h : i < ps.length), ∃ b o v, ao = some ⟨b, o, none⟩ ∧ w.cell? ⟨b, o + i, none⟩ = some v ∧ FitV w v ps[i]
theorem FitsAt.below {w w' : World} {ao : Option Addr} {ps : List (Nd → Bool)} (h : FitsAt w ao ps) (hb : Below w.heap.size w w') : FitsAt w' ao ps := by
  intro i hi
  obtain ⟨b, o, v, e, hc, hv⟩ := h i hi
  exact ⟨b, o, v, e, (hb.cell (p := ⟨b, o + i, none⟩) (lt_of_cell hc)).trans hc, hv.below hb⟩
set_option maxHeartbeats 1000000 in
theorem just11_any (x : Nd) (v : Value) (p : Nd → Bool) (w : World) (hv : FitV w v p) :
    Calls Tryz.prog 91 #[.agg #[.int .i64 x.kind, .int .i64 x.num, .string x.text, .int .i64 x.kids, .int .i64 x.place], v] w fun e w' =>
      e = .returned (.bool (p x)) ∧ Below w.heap.size w w' := by
  obtain ⟨N, lb, rfl, hN, HF⟩ := hv
  have HP := HF x
  obtain ⟨z, hz⟩ : ∃ z, p x = z := ⟨_, rfl⟩
  rw [hz] at HP ⊢
  clear HF hz
  obtain ⟨kd, nm, tx, ks, pl⟩ := x
  have hb0 : Below w.heap.size w (w.alloc (Obj.cells #[.int .i64 kd, .int .i64 nm, .string tx, .int .i64 ks, .int .i64 pl] 34)) := (Below.refl _ _).alloc (Nat.le_refl _) _
  simp only at HP
  go_enter Tryz.func91, Tryz.ntmps91
  go_wp2_with fail
  refine (HP _ hb0).mono ?_
  rintro e w1 ⟨rfl, hb1⟩
  have hb2 := Below.step hb0 hb1
  clear HP hb0 hb1
  go_wp2
  go_ret
  exact ⟨rfl, hb2⟩
set_option maxHeartbeats 2000000 in
theorem equalFit_any (xs : List Nd) (n : Nat) (HX : Hid (xs.length = n)) (ps : List (Nd → Bool)) (l : Nat) (HL : Hid (ps.length = l)) (ao ap : Option Addr) (cap cp : Nat) (w : World) (hx : Nodes w ao xs) (hp : FitsAt w ap ps) (hlx : n ≤ 60000) (hlp : l ≤ 60000) :
    Calls Tryz.prog 90 #[.slice ao n cap, .slice ap l cp, .func (.func 91) #[] #[]] w fun e w' =>
      e = .returned (.bool (fitAll ps xs)) ∧ Below w.heap.size w w' := by
  by_cases hnl : n = l
  · subst hnl
    go_enter Tryz.func90, Tryz.ntmps90
    go_wp2
    go_loopw [17] (fun i wr => ∃ (k : Nat), k ≤ n ∧ i = .int .i64 k ∧ (∀ j (h : j < ps.length) (h' : j < xs.length), j < k → ps[j] xs[j] = true) ∧ Below w.heap.size w wr) (fun i _ => n - (intOf i).toNat)
    case atStart => exact ⟨0, Nat.zero_le _, rfl, fun j _ _ h => absurd h (by omega), Below.refl _ _⟩
    case round =>
      obtain ⟨k, hk, rfl, hall, hb⟩ := hrel
      have HALL : Hid (∀ j (h : j < ps.length) (h' : j < xs.length), j < k → ps[j] xs[j] = true) := hall
      clear hall
      by_cases hlt : k < n
      · have hltx : k < xs.length := by have := HX.out; omega
        have hltp : k < ps.length := by have := HL.out; omega
        obtain ⟨x, hxk⟩ : ∃ x, xs[k] = x := ⟨_, rfl⟩
        obtain ⟨b, o, rfl, hcx⟩ := hx.below hb k hltx
        obtain ⟨b', o', v, rfl, hcv, hfv⟩ := hp.below hb k hltp
        rw [hxk] at hcx
        obtain ⟨c0, c1, c2, c3, c4⟩ := hcx
        have hlb : b < wr.heap.size := lt_of_cell c0
        have hlb' : b' < wr.heap.size := lt_of_cell hcv
        obtain ⟨z, hz⟩ : ∃ z, ps[k] x = z := ⟨_, rfl⟩
        have HZ : Hid (ps[k] xs[k] = z) := by show ps[k] xs[k] = z; rw [hxk]; exact hz
        obtain ⟨kd, nm, tx, ks, pl⟩ := x
        have hb0 : Below wr.heap.size wr (wr.alloc (Obj.cells #[.int .i64 kd, .int .i64 nm, .string tx, .int .i64 ks, .int .i64 pl] 34)) := (Below.refl _ _).alloc (Nat.le_refl _) _
        have HC := just11_any ⟨kd, nm, tx, ks, pl⟩ v ps[k] _ (hfv.below hb0)
        rw [hz] at HC
        obtain ⟨N, lb, rfl, -, -⟩ := hfv
        have hbA := Below.step hb hb0
        clear hx hxk hp hb hb0 hz
        go_wp2_with fail
        refine HC.mono ?_
        rintro e w1 ⟨rfl, hb1⟩
        have hbb := Below.step hbA hb1
        clear hbA hb1 HC c0 c1 c2 c3 c4 hcv
        cases z
        · have HV : Hid (fitAll ps xs = false) := fitAll_no ps xs k hltp hltx HZ.out
          go_wp2
          go_ret
          exact ⟨by rw [HV.out]; rfl, hbb⟩
        · go_wp2
          go_roundw
          case rel =>
            refine ⟨k + 1, by omega, by go_num, ?_, hbb⟩
            intro j h h' hj
            by_cases hjk : j = k
            · subst hjk; exact HZ.out
            · exact HALL.out j h h' (by omega)
          case measure => simp [intOf]; omega
      · have HV : Hid (fitAll ps xs = true) := fitAll_yes ps xs (by rw [HX.out, HL.out]) (fun j h h' => HALL.out j h h' (by have := HX.out; omega))
        clear hx hp
        go_wp2
        go_ret
        exact ⟨by rw [HV.out]; rfl, hb⟩
  · have HV : Hid (fitAll ps xs = false) := fitAll_ne ps xs (by rw [HX.out, HL.out]; exact hnl)
    have hnl' : ((n : Int) != (l : Int)) = true := by simp; omega
    clear hx hp
    go_enter Tryz.func90, Tryz.ntmps90
    go_wp2
    go_ret
    exact ⟨by rw [HV.out]; rfl, Below.refl _ _⟩
end Go.Proofs.YtedlofpgddjpgaaGreat
