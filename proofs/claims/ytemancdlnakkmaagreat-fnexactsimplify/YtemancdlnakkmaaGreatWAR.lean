import Derived.Test.YtemancdlnakkmaaGreatWAQ
import Derived.Lib.Strings
namespace Go.Proofs.YtemancdlnakkmaaGreat
open Go.RowKit
def FitV (w : World) (v : Value) (p : Nd → Bool) : Prop :=
  ∃ N lb, v = .func (.func N) #[] lb ∧ (∀ (args : Array Value) (w : World), (callFunc N args).run Tryz.prog w = .ok (.enter N args) w) ∧
    ∀ (x : Nd) (W : World), Below w.heap.size w W → Calls Tryz.prog N (#[.agg #[.int .i64 x.kind, .int .i64 x.num, .string x.text, .int .i64 x.kids, .int .i64 x.place]] ++ lb) W fun e w' =>
      e = .returned (.bool (p x)) ∧ Below W.heap.size W w'
theorem FitV.below {w w' : World} {v : Value} {p : Nd → Bool} (h : FitV w v p) (hb : Below w.heap.size w w') : FitV w' v p := by
  obtain ⟨N, lb, e, hN, hF⟩ := h
  exact ⟨N, lb, e, hN, fun x W hW => hF x W (Below.step hb hW)⟩
def KidsV (w : World) (v : Value) (p : Nd → List Nd → Bool) : Prop :=
  ∃ N lb, v = .func (.func N) #[] lb ∧ (∀ (args : Array Value) (w : World), (callFunc N args).run Tryz.prog w = .ok (.enter N args) w) ∧
    ∀ (x : Nd) (ks : List Nd) (q : Nat) (ao : Option Addr) (cap : Nat) (W : World), Below w.heap.size w W → Hid (ks.length = q) → q ≤ 60000 → q ≤ cap → Nodes W ao ks →
      Calls Tryz.prog N (#[.agg #[.int .i64 x.kind, .int .i64 x.num, .string x.text, .int .i64 x.kids, .int .i64 x.place], .slice ao q cap] ++ lb) W fun e w' =>
        e = .returned (.bool (p x ks)) ∧ Below W.heap.size W w'
theorem KidsV.below {w w' : World} {v : Value} {p : Nd → List Nd → Bool} (h : KidsV w v p) (hb : Below w.heap.size w w') : KidsV w' v p := by
  obtain ⟨N, lb, e, hN, hF⟩ := h
  exact ⟨N, lb, e, hN, fun x ks q ao cap W hW => hF x ks q ao cap W (Below.step hb hW)⟩
set_option maxHeartbeats 1000000 in
theorem allFit1_any (x : Nd) (b : Nat) (v : Value) (p : Nd → Bool) (w : World) (hc : w.cell? ⟨b, 0, none⟩ = some v) (hv : FitV w v p) :
    Calls Tryz.prog 111 #[.agg #[.int .i64 x.kind, .int .i64 x.num, .string x.text, .int .i64 x.kids, .int .i64 x.place], .pointer (some ⟨b, 0, none⟩)] w fun e w' =>
      e = .returned (.bool (!p x)) ∧ Below w.heap.size w w' := by
  have hlb : b < w.heap.size := lt_of_cell hc
  obtain ⟨N, lb, rfl, hN, HF⟩ := hv
  have HP := HF x
  obtain ⟨z, hz⟩ : ∃ z, p x = z := ⟨_, rfl⟩
  rw [hz] at HP ⊢
  clear HF hz
  obtain ⟨kd, nm, tx, ks, pl⟩ := x
  have hb0 : Below w.heap.size w (w.alloc (Obj.cells #[.int .i64 kd, .int .i64 nm, .string tx, .int .i64 ks, .int .i64 pl] 34)) := (Below.refl _ _).alloc (Nat.le_refl _) _
  simp only at HP
  go_enter Tryz.func111, Tryz.ntmps111
  go_wp2_with fail
  refine (HP _ hb0).mono ?_
  rintro e w1 ⟨rfl, hb1⟩
  have hb2 := Below.step hb0 hb1
  clear HP hb0 hb1
  go_wp2
  go_ret
  exact ⟨rfl, hb2⟩
theorem anyF_true {α : Type} {p : α → Bool} {xs : List α} (k : Nat) (h : k < xs.length) (hf : p xs[k] = true) : xs.any p = true :=
  List.any_eq_true.2 ⟨_, List.getElem_mem h, hf⟩
theorem takeF_any {α : Type} {p : α → Bool} {xs : List α} (k : Nat) (h : k < xs.length) (ht : p xs[k] = false) (ha : (xs.take k).any p = false) : (xs.take (k + 1)).any p = false := by
  rw [List.take_succ_eq_append_getElem h, List.any_append, ha]
  simp [ht]
set_option maxHeartbeats 2000000 in
theorem indexFunc_fit (p : Nd → Bool) (v : Value) (fb : Nat) (xs : List Nd) (n : Nat) (HX : Hid (xs.length = n)) (ao : Option Addr) (cap : Nat) (w : World) (hx : Nodes w ao xs) (hlx : n ≤ 60000) (hc : w.cell? ⟨fb, 0, none⟩ = some v) (hv : FitV w v p) :
    Calls Tryz.prog 121 #[.slice ao n cap, .func (.func 111) #[] #[.pointer (some ⟨fb, 0, none⟩)]] w fun e w' =>
      (∃ r : Int, e = .returned (.int .i64 r) ∧ decide (r ≥ 0) = xs.any (fun n => !p n)) ∧ Below w.heap.size w w' := by
  have hlb : fb < w.heap.size := lt_of_cell hc
  have HU : Hid (∀ (x : Nd) (W : World), Below w.heap.size w W → Calls Tryz.prog 111 #[.agg #[.int .i64 x.kind, .int .i64 x.num, .string x.text, .int .i64 x.kids, .int .i64 x.place], .pointer (some ⟨fb, 0, none⟩)] W fun e w' => e = .returned (.bool (!p x)) ∧ Below W.heap.size W w') := by
    intro x W hW
    exact allFit1_any x fb v p W ((hW.cell (p := ⟨fb, 0, none⟩) hlb).trans hc) (hv.below hW)
  clear hv hc
  go_enter Tryz.func121, Tryz.ntmps121
  go_wp2
  go_loopw [8] (fun i wr => ∃ (k : Nat), k ≤ n ∧ i = .int .i64 k ∧ (xs.take k).any (fun n => !p n) = false ∧ Below w.heap.size w wr) (fun i _ => n - (intOf i).toNat)
  case atStart => exact ⟨0, Nat.zero_le _, rfl, by simp, Below.refl _ _⟩
  case round =>
    obtain ⟨k, hk, rfl, hall, hb⟩ := hrel
    by_cases hlt : k < n
    · have hltx : k < xs.length := by have := HX.out; omega
      obtain ⟨x, hxk⟩ : ∃ x, xs[k] = x := ⟨_, rfl⟩
      obtain ⟨b, o, rfl, hcx⟩ := hx.below hb k hltx
      rw [hxk] at hcx
      obtain ⟨c0, c1, c2, c3, c4⟩ := hcx
      have hlb : b < wr.heap.size := lt_of_cell c0
      have HXK : Hid (xs[k] = x) := hxk
      clear hx hxk
      have HC := HU.out x wr hb
      cases hq : (!p x)
      · have HA : Hid ((xs.take (k + 1)).any (fun n => !p n) = false) := takeF_any k hltx (by rw [HXK.out]; exact hq) hall
        clear hall
        go_wp2_with fail
        refine HC.mono ?_
        rintro e w1 ⟨rfl, hb1⟩
        rw [hq]
        have hbb := Below.step hb hb1
        clear hb hb1 c0 c1 c2 c3 c4 HC
        go_wp2
        go_roundw
        case rel => exact ⟨k + 1, by omega, by go_num, HA.out, hbb⟩
        case measure => simp [intOf]; omega
      · have HA : Hid (xs.any (fun n => !p n) = true) := anyF_true k hltx (by rw [HXK.out]; exact hq)
        clear hall
        go_wp2_with fail
        refine HC.mono ?_
        rintro e w1 ⟨rfl, hb1⟩
        rw [hq]
        have hbb := Below.step hb hb1
        clear hb hb1 c0 c1 c2 c3 c4 HC
        go_wp2
        go_ret
        exact ⟨⟨(k : Int), rfl, by rw [HA.out]; simp⟩, hbb⟩
    · have HA : Hid (xs.any (fun n => !p n) = false) := by
        have h9 := hall
        rw [List.take_of_length_le (by have := HX.out; omega)] at h9
        exact h9
      clear hall hx
      go_wp2
      go_ret
      exact ⟨⟨-1, rfl, by rw [HA.out]; rfl⟩, hb⟩
theorem all_none (p : Nd → Bool) (xs : List Nd) : xs.all p = !xs.any (fun n => !p n) := by
  induction xs with
  | nil => rfl
  | cons x xs ih => simp only [List.all_cons, List.any_cons, Bool.not_or, ← ih, Bool.not_not]
set_option maxHeartbeats 1000000 in
theorem containsFunc_fit (p : Nd → Bool) (v : Value) (fb : Nat) (xs : List Nd) (n : Nat) (HX : Hid (xs.length = n)) (ao : Option Addr) (cap : Nat) (w : World) (hx : Nodes w ao xs) (hlx : n ≤ 60000) (hc : w.cell? ⟨fb, 0, none⟩ = some v) (hv : FitV w v p) :
    Calls Tryz.prog 110 #[.slice ao n cap, .func (.func 111) #[] #[.pointer (some ⟨fb, 0, none⟩)]] w fun e w' =>
      e = .returned (.bool (xs.any (fun n => !p n))) ∧ Below w.heap.size w w' := by
  have HI := indexFunc_fit p v fb xs n HX ao cap w hx hlx hc hv
  clear hx hc hv
  go_enter Tryz.func110, Tryz.ntmps110
  go_wp2_with fail
  refine HI.mono ?_
  rintro e w1 ⟨⟨r, rfl, hr⟩, hb⟩
  have HR : Hid (decide (r ≥ 0) = xs.any (fun n => !p n)) := hr
  clear hr HI
  go_wp2
  go_ret
  exact ⟨by rw [← HR.out]; rfl, hb⟩
set_option maxHeartbeats 1000000 in
theorem allFit_any (p : Nd → Bool) (v : Value) (xs : List Nd) (n : Nat) (HX : Hid (xs.length = n)) (ao : Option Addr) (cap : Nat) (w : World) (hx : Nodes w ao xs) (hlx : n ≤ 60000) (hv : FitV w v p) :
    Calls Tryz.prog 96 #[.slice ao n cap, v] w fun e w' => e = .returned (.bool (xs.all p)) ∧ Below w.heap.size w w' := by
  have hv2 := hv
  obtain ⟨N, lb, rfl, -, -⟩ := hv2
  have hb0 : Below w.heap.size w (w.alloc (.cells #[.func (.func N) #[] lb] 77)) := (Below.refl _ _).alloc (Nat.le_refl _) _
  have hcv : (w.alloc (.cells #[.func (.func N) #[] lb] 77)).cell? ⟨w.heap.size, 0, none⟩ = some (.func (.func N) #[] lb) := by rw [cell_of_row _ _ _ _ _ _ (heap_alloc_new _ _)]; rfl
  have HI := containsFunc_fit p _ w.heap.size xs n HX ao cap _ (hx.below hb0) hlx hcv (hv.below hb0)
  have HV : Hid (xs.all p = !xs.any (fun n => !p n)) := all_none p xs
  clear hcv hx hv
  go_enter Tryz.func96, Tryz.ntmps96
  go_wp2_with fail
  refine HI.mono ?_
  rintro e w1 ⟨rfl, hb⟩
  have hbb := Below.step hb0 hb
  clear hb hb0 HI
  go_wp2
  go_ret
  exact ⟨by rw [HV.out]; rfl, hbb⟩
theorem tx_empty (tx : ByteArray) : tx.toList.isEmpty = (tx.size == 0) := by
  rw [Lib.toList_data]
  cases h : tx.data.toList with
  | nil =>
    have h9 : tx.data = #[] := by simpa using h
    simp [ByteArray.size, h9]
  | cons a l =>
    have h9 : tx.data.size = l.length + 1 := by rw [← Array.length_toList, h]; rfl
    simp [ByteArray.size, h9]
def pText (x : Nd) : Bool := x.num == 0
def pBare (x : Nd) : Bool := x.num == 0 && x.text.size == 0
def pNumb (x : Nd) : Bool := decide (x.num > 0) && x.text.size == 0
def pNum (x : Nd) : Bool := x.text.size == 0
def pGiven (x : Nd) : Bool := decide (-8 ≤ x.num) && decide (x.num ≤ -1) && x.text.size == 0
def pFail (x : Nd) : Bool := x.num == 0 && (x.text.toList == [77, 97, 116, 99, 104] || x.text.toList == [66, 105, 110, 100])
def pBin (x : Nd) : Bool := x.num == 0 && opsL.any (fun o => x.text.toList == o)
def pUn (x : Nd) : Bool := x.num == 0 && (x.text.toList == [126] || x.text.toList == [33])
def pCode (x : Nd) : Bool := decide (70 ≤ x.kind) && decide (x.kind ≤ 89) && x.kind != 82 && x.kind != 84
def pType (x : Nd) : Bool := x.kind == 12 || x.kind == 13 || x.kind == 14 || x.kind == 60
def pScheme (x : Nd) : Bool := x.kind == 62 || pType x
def pPat (x : Nd) : Bool := x.kind == 90 || x.kind == 91 || x.kind == 15 || x.kind == 17 || x.kind == 18 || x.kind == 19 || x.kind == 20
def pKind (k : Int) (x : Nd) : Bool := x.kind == k
theorem fitV_of {N : Nat} {p : Nd → Bool} (w : World) (hN : ∀ (args : Array Value) (w : World), (callFunc N args).run Tryz.prog w = .ok (.enter N args) w)
    (h : ∀ (x : Nd) (W : World), Calls Tryz.prog N #[.agg #[.int .i64 x.kind, .int .i64 x.num, .string x.text, .int .i64 x.kids, .int .i64 x.place]] W fun e w' => e = .returned (.bool (p x)) ∧ Below W.heap.size W w') :
    FitV w (.func (.func N) #[] #[]) p := ⟨N, #[], rfl, hN, fun x W _ => by simpa using h x W⟩
set_option maxHeartbeats 1000000 in
theorem isOfText_any (x : Nd) (W : World) :
    Calls Tryz.prog 69 #[.agg #[.int .i64 x.kind, .int .i64 x.num, .string x.text, .int .i64 x.kids, .int .i64 x.place]] W fun e w' => e = .returned (.bool (pText x)) ∧ Below W.heap.size W w' := by
  obtain ⟨kd, nm, tx, ks, pl⟩ := x
  unfold pText
  go_enter Tryz.func69, Tryz.ntmps69
  go_wp2
  go_ret
  exact ⟨rfl, (Below.refl _ _).alloc (Nat.le_refl _) _⟩
set_option maxHeartbeats 1000000 in
theorem isBareF_any (x : Nd) (W : World) :
    Calls Tryz.prog 71 #[.agg #[.int .i64 x.kind, .int .i64 x.num, .string x.text, .int .i64 x.kids, .int .i64 x.place]] W fun e w' => e = .returned (.bool (pBare x)) ∧ Below W.heap.size W w' := by
  obtain ⟨kd, nm, tx, ks, pl⟩ := x
  unfold pBare
  simp only
  have ht := tx_empty tx
  cases hn : (nm == 0)
  · go_enter Tryz.func71, Tryz.ntmps71
    go_wp2
    go_ret
    exact ⟨rfl, (Below.refl _ _).alloc (Nat.le_refl _) _⟩
  · go_enter Tryz.func71, Tryz.ntmps71
    go_wp2
    go_ret
    exact ⟨by rw [← ht]; rfl, (Below.refl _ _).alloc (Nat.le_refl _) _⟩
set_option maxHeartbeats 1000000 in
theorem isNumberF_any (x : Nd) (W : World) :
    Calls Tryz.prog 74 #[.agg #[.int .i64 x.kind, .int .i64 x.num, .string x.text, .int .i64 x.kids, .int .i64 x.place]] W fun e w' => e = .returned (.bool (pNum x)) ∧ Below W.heap.size W w' := by
  obtain ⟨kd, nm, tx, ks, pl⟩ := x
  unfold pNum
  simp only
  have ht := tx_empty tx
  go_enter Tryz.func74, Tryz.ntmps74
  go_wp2
  go_ret
  exact ⟨by rw [← ht]; rfl, (Below.refl _ _).alloc (Nat.le_refl _) _⟩
set_option maxHeartbeats 1000000 in
theorem isOfNumber_any (x : Nd) (W : World) :
    Calls Tryz.prog 73 #[.agg #[.int .i64 x.kind, .int .i64 x.num, .string x.text, .int .i64 x.kids, .int .i64 x.place]] W fun e w' => e = .returned (.bool (pNumb x)) ∧ Below W.heap.size W w' := by
  obtain ⟨kd, nm, tx, ks, pl⟩ := x
  unfold pNumb
  simp only
  have ht := tx_empty tx
  by_cases hn : nm > 0
  · have t : decide (nm > 0) = true := decide_eq_true hn
    go_enter Tryz.func73, Tryz.ntmps73
    go_wp2
    go_ret
    exact ⟨by rw [← ht, t]; rfl, (Below.refl _ _).alloc (Nat.le_refl _) _⟩
  · have t : decide (nm > 0) = false := decide_eq_false hn
    go_enter Tryz.func73, Tryz.ntmps73
    go_wp2
    go_ret
    exact ⟨by first | (rw [t]; rfl) | rfl, (Below.refl _ _).alloc (Nat.le_refl _) _⟩
set_option maxHeartbeats 1000000 in
theorem isGivenNumber_any (x : Nd) (W : World) :
    Calls Tryz.prog 76 #[.agg #[.int .i64 x.kind, .int .i64 x.num, .string x.text, .int .i64 x.kids, .int .i64 x.place]] W fun e w' => e = .returned (.bool (pGiven x)) ∧ Below W.heap.size W w' := by
  obtain ⟨kd, nm, tx, ks, pl⟩ := x
  unfold pGiven
  simp only
  have ht := tx_empty tx
  by_cases h1 : -8 ≤ nm
  · have t1 : decide (-8 ≤ nm) = true := decide_eq_true h1
    by_cases h2 : nm ≤ -1
    · have t2 : decide (nm ≤ -1) = true := decide_eq_true h2
      go_enter Tryz.func76, Tryz.ntmps76
      go_wp2
      go_ret
      exact ⟨by rw [← ht, t1, t2]; rfl, (Below.refl _ _).alloc (Nat.le_refl _) _⟩
    · have t2 : decide (nm ≤ -1) = false := decide_eq_false h2
      go_enter Tryz.func76, Tryz.ntmps76
      go_wp2
      go_ret
      exact ⟨by first | (rw [t1, t2]; rfl) | rfl, (Below.refl _ _).alloc (Nat.le_refl _) _⟩
  · have t1 : decide (-8 ≤ nm) = false := decide_eq_false h1
    go_enter Tryz.func76, Tryz.ntmps76
    go_wp2
    go_ret
    exact ⟨by first | (rw [t1]; rfl) | rfl, (Below.refl _ _).alloc (Nat.le_refl _) _⟩
set_option maxHeartbeats 1000000 in
theorem isFailure_any (x : Nd) (W : World) :
    Calls Tryz.prog 79 #[.agg #[.int .i64 x.kind, .int .i64 x.num, .string x.text, .int .i64 x.kids, .int .i64 x.place]] W fun e w' => e = .returned (.bool (pFail x)) ∧ Below W.heap.size W w' := by
  obtain ⟨kd, nm, tx, ks, pl⟩ := x
  unfold pFail
  simp only
  cases hn : (nm == 0)
  · go_enter Tryz.func79, Tryz.ntmps79
    go_wp2
    go_ret
    exact ⟨rfl, (Below.refl _ _).alloc (Nat.le_refl _) _⟩
  · cases h1 : (tx.toList == [77, 97, 116, 99, 104])
    · go_enter Tryz.func79, Tryz.ntmps79
      go_wp2
      go_ret
      exact ⟨rfl, (Below.refl _ _).alloc (Nat.le_refl _) _⟩
    · go_enter Tryz.func79, Tryz.ntmps79
      go_wp2
      go_ret
      exact ⟨rfl, (Below.refl _ _).alloc (Nat.le_refl _) _⟩
set_option maxHeartbeats 1000000 in
theorem isUnary_any (x : Nd) (W : World) :
    Calls Tryz.prog 82 #[.agg #[.int .i64 x.kind, .int .i64 x.num, .string x.text, .int .i64 x.kids, .int .i64 x.place]] W fun e w' => e = .returned (.bool (pUn x)) ∧ Below W.heap.size W w' := by
  obtain ⟨kd, nm, tx, ks, pl⟩ := x
  unfold pUn
  simp only
  cases hn : (nm == 0)
  · go_enter Tryz.func82, Tryz.ntmps82
    go_wp2
    go_ret
    exact ⟨rfl, (Below.refl _ _).alloc (Nat.le_refl _) _⟩
  · cases h1 : (tx.toList == [126])
    · go_enter Tryz.func82, Tryz.ntmps82
      go_wp2
      go_ret
      exact ⟨rfl, (Below.refl _ _).alloc (Nat.le_refl _) _⟩
    · go_enter Tryz.func82, Tryz.ntmps82
      go_wp2
      go_ret
      exact ⟨rfl, (Below.refl _ _).alloc (Nat.le_refl _) _⟩
set_option maxHeartbeats 4000000 in
theorem isBinary_any (x : Nd) (W : World) :
    Calls Tryz.prog 81 #[.agg #[.int .i64 x.kind, .int .i64 x.num, .string x.text, .int .i64 x.kids, .int .i64 x.place]] W fun e w' => e = .returned (.bool (pBin x)) ∧ Below W.heap.size W w' := by
  obtain ⟨kd, nm, tx, ks, pl⟩ := x
  have HV : Hid (pBin ⟨kd, nm, tx, ks, pl⟩ = (nm == 0 && opsL.any (fun o => tx.toList == o))) := rfl
  simp only [opsL, List.any_cons, List.any_nil] at HV
  cases h0 : (tx.toList == [58, 61])
  rotate_left
  · rw [h0] at HV
    simp only [Bool.true_or, Bool.and_true] at HV
    go_enter Tryz.func81, Tryz.ntmps81
    go_wp2
    go_ret
    exact ⟨by rw [HV.out]; rfl, (Below.refl _ _).alloc (Nat.le_refl _) _⟩
  rw [h0] at HV
  cases h1 : (tx.toList == [61])
  rotate_left
  · rw [h1] at HV
    simp only [Bool.or_true, Bool.true_or, Bool.and_true] at HV
    go_enter Tryz.func81, Tryz.ntmps81
    go_wp2
    go_ret
    exact ⟨by rw [HV.out]; rfl, (Below.refl _ _).alloc (Nat.le_refl _) _⟩
  rw [h1] at HV
  cases h2 : (tx.toList == [60, 62])
  rotate_left
  · rw [h2] at HV
    simp only [Bool.or_true, Bool.true_or, Bool.and_true] at HV
    go_enter Tryz.func81, Tryz.ntmps81
    go_wp2
    go_ret
    exact ⟨by rw [HV.out]; rfl, (Below.refl _ _).alloc (Nat.le_refl _) _⟩
  rw [h2] at HV
  cases h3 : (tx.toList == [60])
  rotate_left
  · rw [h3] at HV
    simp only [Bool.or_true, Bool.true_or, Bool.and_true] at HV
    go_enter Tryz.func81, Tryz.ntmps81
    go_wp2
    go_ret
    exact ⟨by rw [HV.out]; rfl, (Below.refl _ _).alloc (Nat.le_refl _) _⟩
  rw [h3] at HV
  cases h4 : (tx.toList == [60, 61])
  rotate_left
  · rw [h4] at HV
    simp only [Bool.or_true, Bool.true_or, Bool.and_true] at HV
    go_enter Tryz.func81, Tryz.ntmps81
    go_wp2
    go_ret
    exact ⟨by rw [HV.out]; rfl, (Below.refl _ _).alloc (Nat.le_refl _) _⟩
  rw [h4] at HV
  cases h5 : (tx.toList == [62])
  rotate_left
  · rw [h5] at HV
    simp only [Bool.or_true, Bool.true_or, Bool.and_true] at HV
    go_enter Tryz.func81, Tryz.ntmps81
    go_wp2
    go_ret
    exact ⟨by rw [HV.out]; rfl, (Below.refl _ _).alloc (Nat.le_refl _) _⟩
  rw [h5] at HV
  cases h6 : (tx.toList == [62, 61])
  rotate_left
  · rw [h6] at HV
    simp only [Bool.or_true, Bool.true_or, Bool.and_true] at HV
    go_enter Tryz.func81, Tryz.ntmps81
    go_wp2
    go_ret
    exact ⟨by rw [HV.out]; rfl, (Below.refl _ _).alloc (Nat.le_refl _) _⟩
  rw [h6] at HV
  cases h7 : (tx.toList == [94])
  rotate_left
  · rw [h7] at HV
    simp only [Bool.or_true, Bool.true_or, Bool.and_true] at HV
    go_enter Tryz.func81, Tryz.ntmps81
    go_wp2
    go_ret
    exact ⟨by rw [HV.out]; rfl, (Below.refl _ _).alloc (Nat.le_refl _) _⟩
  rw [h7] at HV
  cases h8 : (tx.toList == [43])
  rotate_left
  · rw [h8] at HV
    simp only [Bool.or_true, Bool.true_or, Bool.and_true] at HV
    go_enter Tryz.func81, Tryz.ntmps81
    go_wp2
    go_ret
    exact ⟨by rw [HV.out]; rfl, (Below.refl _ _).alloc (Nat.le_refl _) _⟩
  rw [h8] at HV
  cases h9 : (tx.toList == [45])
  rotate_left
  · rw [h9] at HV
    simp only [Bool.or_true, Bool.true_or, Bool.and_true] at HV
    go_enter Tryz.func81, Tryz.ntmps81
    go_wp2
    go_ret
    exact ⟨by rw [HV.out]; rfl, (Below.refl _ _).alloc (Nat.le_refl _) _⟩
  rw [h9] at HV
  cases h10 : (tx.toList == [42])
  rotate_left
  · rw [h10] at HV
    simp only [Bool.or_true, Bool.true_or, Bool.and_true] at HV
    go_enter Tryz.func81, Tryz.ntmps81
    go_wp2
    go_ret
    exact ⟨by rw [HV.out]; rfl, (Below.refl _ _).alloc (Nat.le_refl _) _⟩
  rw [h10] at HV
  cases h11 : (tx.toList == [47])
  rotate_left
  · rw [h11] at HV
    simp only [Bool.or_true, Bool.true_or, Bool.and_true] at HV
    go_enter Tryz.func81, Tryz.ntmps81
    go_wp2
    go_ret
    exact ⟨by rw [HV.out]; rfl, (Below.refl _ _).alloc (Nat.le_refl _) _⟩
  rw [h11] at HV
  cases h12 : (tx.toList == [37])
  rotate_left
  · rw [h12] at HV
    simp only [Bool.or_true, Bool.true_or, Bool.and_true] at HV
    go_enter Tryz.func81, Tryz.ntmps81
    go_wp2
    go_ret
    exact ⟨by rw [HV.out]; rfl, (Below.refl _ _).alloc (Nat.le_refl _) _⟩
  rw [h12] at HV
  simp only [Bool.or_false, Bool.and_false] at HV
  go_enter Tryz.func81, Tryz.ntmps81
  go_wp2
  go_ret
  exact ⟨by rw [HV.out]; rfl, (Below.refl _ _).alloc (Nat.le_refl _) _⟩
set_option maxHeartbeats 1000000 in
theorem isCode_any (x : Nd) (W : World) :
    Calls Tryz.prog 34 #[.agg #[.int .i64 x.kind, .int .i64 x.num, .string x.text, .int .i64 x.kids, .int .i64 x.place]] W fun e w' => e = .returned (.bool (pCode x)) ∧ Below W.heap.size W w' := by
  obtain ⟨kd, nm, tx, ks, pl⟩ := x
  unfold pCode
  simp only
  by_cases h1 : 70 ≤ kd
  · have t1 : decide (70 ≤ kd) = true := decide_eq_true h1
    by_cases h2 : kd ≤ 89
    · have t2 : decide (kd ≤ 89) = true := decide_eq_true h2
      cases h3 : (kd != 82)
      · go_enter Tryz.func34, Tryz.ntmps34
        go_wp2
        go_ret
        exact ⟨by simp, (Below.refl _ _).alloc (Nat.le_refl _) _⟩
      · go_enter Tryz.func34, Tryz.ntmps34
        go_wp2
        go_ret
        exact ⟨by simp [t1, t2], (Below.refl _ _).alloc (Nat.le_refl _) _⟩
    · have t2 : decide (kd ≤ 89) = false := decide_eq_false h2
      go_enter Tryz.func34, Tryz.ntmps34
      go_wp2
      go_ret
      exact ⟨by simp, (Below.refl _ _).alloc (Nat.le_refl _) _⟩
  · have t1 : decide (70 ≤ kd) = false := decide_eq_false h1
    go_enter Tryz.func34, Tryz.ntmps34
    go_wp2
    go_ret
    exact ⟨by simp, (Below.refl _ _).alloc (Nat.le_refl _) _⟩
set_option maxHeartbeats 1000000 in
theorem ofKind1_any (x : Nd) (k : Int) (b : Nat) (W : World) (hc : W.cell? ⟨b, 0, none⟩ = some (.int .i64 k)) :
    Calls Tryz.prog 94 #[.agg #[.int .i64 x.kind, .int .i64 x.num, .string x.text, .int .i64 x.kids, .int .i64 x.place], .pointer (some ⟨b, 0, none⟩)] W fun e w' => e = .returned (.bool (pKind k x)) ∧ Below W.heap.size W w' := by
  obtain ⟨kd, nm, tx, ks, pl⟩ := x
  unfold pKind
  have hl := lt_of_cell hc
  simp only at hl
  go_enter Tryz.func94, Tryz.ntmps94
  go_wp2
  go_ret
  exact ⟨rfl, (Below.refl _ _).alloc (Nat.le_refl _) _⟩
set_option maxHeartbeats 1000000 in
theorem isCodeType_any (x : Nd) (W : World) :
    Calls Tryz.prog 66 #[.agg #[.int .i64 x.kind, .int .i64 x.num, .string x.text, .int .i64 x.kids, .int .i64 x.place]] W fun e w' => e = .returned (.bool (pType x)) ∧ Below W.heap.size W w' := by
  obtain ⟨kd, nm, tx, ks, pl⟩ := x
  unfold pType
  simp only
  by_cases h : kd = 12 ∨ kd = 13 ∨ kd = 14 ∨ kd = 60
  · rcases h with rfl | rfl | rfl | rfl
    all_goals
      go_enter Tryz.func66, Tryz.ntmps66
      go_wp2
      go_ret
      exact ⟨rfl, (Below.refl _ _).alloc (Nat.le_refl _) _⟩
  · have u1 : (kd == 12) = false := by simp; omega
    have u2 : (kd == 13) = false := by simp; omega
    have u3 : (kd == 14) = false := by simp; omega
    have u4 : (kd == 60) = false := by simp; omega
    go_enter Tryz.func66, Tryz.ntmps66
    go_wp2
    go_ret
    exact ⟨by simp [u1, u2, u3, u4], (Below.refl _ _).alloc (Nat.le_refl _) _⟩
set_option maxHeartbeats 1000000 in
theorem isCodePat_any (x : Nd) (W : World) :
    Calls Tryz.prog 51 #[.agg #[.int .i64 x.kind, .int .i64 x.num, .string x.text, .int .i64 x.kids, .int .i64 x.place]] W fun e w' => e = .returned (.bool (pPat x)) ∧ Below W.heap.size W w' := by
  obtain ⟨kd, nm, tx, ks, pl⟩ := x
  unfold pPat
  simp only
  by_cases h : kd = 90 ∨ kd = 91 ∨ kd = 15 ∨ kd = 17 ∨ kd = 18 ∨ kd = 19 ∨ kd = 20
  · rcases h with rfl | rfl | rfl | rfl | rfl | rfl | rfl
    all_goals
      go_enter Tryz.func51, Tryz.ntmps51
      go_wp2
      go_ret
      exact ⟨rfl, (Below.refl _ _).alloc (Nat.le_refl _) _⟩
  · have u1 : (kd == 90) = false := by simp; omega
    have u2 : (kd == 91) = false := by simp; omega
    have u3 : (kd == 15) = false := by simp; omega
    have u4 : (kd == 17) = false := by simp; omega
    have u5 : (kd == 18) = false := by simp; omega
    have u6 : (kd == 19) = false := by simp; omega
    have u7 : (kd == 20) = false := by simp; omega
    go_enter Tryz.func51, Tryz.ntmps51
    go_wp2
    go_ret
    exact ⟨by simp [u1, u2, u3, u4, u5, u6, u7], (Below.refl _ _).alloc (Nat.le_refl _) _⟩
set_option maxHeartbeats 1000000 in
theorem isScheme_any (x : Nd) (W : World) :
    Calls Tryz.prog 67 #[.agg #[.int .i64 x.kind, .int .i64 x.num, .string x.text, .int .i64 x.kids, .int .i64 x.place]] W fun e w' => e = .returned (.bool (pScheme x)) ∧ Below W.heap.size W w' := by
  have HC := isCodeType_any x
  unfold pScheme
  obtain ⟨z, hz⟩ : ∃ z, pType x = z := ⟨_, rfl⟩
  rw [hz] at HC ⊢
  obtain ⟨kd, nm, tx, ks, pl⟩ := x
  simp only at HC ⊢
  have hb0 : Below W.heap.size W (W.alloc (Obj.cells #[.int .i64 kd, .int .i64 nm, .string tx, .int .i64 ks, .int .i64 pl] 34)) := (Below.refl _ _).alloc (Nat.le_refl _) _
  clear hz
  cases h : (kd == 62)
  · go_enter Tryz.func67, Tryz.ntmps67
    go_wp2_with fail
    refine (HC _).mono ?_
    rintro e w1 ⟨rfl, hb1⟩
    have hbb := Below.step hb0 hb1
    clear hb0 hb1 HC
    go_wp2
    go_ret
    exact ⟨rfl, hbb⟩
  · go_enter Tryz.func67, Tryz.ntmps67
    go_wp2
    go_ret
    exact ⟨rfl, hb0⟩
end Go.Proofs.YtemancdlnakkmaaGreat
