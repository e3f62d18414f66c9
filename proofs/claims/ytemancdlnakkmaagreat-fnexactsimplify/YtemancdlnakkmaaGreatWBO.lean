import Derived.Test.YtemancdlnakkmaaGreatWBN
import Derived.Test.YtemancdlnakkmaaGreatWAL
namespace Go.Proofs.YtemancdlnakkmaaGreat
open Go.RowKit
def holdsB (l : List UInt8) (a b : Int) : Bool := if l = [60] then decide (a < b) else if l = [60, 61] then decide (a ≤ b) else if l = [62] then decide (a > b) else decide (a ≥ b)
set_option maxHeartbeats 1000000 in
theorem holds_any (op : ByteArray) (l : List UInt8) (h : (op = ⟨#[60]⟩ ∧ l = [60]) ∨ (op = ⟨#[60, 61]⟩ ∧ l = [60, 61]) ∨ (op = ⟨#[62]⟩ ∧ l = [62]) ∨ (op = ⟨#[62, 61]⟩ ∧ l = [62, 61])) (a b : Int) (w : World) :
    Calls Tryz.prog 115 #[.string op, .int .i64 a, .int .i64 b] w fun e w' => e = .returned (.bool (holdsB l a b)) ∧ Below w.heap.size w w' := by
  have hbr := Below.refl w.heap.size w
  rcases h with ⟨rfl, rfl⟩ | ⟨rfl, rfl⟩ | ⟨rfl, rfl⟩ | ⟨rfl, rfl⟩
  all_goals
    go_enter Tryz.func115, Tryz.ntmps115
    go_wp2
    go_ret
    exact ⟨rfl, hbr⟩
theorem fmt2_any (b : Bool) (w : World) : Calls Tryz.prog 123 #[.bool b] w fun e w' => e = .returned (.string (boolT b)) ∧ Below w.heap.size w w' := by
  have hbr := Below.refl w.heap.size w
  cases b
  all_goals
    go_enter Tryz.func123, Tryz.ntmps123
    go_wp2
    go_ret
    exact ⟨rfl, hbr⟩
theorem fmt_any (b : Bool) (w : World) : Calls Tryz.prog 114 #[.bool b] w fun e w' => e = .returned (.string (boolT b)) ∧ Below w.heap.size w w' := by
  have h := fmt2_any b w
  go_enter Tryz.func114, Tryz.ntmps114
  go_wp2_with fail
  refine h.mono ?_
  rintro e w1 ⟨rfl, hb1⟩
  clear h
  go_wp2
  go_ret
  exact ⟨rfl, hb1⟩
def calcI (l : List UInt8) (a b : Int) : Int := if l = [43] then wrap64 (a + b) else if l = [45] then wrap64 (a - b) else if l = [42] then wrap64 (a * b) else if l = [47] then wrap64 (a.tdiv b) else a.tmod b
set_option maxRecDepth 20000 in
set_option maxHeartbeats 1000000 in
theorem calc_any (op : ByteArray) (l : List UInt8) (h : (op = ⟨#[43]⟩ ∧ l = [43]) ∨ (op = ⟨#[45]⟩ ∧ l = [45]) ∨ (op = ⟨#[42]⟩ ∧ l = [42]) ∨ (op = ⟨#[47]⟩ ∧ l = [47]) ∨ (op = ⟨#[37]⟩ ∧ l = [37])) (a b : Int) (hb0 : l = [47] ∨ l = [37] → b ≠ 0) (w : World) :
    Calls Tryz.prog 116 #[.string op, .int .i64 a, .int .i64 b] w fun e w' => e = .returned (.int .i64 (calcI l a b)) ∧ Below w.heap.size w w' := by
  have hbr := Below.refl w.heap.size w
  rcases h with ⟨rfl, rfl⟩ | ⟨rfl, rfl⟩ | ⟨rfl, rfl⟩ | ⟨rfl, rfl⟩ | ⟨rfl, rfl⟩
  · clear hb0
    go_enter Tryz.func116, Tryz.ntmps116
    go_wp2
    go_ret
    exact ⟨rfl, hbr⟩
  · clear hb0
    go_enter Tryz.func116, Tryz.ntmps116
    go_wp2
    go_ret
    exact ⟨rfl, hbr⟩
  · clear hb0
    go_enter Tryz.func116, Tryz.ntmps116
    go_wp2
    go_ret
    exact ⟨rfl, hbr⟩
  · have h0 : b ≠ 0 := hb0 (.inl rfl)
    have t0 : (b == 0) = false := by simpa using h0
    clear hb0
    go_enter Tryz.func116, Tryz.ntmps116
    go_wp2
    go_ret
    exact ⟨rfl, hbr⟩
  · have h0 : b ≠ 0 := hb0 (.inr rfl)
    have t0 : (b == 0) = false := by simpa using h0
    clear hb0
    go_enter Tryz.func116, Tryz.ntmps116
    go_wp2
    go_ret
    exact ⟨rfl, hbr⟩
def OptP (w : World) (A : Nat → Prop) (o : Option Tre) (e : Ending) (w' : World) : Prop :=
  Below w.heap.size w w' ∧ match o with
    | none => e = .returned (.pointer none)
    | some R => ∃ b, e = .returned (.pointer (some ⟨b, 0, none⟩)) ∧ PRep w' A R b
theorem newLeaf_any (kd nm : Int) (tx : ByteArray) (A : Nat → Prop) (w : World) (hA : ∀ q, w.heap.size ≤ q → A q) :
    Calls Tryz.prog 55 #[.agg #[.int .i64 kd, .int .i64 nm, .string tx, .int .i64 0, .int .i64 0], .slice none 0 0] w fun e w' => ∃ b, e = .returned (.pointer (some ⟨b, 0, none⟩)) ∧ PRep w' A (leafT kd nm tx) b ∧ Below w.heap.size w w' ∧ w.heap.size ≤ b :=
  newP_any ⟨kd, nm, tx, 0, 0⟩ [] (none, 0, 0) A w (PKids.nil w A) hA
set_option maxRecDepth 20000 in
set_option maxHeartbeats 1000000 in
theorem computeText_any (a b : ByteArray) (ha : a.size ≤ 1048576) (hb : b.size ≤ 1048576) (A : Nat → Prop) (w : World) (hA : ∀ q, w.heap.size ≤ q → A q) :
    Calls Tryz.prog 103 #[.string a, .string b] w fun e w' => OptP w A (if a.size + b.size ≤ 1000 then some (leafT 73 0 (a ++ b)) else none) e w' := by
  have hs : ¬ (9223372036854775807 < a.size + b.size) := by omega
  by_cases h : a.size + b.size ≤ 1000
  · have hL := newLeaf_any 73 0 (a ++ b) A w hA
    have t1 : decide (1000 < (a.size : Int) + (b.size : Int)) = false := by simp; omega
    have hw : wrap64 ((a.size : Int) + (b.size : Int)) = (a.size : Int) + (b.size : Int) := by unfold wrap64; omega
    rw [if_pos h]
    go_enter Tryz.func103, Tryz.ntmps103
    go_wp2_with fail
    refine hL.mono ?_
    rintro e w1 ⟨b9, rfl, hr, hb1, -⟩
    have HR : Hid _ := hr
    clear hL hr
    go_wp2
    go_ret
    exact ⟨hb1, b9, rfl, HR.out⟩
  · have t1 : decide (1000 < (a.size : Int) + (b.size : Int)) = true := by simp; omega
    have hw : wrap64 ((a.size : Int) + (b.size : Int)) = (a.size : Int) + (b.size : Int) := by unfold wrap64; omega
    have hbr := Below.refl w.heap.size w
    rw [if_neg h]
    go_enter Tryz.func103, Tryz.ntmps103
    go_wp2
    go_ret
    exact ⟨hbr, rfl⟩
theorem nine_false {op : ByteArray} (h : (nineB.any fun o => o.toList == op.toList) = false) : (op.toList == [60]) = false ∧ (op.toList == [60, 61]) = false ∧ (op.toList == [62]) = false ∧ (op.toList == [62, 61]) = false ∧ (op.toList == [47]) = false ∧ (op.toList == [37]) = false ∧ (op.toList == [43]) = false ∧ (op.toList == [45]) = false ∧ (op.toList == [42]) = false := by
  rw [nine_any] at h
  generalize op.toList = l at h ⊢
  simp at h
  obtain ⟨h1, h2, h3, h4, h5, h6, h7, h8, h9⟩ := h
  refine ⟨?_, ?_, ?_, ?_, ?_, ?_, ?_, ?_, ?_⟩ <;> (rw [beq_eq_false_iff_ne]; intro e; subst e; simp at *)
theorem nine_true {op : ByteArray} (h : (nineB.any fun o => o.toList == op.toList) = true) : (op = ⟨#[43]⟩ ∧ op.toList = [43]) ∨ (op = ⟨#[45]⟩ ∧ op.toList = [45]) ∨ (op = ⟨#[42]⟩ ∧ op.toList = [42]) ∨ (op = ⟨#[60]⟩ ∧ op.toList = [60]) ∨ (op = ⟨#[60, 61]⟩ ∧ op.toList = [60, 61]) ∨ (op = ⟨#[62]⟩ ∧ op.toList = [62]) ∨ (op = ⟨#[62, 61]⟩ ∧ op.toList = [62, 61]) ∨ (op = ⟨#[47]⟩ ∧ op.toList = [47]) ∨ (op = ⟨#[37]⟩ ∧ op.toList = [37]) := by
  rw [nine_any] at h
  simp at h
  rcases h with h | h | h | h | h | h | h | h | h
  · exact .inl ⟨of_toList h.symm, h.symm⟩
  · exact .inr (.inl ⟨of_toList h.symm, h.symm⟩)
  · exact .inr (.inr (.inl ⟨of_toList h.symm, h.symm⟩))
  · exact .inr (.inr (.inr (.inl ⟨of_toList h.symm, h.symm⟩)))
  · exact .inr (.inr (.inr (.inr (.inl ⟨of_toList h.symm, h.symm⟩))))
  · exact .inr (.inr (.inr (.inr (.inr (.inl ⟨of_toList h.symm, h.symm⟩)))))
  · exact .inr (.inr (.inr (.inr (.inr (.inr (.inl ⟨of_toList h.symm, h.symm⟩))))))
  · exact .inr (.inr (.inr (.inr (.inr (.inr (.inr (.inl ⟨of_toList h.symm, h.symm⟩)))))))
  · exact .inr (.inr (.inr (.inr (.inr (.inr (.inr (.inr (⟨of_toList h.symm, h.symm⟩))))))))
set_option maxRecDepth 20000 in
set_option maxHeartbeats 1000000 in
theorem cn_add (a b : Int) (A : Nat → Prop) (w : World) (hA : ∀ q, w.heap.size ≤ q → A q) :
    Calls Tryz.prog 102 #[.string ⟨#[43]⟩, .int .i64 a, .int .i64 b] w fun e w' => OptP w A (arithT [43] a b) e w' := by
  have HV : Hid (arithT [43] a b = some (leafT 72 (calcI [43] a b) ⟨#[]⟩)) := by rw [ar_add]; rfl
  have hC := calc_any ⟨#[43]⟩ [43] (.inl ⟨rfl, rfl⟩) a b (fun h => by rcases h with h | h <;> cases h) w
  rw [HV.out]
  obtain ⟨v, hv⟩ : ∃ v, calcI [43] a b = v := ⟨_, rfl⟩
  rw [hv] at hC ⊢
  clear hv
  go_enter Tryz.func102, Tryz.ntmps102
  go_wp2_with fail
  refine hC.mono ?_
  rintro e w1 ⟨rfl, hb1⟩
  have hL := newLeaf_any 72 v ⟨#[]⟩ A w1 (fun q hq => hA q (by have := hb1.size; omega))
  clear hC
  go_wp2_with fail
  refine hL.mono ?_
  rintro e w2 ⟨b9, rfl, hr, hb2, -⟩
  have HR : Hid _ := hr
  have hbb := Below.step hb1 hb2
  clear hL hr hb1 hb2
  go_wp2
  go_ret
  exact ⟨hbb, b9, rfl, HR.out⟩
set_option maxRecDepth 20000 in
set_option maxHeartbeats 1000000 in
theorem cn_sub (a b : Int) (A : Nat → Prop) (w : World) (hA : ∀ q, w.heap.size ≤ q → A q) :
    Calls Tryz.prog 102 #[.string ⟨#[45]⟩, .int .i64 a, .int .i64 b] w fun e w' => OptP w A (arithT [45] a b) e w' := by
  have HV : Hid (arithT [45] a b = some (leafT 72 (calcI [45] a b) ⟨#[]⟩)) := by rw [ar_sub]; rfl
  have hC := calc_any ⟨#[45]⟩ [45] (.inr (.inl ⟨rfl, rfl⟩)) a b (fun h => by rcases h with h | h <;> cases h) w
  rw [HV.out]
  obtain ⟨v, hv⟩ : ∃ v, calcI [45] a b = v := ⟨_, rfl⟩
  rw [hv] at hC ⊢
  clear hv
  go_enter Tryz.func102, Tryz.ntmps102
  go_wp2_with fail
  refine hC.mono ?_
  rintro e w1 ⟨rfl, hb1⟩
  have hL := newLeaf_any 72 v ⟨#[]⟩ A w1 (fun q hq => hA q (by have := hb1.size; omega))
  clear hC
  go_wp2_with fail
  refine hL.mono ?_
  rintro e w2 ⟨b9, rfl, hr, hb2, -⟩
  have HR : Hid _ := hr
  have hbb := Below.step hb1 hb2
  clear hL hr hb1 hb2
  go_wp2
  go_ret
  exact ⟨hbb, b9, rfl, HR.out⟩
set_option maxRecDepth 20000 in
set_option maxHeartbeats 1000000 in
theorem cn_mul (a b : Int) (A : Nat → Prop) (w : World) (hA : ∀ q, w.heap.size ≤ q → A q) :
    Calls Tryz.prog 102 #[.string ⟨#[42]⟩, .int .i64 a, .int .i64 b] w fun e w' => OptP w A (arithT [42] a b) e w' := by
  have HV : Hid (arithT [42] a b = some (leafT 72 (calcI [42] a b) ⟨#[]⟩)) := by rw [ar_mul]; rfl
  have hC := calc_any ⟨#[42]⟩ [42] (.inr (.inr (.inl ⟨rfl, rfl⟩))) a b (fun h => by rcases h with h | h <;> cases h) w
  rw [HV.out]
  obtain ⟨v, hv⟩ : ∃ v, calcI [42] a b = v := ⟨_, rfl⟩
  rw [hv] at hC ⊢
  clear hv
  go_enter Tryz.func102, Tryz.ntmps102
  go_wp2_with fail
  refine hC.mono ?_
  rintro e w1 ⟨rfl, hb1⟩
  have hL := newLeaf_any 72 v ⟨#[]⟩ A w1 (fun q hq => hA q (by have := hb1.size; omega))
  clear hC
  go_wp2_with fail
  refine hL.mono ?_
  rintro e w2 ⟨b9, rfl, hr, hb2, -⟩
  have HR : Hid _ := hr
  have hbb := Below.step hb1 hb2
  clear hL hr hb1 hb2
  go_wp2
  go_ret
  exact ⟨hbb, b9, rfl, HR.out⟩
set_option maxRecDepth 20000 in
set_option maxHeartbeats 1000000 in
theorem cn_quo (a b : Int) (h0 : b ≠ 0) (A : Nat → Prop) (w : World) (hA : ∀ q, w.heap.size ≤ q → A q) :
    Calls Tryz.prog 102 #[.string ⟨#[47]⟩, .int .i64 a, .int .i64 b] w fun e w' => OptP w A (arithT [47] a b) e w' := by
  have HV : Hid (arithT [47] a b = some (leafT 72 (calcI [47] a b) ⟨#[]⟩)) := by rw [ar_quo' a b h0, wr64]; rfl
  have hC := calc_any ⟨#[47]⟩ [47] (.inr (.inr (.inr (.inl ⟨rfl, rfl⟩)))) a b (fun _ => h0) w
  rw [HV.out]
  have t0 : (b == 0) = false := by simpa using h0
  obtain ⟨v, hv⟩ : ∃ v, calcI [47] a b = v := ⟨_, rfl⟩
  rw [hv] at hC ⊢
  clear hv
  go_enter Tryz.func102, Tryz.ntmps102
  go_wp2_with fail
  refine hC.mono ?_
  rintro e w1 ⟨rfl, hb1⟩
  have hL := newLeaf_any 72 v ⟨#[]⟩ A w1 (fun q hq => hA q (by have := hb1.size; omega))
  clear hC
  go_wp2_with fail
  refine hL.mono ?_
  rintro e w2 ⟨b9, rfl, hr, hb2, -⟩
  have HR : Hid _ := hr
  have hbb := Below.step hb1 hb2
  clear hL hr hb1 hb2
  go_wp2
  go_ret
  exact ⟨hbb, b9, rfl, HR.out⟩
set_option maxRecDepth 20000 in
set_option maxHeartbeats 1000000 in
theorem cn_rem (a b : Int) (ha : -9223372036854775808 ≤ a ∧ a ≤ 9223372036854775807) (h0 : b ≠ 0) (A : Nat → Prop) (w : World) (hA : ∀ q, w.heap.size ≤ q → A q) :
    Calls Tryz.prog 102 #[.string ⟨#[37]⟩, .int .i64 a, .int .i64 b] w fun e w' => OptP w A (arithT [37] a b) e w' := by
  have HV : Hid (arithT [37] a b = some (leafT 72 (calcI [37] a b) ⟨#[]⟩)) := by rw [ar_rem' a b ha h0]; rfl
  have hC := calc_any ⟨#[37]⟩ [37] (.inr (.inr (.inr (.inr (⟨rfl, rfl⟩))))) a b (fun _ => h0) w
  rw [HV.out]
  have t0 : (b == 0) = false := by simpa using h0
  obtain ⟨v, hv⟩ : ∃ v, calcI [37] a b = v := ⟨_, rfl⟩
  rw [hv] at hC ⊢
  clear hv ha
  go_enter Tryz.func102, Tryz.ntmps102
  go_wp2_with fail
  refine hC.mono ?_
  rintro e w1 ⟨rfl, hb1⟩
  have hL := newLeaf_any 72 v ⟨#[]⟩ A w1 (fun q hq => hA q (by have := hb1.size; omega))
  clear hC
  go_wp2_with fail
  refine hL.mono ?_
  rintro e w2 ⟨b9, rfl, hr, hb2, -⟩
  have HR : Hid _ := hr
  have hbb := Below.step hb1 hb2
  clear hL hr hb1 hb2
  go_wp2
  go_ret
  exact ⟨hbb, b9, rfl, HR.out⟩
set_option maxRecDepth 20000 in
set_option maxHeartbeats 1000000 in
theorem cn_lt (a b : Int) (A : Nat → Prop) (w : World) (hA : ∀ q, w.heap.size ≤ q → A q) :
    Calls Tryz.prog 102 #[.string ⟨#[60]⟩, .int .i64 a, .int .i64 b] w fun e w' => OptP w A (arithT [60] a b) e w' := by
  have HV : Hid (arithT [60] a b = some (leafT 74 0 (boolT (holdsB [60] a b)))) := by
    show _ = _
    simp [arithT, holdsB, truth_leaf]
  have hC := holds_any ⟨#[60]⟩ [60] (.inl ⟨rfl, rfl⟩) a b w
  rw [HV.out]
  obtain ⟨v, hv⟩ : ∃ v, holdsB [60] a b = v := ⟨_, rfl⟩
  rw [hv] at hC ⊢
  clear hv
  go_enter Tryz.func102, Tryz.ntmps102
  go_wp2_with fail
  refine hC.mono ?_
  rintro e w1 ⟨rfl, hb1⟩
  have hF := fmt_any v w1
  clear hC
  go_wp2_with fail
  refine hF.mono ?_
  rintro e w2 ⟨rfl, hb2⟩
  have hb12 := Below.step hb1 hb2
  have hL := newLeaf_any 74 0 (boolT v) A w2 (fun q hq => hA q (by have := hb12.size; omega))
  clear hF hb1 hb2
  go_wp2_with fail
  refine hL.mono ?_
  rintro e w3 ⟨b9, rfl, hr, hb3, -⟩
  have HR : Hid _ := hr
  have hbb := Below.step hb12 hb3
  clear hL hr hb12 hb3
  go_wp2
  go_ret
  exact ⟨hbb, b9, rfl, HR.out⟩
set_option maxRecDepth 20000 in
set_option maxHeartbeats 1000000 in
theorem cn_le (a b : Int) (A : Nat → Prop) (w : World) (hA : ∀ q, w.heap.size ≤ q → A q) :
    Calls Tryz.prog 102 #[.string ⟨#[60, 61]⟩, .int .i64 a, .int .i64 b] w fun e w' => OptP w A (arithT [60, 61] a b) e w' := by
  have HV : Hid (arithT [60, 61] a b = some (leafT 74 0 (boolT (holdsB [60, 61] a b)))) := by
    show _ = _
    simp [arithT, holdsB, truth_leaf]
  have hC := holds_any ⟨#[60, 61]⟩ [60, 61] (.inr (.inl ⟨rfl, rfl⟩)) a b w
  rw [HV.out]
  obtain ⟨v, hv⟩ : ∃ v, holdsB [60, 61] a b = v := ⟨_, rfl⟩
  rw [hv] at hC ⊢
  clear hv
  go_enter Tryz.func102, Tryz.ntmps102
  go_wp2_with fail
  refine hC.mono ?_
  rintro e w1 ⟨rfl, hb1⟩
  have hF := fmt_any v w1
  clear hC
  go_wp2_with fail
  refine hF.mono ?_
  rintro e w2 ⟨rfl, hb2⟩
  have hb12 := Below.step hb1 hb2
  have hL := newLeaf_any 74 0 (boolT v) A w2 (fun q hq => hA q (by have := hb12.size; omega))
  clear hF hb1 hb2
  go_wp2_with fail
  refine hL.mono ?_
  rintro e w3 ⟨b9, rfl, hr, hb3, -⟩
  have HR : Hid _ := hr
  have hbb := Below.step hb12 hb3
  clear hL hr hb12 hb3
  go_wp2
  go_ret
  exact ⟨hbb, b9, rfl, HR.out⟩
set_option maxRecDepth 20000 in
set_option maxHeartbeats 1000000 in
theorem cn_gt (a b : Int) (A : Nat → Prop) (w : World) (hA : ∀ q, w.heap.size ≤ q → A q) :
    Calls Tryz.prog 102 #[.string ⟨#[62]⟩, .int .i64 a, .int .i64 b] w fun e w' => OptP w A (arithT [62] a b) e w' := by
  have HV : Hid (arithT [62] a b = some (leafT 74 0 (boolT (holdsB [62] a b)))) := by
    show _ = _
    simp [arithT, holdsB, truth_leaf]
  have hC := holds_any ⟨#[62]⟩ [62] (.inr (.inr (.inl ⟨rfl, rfl⟩))) a b w
  rw [HV.out]
  obtain ⟨v, hv⟩ : ∃ v, holdsB [62] a b = v := ⟨_, rfl⟩
  rw [hv] at hC ⊢
  clear hv
  go_enter Tryz.func102, Tryz.ntmps102
  go_wp2_with fail
  refine hC.mono ?_
  rintro e w1 ⟨rfl, hb1⟩
  have hF := fmt_any v w1
  clear hC
  go_wp2_with fail
  refine hF.mono ?_
  rintro e w2 ⟨rfl, hb2⟩
  have hb12 := Below.step hb1 hb2
  have hL := newLeaf_any 74 0 (boolT v) A w2 (fun q hq => hA q (by have := hb12.size; omega))
  clear hF hb1 hb2
  go_wp2_with fail
  refine hL.mono ?_
  rintro e w3 ⟨b9, rfl, hr, hb3, -⟩
  have HR : Hid _ := hr
  have hbb := Below.step hb12 hb3
  clear hL hr hb12 hb3
  go_wp2
  go_ret
  exact ⟨hbb, b9, rfl, HR.out⟩
set_option maxRecDepth 20000 in
set_option maxHeartbeats 1000000 in
theorem cn_ge (a b : Int) (A : Nat → Prop) (w : World) (hA : ∀ q, w.heap.size ≤ q → A q) :
    Calls Tryz.prog 102 #[.string ⟨#[62, 61]⟩, .int .i64 a, .int .i64 b] w fun e w' => OptP w A (arithT [62, 61] a b) e w' := by
  have HV : Hid (arithT [62, 61] a b = some (leafT 74 0 (boolT (holdsB [62, 61] a b)))) := by
    show _ = _
    simp [arithT, holdsB, truth_leaf]
  have hC := holds_any ⟨#[62, 61]⟩ [62, 61] (.inr (.inr (.inr (⟨rfl, rfl⟩)))) a b w
  rw [HV.out]
  obtain ⟨v, hv⟩ : ∃ v, holdsB [62, 61] a b = v := ⟨_, rfl⟩
  rw [hv] at hC ⊢
  clear hv
  go_enter Tryz.func102, Tryz.ntmps102
  go_wp2_with fail
  refine hC.mono ?_
  rintro e w1 ⟨rfl, hb1⟩
  have hF := fmt_any v w1
  clear hC
  go_wp2_with fail
  refine hF.mono ?_
  rintro e w2 ⟨rfl, hb2⟩
  have hb12 := Below.step hb1 hb2
  have hL := newLeaf_any 74 0 (boolT v) A w2 (fun q hq => hA q (by have := hb12.size; omega))
  clear hF hb1 hb2
  go_wp2_with fail
  refine hL.mono ?_
  rintro e w3 ⟨b9, rfl, hr, hb3, -⟩
  have HR : Hid _ := hr
  have hbb := Below.step hb12 hb3
  clear hL hr hb12 hb3
  go_wp2
  go_ret
  exact ⟨hbb, b9, rfl, HR.out⟩
set_option maxRecDepth 20000 in
set_option maxHeartbeats 1000000 in
theorem cn_quo0 (a : Int) (A : Nat → Prop) (w : World) :
    Calls Tryz.prog 102 #[.string ⟨#[47]⟩, .int .i64 a, .int .i64 0] w fun e w' => OptP w A (arithT [47] a 0) e w' := by
  have HV : Hid (arithT [47] a 0 = none) := by show _ = _; simp [arithT]
  have hbr := Below.refl w.heap.size w
  rw [HV.out]
  go_enter Tryz.func102, Tryz.ntmps102
  go_wp2
  go_ret
  exact ⟨hbr, rfl⟩
set_option maxRecDepth 20000 in
set_option maxHeartbeats 1000000 in
theorem cn_rem0 (a : Int) (A : Nat → Prop) (w : World) :
    Calls Tryz.prog 102 #[.string ⟨#[37]⟩, .int .i64 a, .int .i64 0] w fun e w' => OptP w A (arithT [37] a 0) e w' := by
  have HV : Hid (arithT [37] a 0 = none) := by show _ = _; simp [arithT]
  have hbr := Below.refl w.heap.size w
  rw [HV.out]
  go_enter Tryz.func102, Tryz.ntmps102
  go_wp2
  go_ret
  exact ⟨hbr, rfl⟩
set_option maxRecDepth 20000 in
set_option maxHeartbeats 1000000 in
theorem computeNumber_any (op : ByteArray) (a b : Int) (ha : -9223372036854775808 ≤ a ∧ a ≤ 9223372036854775807) (A : Nat → Prop) (w : World) (hA : ∀ q, w.heap.size ≤ q → A q) :
    Calls Tryz.prog 102 #[.string op, .int .i64 a, .int .i64 b] w fun e w' => OptP w A (arithT op.toList a b) e w' := by
  cases hn : (nineB.any fun o => o.toList == op.toList)
  · have HV : Hid (arithT op.toList a b = none) := ar_none hn a b
    obtain ⟨t1, t2, t3, t4, t5, t6, t7, t8, t9⟩ := nine_false hn
    have hbr := Below.refl w.heap.size w
    rw [HV.out]
    clear hn ha hA
    go_enter Tryz.func102, Tryz.ntmps102
    go_wp2
    go_ret
    exact ⟨hbr, rfl⟩
  · rcases nine_true hn with ⟨rfl, hl⟩ | ⟨rfl, hl⟩ | ⟨rfl, hl⟩ | ⟨rfl, hl⟩ | ⟨rfl, hl⟩ | ⟨rfl, hl⟩ | ⟨rfl, hl⟩ | ⟨rfl, hl⟩ | ⟨rfl, hl⟩
    all_goals rw [hl]
    · exact cn_add a b A w hA
    · exact cn_sub a b A w hA
    · exact cn_mul a b A w hA
    · exact cn_lt a b A w hA
    · exact cn_le a b A w hA
    · exact cn_gt a b A w hA
    · exact cn_ge a b A w hA
    · by_cases h0 : b = 0
      · subst h0; exact cn_quo0 a A w
      · exact cn_quo a b h0 A w hA
    · by_cases h0 : b = 0
      · subst h0; exact cn_rem0 a A w
      · exact cn_rem a b ha h0 A w hA
end Go.Proofs.YtemancdlnakkmaaGreat
