import Derived.Test.YtekogjmmfhbinaaTab
import Derived.Deep.WholeRow
namespace Go.Proofs.Ytekogjmmfhbinaa

open Go.RowKit

/-- Kinds that plain code has nothing for. -/
def typB (k : Nat) : Bool := k == 12 || k == 13 || k == 14 || k == 60 || k == 62 || k == 78 || k == 79

def plainOwn (i : Nat) : Option (Nd → Bool) := if typB i then none else codeOwn i

def plainKids (i : Nat) : Nd → List Nd → Bool :=
  if i = 71 then fun _ ks => fitAll [] ks
  else if i = 74 then fun _ ks => fitAll [] ks
  else if i = 76 then fun _ ks => fitAll [pCode] ks
  else if i = 80 then fun _ ks => fitAll [pCode, pCode] ks
  else if i = 82 then fun _ ks => fitAll [pCode] ks
  else if i = 85 then fun _ ks => fitAll [pCode] ks
  else if i = 90 then fun _ ks => fitAll [] ks
  else if i = 91 then fun _ ks => fitAll [pPat] ks
  else codeKids i

set_option maxHeartbeats 2000000 in
set_option maxRecDepth 20000 in
theorem isTyping_any (k : Nat) (w : World) :
    Calls Try.prog 50 #[.int .i64 (k : Int)] w fun e w' => e = .returned (.bool (typB k)) ∧ w' = w := by
  by_cases h : k = 12 ∨ k = 13 ∨ k = 14 ∨ k = 60 ∨ k = 62 ∨ k = 78 ∨ k = 79
  · rcases h with rfl | rfl | rfl | rfl | rfl | rfl | rfl
    all_goals
      go_enter Try.func50, Try.ntmps50
      go_wp2
      go_ret
      exact ⟨rfl, rfl⟩
  · have HV : Hid (typB k = false) := by
      show typB k = false
      unfold typB
      simp
      omega
    have u1 : ((k : Int) == 12) = false := by simp; omega
    have u2 : ((k : Int) == 13) = false := by simp; omega
    have u3 : ((k : Int) == 14) = false := by simp; omega
    have u4 : ((k : Int) == 60) = false := by simp; omega
    have u5 : ((k : Int) == 62) = false := by simp; omega
    have u6 : ((k : Int) == 78) = false := by simp; omega
    have u7 : ((k : Int) == 79) = false := by simp; omega
    clear h
    go_enter Try.func50, Try.ntmps50
    go_wp2
    go_ret
    exact ⟨by rw [HV.out]; rfl, rfl⟩

/-- The table, with nothing for those of the kinds ahead of k. -/
def clr (tab : Array Value) : Nat → Array Value
  | 0 => tab
  | k + 1 => if typB k then ((clr tab k).setIfInBounds (k * 2) .nilFunc).setIfInBounds (k * 2 + 1) .nilFunc else clr tab k

theorem clr_size (tab : Array Value) (k : Nat) : (clr tab k).size = tab.size := by
  induction k with
  | zero => rfl
  | succ k ih =>
    unfold clr
    split
    · simp [ih]
    · exact ih

theorem clr_get (tab : Array Value) (hs : tab.size = 184) : ∀ k j, k ≤ 92 → j < 184 → (clr tab k)[j]? = if typB (j / 2) && decide (j / 2 < k) then some .nilFunc else tab[j]?
  | 0, j, _, _ => by simp [clr]
  | k + 1, j, hk, hj => by
    have ih := clr_get tab hs k j (by omega) hj
    have hz := clr_size tab k
    unfold clr
    by_cases ht : typB k = true
    · rw [if_pos ht]
      by_cases h1 : j / 2 = k
      · rw [h1, ht, decide_eq_true (by omega)]
        simp only [Bool.and_self, if_true]
        by_cases h2 : j = k * 2 + 1
        · subst h2
          rw [Array.getElem?_setIfInBounds_self_of_lt (by simp; omega)]
        · have h3 : j = k * 2 := by omega
          subst h3
          rw [Array.getElem?_setIfInBounds_ne (by omega), Array.getElem?_setIfInBounds_self_of_lt (by omega)]
      · rw [Array.getElem?_setIfInBounds_ne (by omega), Array.getElem?_setIfInBounds_ne (by omega), ih]
        have e : decide (j / 2 < k) = decide (j / 2 < k + 1) := by
          by_cases h4 : j / 2 < k
          · rw [decide_eq_true h4, decide_eq_true (by omega)]
          · rw [decide_eq_false h4, decide_eq_false (by omega)]
        rw [e]
    · rw [if_neg ht, ih]
      by_cases h1 : j / 2 = k
      · rw [h1]
        simp [ht]
      · have e : decide (j / 2 < k) = decide (j / 2 < k + 1) := by
          by_cases h4 : j / 2 < k
          · rw [decide_eq_true h4, decide_eq_true (by omega)]
          · rw [decide_eq_false h4, decide_eq_false (by omega)]
        rw [e]

theorem store_row {W : World} {T j : Nat} {row : Array Value} {t : TypeId} {v : Value} (h : W.heap[T]? = some (.cells row t (0, 0))) (hj : j < row.size) (hv : v.oneCell' = true) : (store ⟨T, j, none⟩ v).run Try.prog W = .ok () (W.setCell ⟨T, j, none⟩ v) := by
  rw [run_store _ _ _ _ _ hv, cell_of_row W T j row t (0, 0) h, Array.getElem?_eq_getElem hj, frozen_of_row W T j row t h]
  rfl

theorem all_set {a : Array Value} {p : Value → Bool} (h : a.all p = true) {i : Nat} {v : Value} (hv : p v = true) : (a.setIfInBounds i v).all p = true := by
  rw [Array.all_eq_true] at h ⊢
  intro j hj
  rw [Array.getElem_setIfInBounds]
  split
  · exact hv
  · exact h j (by simpa using hj)

theorem clr_one {tab : Array Value} (h : tab.all (·.oneCell') = true) (k : Nat) : (clr tab k).all (·.oneCell') = true := by
  induction k with
  | zero => exact h
  | succ k ih =>
    unfold clr
    split
    · exact all_set (all_set ih rfl) rfl
    · exact ih

theorem exec_load {P : Program} {a : Act} {o : Oper} {t : TypeId} {p : Operand} {b : Nat} {v : Value} {w : World} (ho : o.op = .load t p) (hp : a.eval p = .pointer (some ⟨b, 0, none⟩))
    (hs : (loadVar t ⟨b, 0, none⟩).run P w = .ok v w) : (execOp a.eval o).run P w = .ok (.value v) w := by
  simp [execOp, ho, hp, Instr.loadAt, Instr.sureAddr, hs, Result.andThen]

theorem TabOk.one {w : World} {tab : Array Value} {own : Nat → Option (Nd → Bool)} {kids : Nat → Nd → List Nd → Bool} (h : TabOk w tab own kids) (hs : tab.size = 184) : tab.all (·.oneCell') = true := by
  rw [Array.all_eq_true]
  intro j hj
  have hj2 : j / 2 < 92 := by omega
  have hc : j = j / 2 * 2 ∨ j = j / 2 * 2 + 1 := by omega
  have key : ∀ v, tab[j]? = some v → v.oneCell' = true → (tab[j]).oneCell' = true := by
    intro v h1 h2
    rw [Array.getElem?_eq_getElem hj] at h1
    simp only [Option.some.injEq] at h1
    rw [h1]
    exact h2
  cases ho : own (j / 2) with
  | none =>
    obtain ⟨h1, h2⟩ := h.no (j / 2) hj2 ho
    rcases hc with hc | hc
    · rw [← hc] at h1; exact key _ h1 rfl
    · rw [← hc] at h2; exact key _ h2 rfl
  | some p =>
    obtain ⟨u, v, h1, h2, ⟨_, _, hu, _⟩, ⟨_, _, hv, _⟩⟩ := h.yes (j / 2) p hj2 ho
    rcases hc with hc | hc
    · rw [← hc] at h1; exact key _ h1 (by rw [hu]; rfl)
    · rw [← hc] at h2; exact key _ h2 (by rw [hv]; rfl)

set_option maxRecDepth 100000 in
set_option maxHeartbeats 8000000 in
theorem plainDemands_any (w : World) :
    Calls Try.prog 34 #[] w fun e w' => (∃ tab : Array Value, tab.size = 184 ∧ e = .returned (.agg tab) ∧ TabOk w' tab plainOwn plainKids) ∧ Below w.heap.size w w' := by
  go_enter Try.func34, Try.ntmps34
  go_wp2_with fail
  refine (codeDemands_keep _).mono ?_
  rintro e w1 ⟨⟨tab, hts, rfl, htab⟩, hb1⟩
  have HTAB : Hid (∀ W : World, (∀ (j : Nat) (o : Obj), w1.heap[j]? = some o → w.heap.size + 1 < j → W.heap[j]? = some o) → TabOk W tab codeOwn codeKids) := by
    intro W hW
    exact htab W (fun j o h hj => hW j o h (by simpa using hj))
  have b1 := Below.step ((Below.refl w.heap.size w).alloc (Nat.le_refl _) (.cells Try.zeroCells56 56)) hb1
  have l1 : w.heap.size < w1.heap.size := by have := hb1.size; simp at this; omega
  have r1 : w1.heap[w.heap.size]? = some (.cells Try.zeroCells56 56 (0, 0)) := (hb1.block _ (by simp)).trans (heap_alloc_new _ _)
  have HR1 : Hid (w1.heap[w.heap.size]? = some (.cells Try.zeroCells56 56 (0, 0))) := r1
  have one := (htab w1 (fun _ _ h _ => h)).one hts
  clear htab hb1 r1
  go_wp2_with fail
  rw [run_storeCells_new w1 56 _ tab (by rw [hts]; kernel_rfl) (by rw [hts]; kernel_rfl) one]
  simp only [Result.andThen]
  rw [Oper.upon_skip]
  go_wp2_with fail
  have r0 : (w1.alloc (.cells tab 56)).heap[w1.heap.size]? = some (.cells (clr tab 0) 56 (0, 0)) := heap_alloc_new _ _
  have bA := (Below.refl w1.heap.size w1).alloc (Nat.le_refl _) (.cells tab 56)
  generalize w1.alloc (.cells tab 56) = W0 at r0 bA ⊢
  go_loopw [5] (fun vi wr => ∃ k : Nat, k ≤ 92 ∧ vi = .int .i64 (k : Int) ∧ wr.heap[w1.heap.size]? = some (.cells (clr tab k) 56 (0, 0)) ∧ Below w1.heap.size w1 wr) (fun vi _ => 92 - (intOf vi).toNat)
  case atStart => exact ⟨0, Nat.zero_le _, rfl, r0, bA⟩
  case round =>
    clear r0 bA
    obtain ⟨k, hk, rfl, hr, hb⟩ := hrel
    have HT := isTyping_any k
    by_cases hk9 : k < 92
    · cases ht : typB k
      · rw [ht] at HT
        have hr2 : Hid (wr.heap[w1.heap.size]? = some (.cells (clr tab (k + 1)) 56 (0, 0))) := by
          show _ = _
          rw [hr, clr, if_neg (by rw [ht]; simp)]
        clear hr
        go_wp2_with fail
        refine (HT wr).mono ?_
        rintro e w3 ⟨rfl, rfl⟩
        clear HT
        go_wp2
        go_roundw
        case rel => exact ⟨k + 1, by omega, by go_num, hr2.out, hb⟩
        case measure => simp [intOf]; omega
      · rw [ht] at HT
        have hz := clr_size tab k
        have lT : w1.heap.size < wr.heap.size := lt_of_block hr
        have hc : ∀ j, j < 184 → ∃ v, wr.cell? ⟨w1.heap.size, j, none⟩ = some v := by
          intro j hj
          rw [cell_of_row wr _ j _ 56 (0, 0) hr]
          exact ⟨_, Array.getElem?_eq_getElem (by omega)⟩
        have hf : ∀ j, wr.frozen? ⟨w1.heap.size, j, none⟩ = false := fun j => frozen_of_row wr _ j _ 56 hr
        obtain ⟨v0, hc0⟩ := hc (k * 2) (by omega)
        obtain ⟨v1, hc1⟩ := hc (k * 2 + 1) (by omega)
        have hf0 := hf (k * 2)
        have hf1 := hf (k * 2 + 1)
        have hr2 : Hid (((wr.setCell ⟨w1.heap.size, k * 2, none⟩ .nilFunc).setCell ⟨w1.heap.size, k * 2 + 1, none⟩ .nilFunc).heap[w1.heap.size]? = some (.cells (clr tab (k + 1)) 56 (0, 0))) := by
          show _ = _
          rw [clr, if_pos ht]
          exact heap_setCell_same _ _ _ _ _ _ (heap_setCell_same _ _ _ _ _ _ hr)
        have hb3 := (hb.setCell (p := ⟨w1.heap.size, k * 2, none⟩) (Nat.le_refl _) .nilFunc).setCell (p := ⟨w1.heap.size, k * 2 + 1, none⟩) (Nat.le_refl _) .nilFunc
        have hr9 : Hid (wr.heap[w1.heap.size]? = some (.cells (clr tab k) 56 (0, 0))) := hr
        clear hr hc hf
        go_wp2_with fail
        refine (HT wr).mono ?_
        rintro e w3 ⟨rfl, rfl⟩
        clear HT
        go_wp2_with fail
        rw [store_row hr9.out (by omega) rfl]
        simp only [Result.andThen]
        rw [store_row (heap_setCell_same _ _ _ _ _ _ hr9.out) (by simp; omega) rfl]
        simp only
        rw [Oper.upon_skip]
        clear hc0 hc1 hf0 hf1 hr9
        go_wp2
        go_roundw
        case rel => exact ⟨k + 1, by omega, by go_num, hr2.out, hb3⟩
        case measure => simp [intOf]; omega
    · obtain rfl : k = 92 := by omega
      clear HT
      have rz : (clr tab 92).size = 184 := by rw [clr_size]; exact hts
      obtain ⟨r0, hr0⟩ : ∃ r, clr tab 92 = r := ⟨_, rfl⟩
      rw [hr0] at hr rz
      have RZ0 : Hid (clr tab 92 = r0) := hr0
      clear hr0 hk hk9
      have q0 := hr
      have z0 := rz
      have c0 := hb
      clear hr rz hb
      have l0 : w1.heap.size < wr.heap.size := lt_of_block q0
      go_wp2_with fail
      refine (just_any none 0 0 _).mono ?_
      rintro e x1 ⟨⟨b71, rfl, n1, g1⟩, d1⟩
      have a1 : Below wr.heap.size wr x1 := d1
      have N71 : Hid (w1.heap.size < b71) := Nat.lt_of_lt_of_le l0 n1
      have G71 : Hid (x1.heap[b71]? = some (.cells #[.slice none 0 0] 93 (0, 0))) := g1
      have C1 : Hid (Below wr.heap.size wr x1) := a1
      have p1 : x1.heap[w1.heap.size]? = some (.cells r0 56 (0, 0)) := (a1.block _ l0).trans q0
      have P1 : Hid (x1.heap[w1.heap.size]? = some (.cells r0 56 (0, 0))) := p1
      have c1 : Below w1.heap.size w1 (x1.setCell ⟨w1.heap.size, 143, none⟩ (.func (.func 77) #[] #[.pointer (some ⟨b71, 0, none⟩)])) := (c0.trans (a1.mono (Nat.le_of_lt l0))).setCell (p := ⟨w1.heap.size, 143, none⟩) (Nat.le_refl _) _
      have q1 : (x1.setCell ⟨w1.heap.size, 143, none⟩ (.func (.func 77) #[] #[.pointer (some ⟨b71, 0, none⟩)])).heap[w1.heap.size]? = some (.cells (r0.setIfInBounds 143 (.func (.func 77) #[] #[.pointer (some ⟨b71, 0, none⟩)])) 56 (0, 0)) := heap_setCell_same _ _ _ _ _ _ p1
      have D1 : Hid (∀ (j : Nat) (o : Obj), x1.heap[j]? = some o → w1.heap.size < j → (x1.setCell ⟨w1.heap.size, 143, none⟩ (.func (.func 77) #[] #[.pointer (some ⟨b71, 0, none⟩)])).heap[j]? = some o) := by
        intro j o h hj
        rw [Below.heap_setCell _ _ _ _ (by show j ≠ w1.heap.size; omega)]
        exact h
      have z1 : (r0.setIfInBounds 143 (.func (.func 77) #[] #[.pointer (some ⟨b71, 0, none⟩)])).size = 184 := by rw [Array.size_setIfInBounds]; exact z0
      clear n1 g1 d1 a1 p1 q0 c0
      go_wp2_with fail
      rw [store_row P1.out (by rw [z0]; decide) rfl]
      simp only [Result.andThen]
      rw [Oper.upon_skip]
      generalize x1.setCell ⟨w1.heap.size, 143, none⟩ (.func (.func 77) #[] #[.pointer (some ⟨b71, 0, none⟩)]) = y1 at c1 q1 D1 ⊢
      obtain ⟨r1, hr9⟩ : ∃ r, r0.setIfInBounds 143 (.func (.func 77) #[] #[.pointer (some ⟨b71, 0, none⟩)]) = r := ⟨_, rfl⟩
      rw [hr9] at q1 z1
      have E1 : Hid (r0.setIfInBounds 143 (.func (.func 77) #[] #[.pointer (some ⟨b71, 0, none⟩)]) = r1) := hr9
      clear hr9
      have l1 : w1.heap.size < y1.heap.size := lt_of_block q1
      go_wp2_with fail
      refine (just_any none 0 0 _).mono ?_
      rintro e x2 ⟨⟨b74, rfl, n1, g1⟩, d1⟩
      have a1 : Below y1.heap.size y1 x2 := d1
      have N74 : Hid (w1.heap.size < b74) := Nat.lt_of_lt_of_le l1 n1
      have G74 : Hid (x2.heap[b74]? = some (.cells #[.slice none 0 0] 93 (0, 0))) := g1
      have C2 : Hid (Below y1.heap.size y1 x2) := a1
      have p1 : x2.heap[w1.heap.size]? = some (.cells r1 56 (0, 0)) := (a1.block _ l1).trans q1
      have P2 : Hid (x2.heap[w1.heap.size]? = some (.cells r1 56 (0, 0))) := p1
      have c2 : Below w1.heap.size w1 (x2.setCell ⟨w1.heap.size, 149, none⟩ (.func (.func 77) #[] #[.pointer (some ⟨b74, 0, none⟩)])) := (c1.trans (a1.mono (Nat.le_of_lt l1))).setCell (p := ⟨w1.heap.size, 149, none⟩) (Nat.le_refl _) _
      have q2 : (x2.setCell ⟨w1.heap.size, 149, none⟩ (.func (.func 77) #[] #[.pointer (some ⟨b74, 0, none⟩)])).heap[w1.heap.size]? = some (.cells (r1.setIfInBounds 149 (.func (.func 77) #[] #[.pointer (some ⟨b74, 0, none⟩)])) 56 (0, 0)) := heap_setCell_same _ _ _ _ _ _ p1
      have D2 : Hid (∀ (j : Nat) (o : Obj), x2.heap[j]? = some o → w1.heap.size < j → (x2.setCell ⟨w1.heap.size, 149, none⟩ (.func (.func 77) #[] #[.pointer (some ⟨b74, 0, none⟩)])).heap[j]? = some o) := by
        intro j o h hj
        rw [Below.heap_setCell _ _ _ _ (by show j ≠ w1.heap.size; omega)]
        exact h
      have z2 : (r1.setIfInBounds 149 (.func (.func 77) #[] #[.pointer (some ⟨b74, 0, none⟩)])).size = 184 := by rw [Array.size_setIfInBounds]; exact z1
      clear n1 g1 d1 a1 p1 q1 c1
      go_wp2_with fail
      rw [store_row P2.out (by rw [z1]; decide) rfl]
      simp only [Result.andThen]
      rw [Oper.upon_skip]
      generalize x2.setCell ⟨w1.heap.size, 149, none⟩ (.func (.func 77) #[] #[.pointer (some ⟨b74, 0, none⟩)]) = y2 at c2 q2 D2 ⊢
      obtain ⟨r2, hr9⟩ : ∃ r, r1.setIfInBounds 149 (.func (.func 77) #[] #[.pointer (some ⟨b74, 0, none⟩)]) = r := ⟨_, rfl⟩
      rw [hr9] at q2 z2
      have E2 : Hid (r1.setIfInBounds 149 (.func (.func 77) #[] #[.pointer (some ⟨b74, 0, none⟩)]) = r2) := hr9
      clear hr9
      have l2 : w1.heap.size < y2.heap.size := lt_of_block q2
      go_wp2_with fail
      refine (just_any (some ⟨y2.heap.size, 0, none⟩) 1 1 _).mono ?_
      rintro e x3 ⟨⟨b76, rfl, n1, g1⟩, d1⟩
      have a1 : Below y2.heap.size y2 x3 := (Below.alloc (Below.refl _ y2) (Nat.le_refl _) _).trans (d1.mono (by simp))
      have S76 : Hid (x3.heap[y2.heap.size]? = some (.cells #[.func (.func 35) #[] #[]] 74 (0, 0))) := (d1.block _ (by simp)).trans (heap_alloc_new _ _)
      have Y76 : Hid (w1.heap.size < y2.heap.size) := l2
      have n1 : y2.heap.size ≤ b76 := by have h9 := n1; rw [World.size_alloc] at h9; omega
      have N76 : Hid (w1.heap.size < b76) := Nat.lt_of_lt_of_le l2 n1
      have G76 : Hid (x3.heap[b76]? = some (.cells #[.slice (some ⟨y2.heap.size, 0, none⟩) 1 1] 93 (0, 0))) := g1
      have C3 : Hid (Below y2.heap.size y2 x3) := a1
      have p1 : x3.heap[w1.heap.size]? = some (.cells r2 56 (0, 0)) := (a1.block _ l2).trans q2
      have P3 : Hid (x3.heap[w1.heap.size]? = some (.cells r2 56 (0, 0))) := p1
      have c3 : Below w1.heap.size w1 (x3.setCell ⟨w1.heap.size, 153, none⟩ (.func (.func 77) #[] #[.pointer (some ⟨b76, 0, none⟩)])) := (c2.trans (a1.mono (Nat.le_of_lt l2))).setCell (p := ⟨w1.heap.size, 153, none⟩) (Nat.le_refl _) _
      have q3 : (x3.setCell ⟨w1.heap.size, 153, none⟩ (.func (.func 77) #[] #[.pointer (some ⟨b76, 0, none⟩)])).heap[w1.heap.size]? = some (.cells (r2.setIfInBounds 153 (.func (.func 77) #[] #[.pointer (some ⟨b76, 0, none⟩)])) 56 (0, 0)) := heap_setCell_same _ _ _ _ _ _ p1
      have D3 : Hid (∀ (j : Nat) (o : Obj), x3.heap[j]? = some o → w1.heap.size < j → (x3.setCell ⟨w1.heap.size, 153, none⟩ (.func (.func 77) #[] #[.pointer (some ⟨b76, 0, none⟩)])).heap[j]? = some o) := by
        intro j o h hj
        rw [Below.heap_setCell _ _ _ _ (by show j ≠ w1.heap.size; omega)]
        exact h
      have z3 : (r2.setIfInBounds 153 (.func (.func 77) #[] #[.pointer (some ⟨b76, 0, none⟩)])).size = 184 := by rw [Array.size_setIfInBounds]; exact z2
      clear n1 g1 d1 a1 p1 q2 c2
      go_wp2_with fail
      rw [store_row P3.out (by rw [z2]; decide) rfl]
      simp only [Result.andThen]
      rw [Oper.upon_skip]
      generalize x3.setCell ⟨w1.heap.size, 153, none⟩ (.func (.func 77) #[] #[.pointer (some ⟨b76, 0, none⟩)]) = y3 at c3 q3 D3 ⊢
      obtain ⟨r3, hr9⟩ : ∃ r, r2.setIfInBounds 153 (.func (.func 77) #[] #[.pointer (some ⟨b76, 0, none⟩)]) = r := ⟨_, rfl⟩
      rw [hr9] at q3 z3
      have E3 : Hid (r2.setIfInBounds 153 (.func (.func 77) #[] #[.pointer (some ⟨b76, 0, none⟩)]) = r3) := hr9
      clear hr9
      have l3 : w1.heap.size < y3.heap.size := lt_of_block q3
      go_wp2_with fail
      refine (just_any (some ⟨y3.heap.size, 0, none⟩) 2 2 _).mono ?_
      rintro e x4 ⟨⟨b80, rfl, n1, g1⟩, d1⟩
      have a1 : Below y3.heap.size y3 x4 := (Below.alloc (Below.refl _ y3) (Nat.le_refl _) _).trans (d1.mono (by simp))
      have S80 : Hid (x4.heap[y3.heap.size]? = some (.cells #[.func (.func 35) #[] #[], .func (.func 35) #[] #[]] 74 (0, 0))) := (d1.block _ (by simp)).trans (heap_alloc_new _ _)
      have Y80 : Hid (w1.heap.size < y3.heap.size) := l3
      have n1 : y3.heap.size ≤ b80 := by have h9 := n1; rw [World.size_alloc] at h9; omega
      have N80 : Hid (w1.heap.size < b80) := Nat.lt_of_lt_of_le l3 n1
      have G80 : Hid (x4.heap[b80]? = some (.cells #[.slice (some ⟨y3.heap.size, 0, none⟩) 2 2] 93 (0, 0))) := g1
      have C4 : Hid (Below y3.heap.size y3 x4) := a1
      have p1 : x4.heap[w1.heap.size]? = some (.cells r3 56 (0, 0)) := (a1.block _ l3).trans q3
      have P4 : Hid (x4.heap[w1.heap.size]? = some (.cells r3 56 (0, 0))) := p1
      have c4 : Below w1.heap.size w1 (x4.setCell ⟨w1.heap.size, 161, none⟩ (.func (.func 77) #[] #[.pointer (some ⟨b80, 0, none⟩)])) := (c3.trans (a1.mono (Nat.le_of_lt l3))).setCell (p := ⟨w1.heap.size, 161, none⟩) (Nat.le_refl _) _
      have q4 : (x4.setCell ⟨w1.heap.size, 161, none⟩ (.func (.func 77) #[] #[.pointer (some ⟨b80, 0, none⟩)])).heap[w1.heap.size]? = some (.cells (r3.setIfInBounds 161 (.func (.func 77) #[] #[.pointer (some ⟨b80, 0, none⟩)])) 56 (0, 0)) := heap_setCell_same _ _ _ _ _ _ p1
      have D4 : Hid (∀ (j : Nat) (o : Obj), x4.heap[j]? = some o → w1.heap.size < j → (x4.setCell ⟨w1.heap.size, 161, none⟩ (.func (.func 77) #[] #[.pointer (some ⟨b80, 0, none⟩)])).heap[j]? = some o) := by
        intro j o h hj
        rw [Below.heap_setCell _ _ _ _ (by show j ≠ w1.heap.size; omega)]
        exact h
      have z4 : (r3.setIfInBounds 161 (.func (.func 77) #[] #[.pointer (some ⟨b80, 0, none⟩)])).size = 184 := by rw [Array.size_setIfInBounds]; exact z3
      clear n1 g1 d1 a1 p1 q3 c3
      go_wp2_with fail
      rw [store_row P4.out (by rw [z3]; decide) rfl]
      simp only [Result.andThen]
      rw [Oper.upon_skip]
      generalize x4.setCell ⟨w1.heap.size, 161, none⟩ (.func (.func 77) #[] #[.pointer (some ⟨b80, 0, none⟩)]) = y4 at c4 q4 D4 ⊢
      obtain ⟨r4, hr9⟩ : ∃ r, r3.setIfInBounds 161 (.func (.func 77) #[] #[.pointer (some ⟨b80, 0, none⟩)]) = r := ⟨_, rfl⟩
      rw [hr9] at q4 z4
      have E4 : Hid (r3.setIfInBounds 161 (.func (.func 77) #[] #[.pointer (some ⟨b80, 0, none⟩)]) = r4) := hr9
      clear hr9
      have l4 : w1.heap.size < y4.heap.size := lt_of_block q4
      go_wp2_with fail
      refine (just_any (some ⟨y4.heap.size, 0, none⟩) 1 1 _).mono ?_
      rintro e x5 ⟨⟨b82, rfl, n1, g1⟩, d1⟩
      have a1 : Below y4.heap.size y4 x5 := (Below.alloc (Below.refl _ y4) (Nat.le_refl _) _).trans (d1.mono (by simp))
      have S82 : Hid (x5.heap[y4.heap.size]? = some (.cells #[.func (.func 35) #[] #[]] 74 (0, 0))) := (d1.block _ (by simp)).trans (heap_alloc_new _ _)
      have Y82 : Hid (w1.heap.size < y4.heap.size) := l4
      have n1 : y4.heap.size ≤ b82 := by have h9 := n1; rw [World.size_alloc] at h9; omega
      have N82 : Hid (w1.heap.size < b82) := Nat.lt_of_lt_of_le l4 n1
      have G82 : Hid (x5.heap[b82]? = some (.cells #[.slice (some ⟨y4.heap.size, 0, none⟩) 1 1] 93 (0, 0))) := g1
      have C5 : Hid (Below y4.heap.size y4 x5) := a1
      have p1 : x5.heap[w1.heap.size]? = some (.cells r4 56 (0, 0)) := (a1.block _ l4).trans q4
      have P5 : Hid (x5.heap[w1.heap.size]? = some (.cells r4 56 (0, 0))) := p1
      have c5 : Below w1.heap.size w1 (x5.setCell ⟨w1.heap.size, 165, none⟩ (.func (.func 77) #[] #[.pointer (some ⟨b82, 0, none⟩)])) := (c4.trans (a1.mono (Nat.le_of_lt l4))).setCell (p := ⟨w1.heap.size, 165, none⟩) (Nat.le_refl _) _
      have q5 : (x5.setCell ⟨w1.heap.size, 165, none⟩ (.func (.func 77) #[] #[.pointer (some ⟨b82, 0, none⟩)])).heap[w1.heap.size]? = some (.cells (r4.setIfInBounds 165 (.func (.func 77) #[] #[.pointer (some ⟨b82, 0, none⟩)])) 56 (0, 0)) := heap_setCell_same _ _ _ _ _ _ p1
      have D5 : Hid (∀ (j : Nat) (o : Obj), x5.heap[j]? = some o → w1.heap.size < j → (x5.setCell ⟨w1.heap.size, 165, none⟩ (.func (.func 77) #[] #[.pointer (some ⟨b82, 0, none⟩)])).heap[j]? = some o) := by
        intro j o h hj
        rw [Below.heap_setCell _ _ _ _ (by show j ≠ w1.heap.size; omega)]
        exact h
      have z5 : (r4.setIfInBounds 165 (.func (.func 77) #[] #[.pointer (some ⟨b82, 0, none⟩)])).size = 184 := by rw [Array.size_setIfInBounds]; exact z4
      clear n1 g1 d1 a1 p1 q4 c4
      go_wp2_with fail
      rw [store_row P5.out (by rw [z4]; decide) rfl]
      simp only [Result.andThen]
      rw [Oper.upon_skip]
      generalize x5.setCell ⟨w1.heap.size, 165, none⟩ (.func (.func 77) #[] #[.pointer (some ⟨b82, 0, none⟩)]) = y5 at c5 q5 D5 ⊢
      obtain ⟨r5, hr9⟩ : ∃ r, r4.setIfInBounds 165 (.func (.func 77) #[] #[.pointer (some ⟨b82, 0, none⟩)]) = r := ⟨_, rfl⟩
      rw [hr9] at q5 z5
      have E5 : Hid (r4.setIfInBounds 165 (.func (.func 77) #[] #[.pointer (some ⟨b82, 0, none⟩)]) = r5) := hr9
      clear hr9
      have l5 : w1.heap.size < y5.heap.size := lt_of_block q5
      go_wp2_with fail
      refine (just_any (some ⟨y5.heap.size, 0, none⟩) 1 1 _).mono ?_
      rintro e x6 ⟨⟨b85, rfl, n1, g1⟩, d1⟩
      have a1 : Below y5.heap.size y5 x6 := (Below.alloc (Below.refl _ y5) (Nat.le_refl _) _).trans (d1.mono (by simp))
      have S85 : Hid (x6.heap[y5.heap.size]? = some (.cells #[.func (.func 35) #[] #[]] 74 (0, 0))) := (d1.block _ (by simp)).trans (heap_alloc_new _ _)
      have Y85 : Hid (w1.heap.size < y5.heap.size) := l5
      have n1 : y5.heap.size ≤ b85 := by have h9 := n1; rw [World.size_alloc] at h9; omega
      have N85 : Hid (w1.heap.size < b85) := Nat.lt_of_lt_of_le l5 n1
      have G85 : Hid (x6.heap[b85]? = some (.cells #[.slice (some ⟨y5.heap.size, 0, none⟩) 1 1] 93 (0, 0))) := g1
      have C6 : Hid (Below y5.heap.size y5 x6) := a1
      have p1 : x6.heap[w1.heap.size]? = some (.cells r5 56 (0, 0)) := (a1.block _ l5).trans q5
      have P6 : Hid (x6.heap[w1.heap.size]? = some (.cells r5 56 (0, 0))) := p1
      have c6 : Below w1.heap.size w1 (x6.setCell ⟨w1.heap.size, 171, none⟩ (.func (.func 77) #[] #[.pointer (some ⟨b85, 0, none⟩)])) := (c5.trans (a1.mono (Nat.le_of_lt l5))).setCell (p := ⟨w1.heap.size, 171, none⟩) (Nat.le_refl _) _
      have q6 : (x6.setCell ⟨w1.heap.size, 171, none⟩ (.func (.func 77) #[] #[.pointer (some ⟨b85, 0, none⟩)])).heap[w1.heap.size]? = some (.cells (r5.setIfInBounds 171 (.func (.func 77) #[] #[.pointer (some ⟨b85, 0, none⟩)])) 56 (0, 0)) := heap_setCell_same _ _ _ _ _ _ p1
      have D6 : Hid (∀ (j : Nat) (o : Obj), x6.heap[j]? = some o → w1.heap.size < j → (x6.setCell ⟨w1.heap.size, 171, none⟩ (.func (.func 77) #[] #[.pointer (some ⟨b85, 0, none⟩)])).heap[j]? = some o) := by
        intro j o h hj
        rw [Below.heap_setCell _ _ _ _ (by show j ≠ w1.heap.size; omega)]
        exact h
      have z6 : (r5.setIfInBounds 171 (.func (.func 77) #[] #[.pointer (some ⟨b85, 0, none⟩)])).size = 184 := by rw [Array.size_setIfInBounds]; exact z5
      clear n1 g1 d1 a1 p1 q5 c5
      go_wp2_with fail
      rw [store_row P6.out (by rw [z5]; decide) rfl]
      simp only [Result.andThen]
      rw [Oper.upon_skip]
      generalize x6.setCell ⟨w1.heap.size, 171, none⟩ (.func (.func 77) #[] #[.pointer (some ⟨b85, 0, none⟩)]) = y6 at c6 q6 D6 ⊢
      obtain ⟨r6, hr9⟩ : ∃ r, r5.setIfInBounds 171 (.func (.func 77) #[] #[.pointer (some ⟨b85, 0, none⟩)]) = r := ⟨_, rfl⟩
      rw [hr9] at q6 z6
      have E6 : Hid (r5.setIfInBounds 171 (.func (.func 77) #[] #[.pointer (some ⟨b85, 0, none⟩)]) = r6) := hr9
      clear hr9
      have l6 : w1.heap.size < y6.heap.size := lt_of_block q6
      go_wp2_with fail
      refine (just_any none 0 0 _).mono ?_
      rintro e x7 ⟨⟨b90, rfl, n1, g1⟩, d1⟩
      have a1 : Below y6.heap.size y6 x7 := d1
      have N90 : Hid (w1.heap.size < b90) := Nat.lt_of_lt_of_le l6 n1
      have G90 : Hid (x7.heap[b90]? = some (.cells #[.slice none 0 0] 93 (0, 0))) := g1
      have C7 : Hid (Below y6.heap.size y6 x7) := a1
      have p1 : x7.heap[w1.heap.size]? = some (.cells r6 56 (0, 0)) := (a1.block _ l6).trans q6
      have P7 : Hid (x7.heap[w1.heap.size]? = some (.cells r6 56 (0, 0))) := p1
      have c7 : Below w1.heap.size w1 (x7.setCell ⟨w1.heap.size, 181, none⟩ (.func (.func 77) #[] #[.pointer (some ⟨b90, 0, none⟩)])) := (c6.trans (a1.mono (Nat.le_of_lt l6))).setCell (p := ⟨w1.heap.size, 181, none⟩) (Nat.le_refl _) _
      have q7 : (x7.setCell ⟨w1.heap.size, 181, none⟩ (.func (.func 77) #[] #[.pointer (some ⟨b90, 0, none⟩)])).heap[w1.heap.size]? = some (.cells (r6.setIfInBounds 181 (.func (.func 77) #[] #[.pointer (some ⟨b90, 0, none⟩)])) 56 (0, 0)) := heap_setCell_same _ _ _ _ _ _ p1
      have D7 : Hid (∀ (j : Nat) (o : Obj), x7.heap[j]? = some o → w1.heap.size < j → (x7.setCell ⟨w1.heap.size, 181, none⟩ (.func (.func 77) #[] #[.pointer (some ⟨b90, 0, none⟩)])).heap[j]? = some o) := by
        intro j o h hj
        rw [Below.heap_setCell _ _ _ _ (by show j ≠ w1.heap.size; omega)]
        exact h
      have z7 : (r6.setIfInBounds 181 (.func (.func 77) #[] #[.pointer (some ⟨b90, 0, none⟩)])).size = 184 := by rw [Array.size_setIfInBounds]; exact z6
      clear n1 g1 d1 a1 p1 q6 c6
      go_wp2_with fail
      rw [store_row P7.out (by rw [z6]; decide) rfl]
      simp only [Result.andThen]
      rw [Oper.upon_skip]
      generalize x7.setCell ⟨w1.heap.size, 181, none⟩ (.func (.func 77) #[] #[.pointer (some ⟨b90, 0, none⟩)]) = y7 at c7 q7 D7 ⊢
      obtain ⟨r7, hr9⟩ : ∃ r, r6.setIfInBounds 181 (.func (.func 77) #[] #[.pointer (some ⟨b90, 0, none⟩)]) = r := ⟨_, rfl⟩
      rw [hr9] at q7 z7
      have E7 : Hid (r6.setIfInBounds 181 (.func (.func 77) #[] #[.pointer (some ⟨b90, 0, none⟩)]) = r7) := hr9
      clear hr9
      have l7 : w1.heap.size < y7.heap.size := lt_of_block q7
      go_wp2_with fail
      refine (just_any (some ⟨y7.heap.size, 0, none⟩) 1 1 _).mono ?_
      rintro e x8 ⟨⟨b91, rfl, n1, g1⟩, d1⟩
      have a1 : Below y7.heap.size y7 x8 := (Below.alloc (Below.refl _ y7) (Nat.le_refl _) _).trans (d1.mono (by simp))
      have S91 : Hid (x8.heap[y7.heap.size]? = some (.cells #[.func (.func 52) #[] #[]] 74 (0, 0))) := (d1.block _ (by simp)).trans (heap_alloc_new _ _)
      have Y91 : Hid (w1.heap.size < y7.heap.size) := l7
      have n1 : y7.heap.size ≤ b91 := by have h9 := n1; rw [World.size_alloc] at h9; omega
      have N91 : Hid (w1.heap.size < b91) := Nat.lt_of_lt_of_le l7 n1
      have G91 : Hid (x8.heap[b91]? = some (.cells #[.slice (some ⟨y7.heap.size, 0, none⟩) 1 1] 93 (0, 0))) := g1
      have C8 : Hid (Below y7.heap.size y7 x8) := a1
      have p1 : x8.heap[w1.heap.size]? = some (.cells r7 56 (0, 0)) := (a1.block _ l7).trans q7
      have P8 : Hid (x8.heap[w1.heap.size]? = some (.cells r7 56 (0, 0))) := p1
      have c8 : Below w1.heap.size w1 (x8.setCell ⟨w1.heap.size, 183, none⟩ (.func (.func 77) #[] #[.pointer (some ⟨b91, 0, none⟩)])) := (c7.trans (a1.mono (Nat.le_of_lt l7))).setCell (p := ⟨w1.heap.size, 183, none⟩) (Nat.le_refl _) _
      have q8 : (x8.setCell ⟨w1.heap.size, 183, none⟩ (.func (.func 77) #[] #[.pointer (some ⟨b91, 0, none⟩)])).heap[w1.heap.size]? = some (.cells (r7.setIfInBounds 183 (.func (.func 77) #[] #[.pointer (some ⟨b91, 0, none⟩)])) 56 (0, 0)) := heap_setCell_same _ _ _ _ _ _ p1
      have D8 : Hid (∀ (j : Nat) (o : Obj), x8.heap[j]? = some o → w1.heap.size < j → (x8.setCell ⟨w1.heap.size, 183, none⟩ (.func (.func 77) #[] #[.pointer (some ⟨b91, 0, none⟩)])).heap[j]? = some o) := by
        intro j o h hj
        rw [Below.heap_setCell _ _ _ _ (by show j ≠ w1.heap.size; omega)]
        exact h
      have z8 : (r7.setIfInBounds 183 (.func (.func 77) #[] #[.pointer (some ⟨b91, 0, none⟩)])).size = 184 := by rw [Array.size_setIfInBounds]; exact z7
      clear n1 g1 d1 a1 p1 q7 c7
      go_wp2_with fail
      rw [store_row P8.out (by rw [z7]; decide) rfl]
      simp only [Result.andThen]
      rw [Oper.upon_skip]
      generalize x8.setCell ⟨w1.heap.size, 183, none⟩ (.func (.func 77) #[] #[.pointer (some ⟨b91, 0, none⟩)]) = y8 at c8 q8 D8 ⊢
      obtain ⟨r8, hr9⟩ : ∃ r, r7.setIfInBounds 183 (.func (.func 77) #[] #[.pointer (some ⟨b91, 0, none⟩)]) = r := ⟨_, rfl⟩
      rw [hr9] at q8 z8
      have E8 : Hid (r7.setIfInBounds 183 (.func (.func 77) #[] #[.pointer (some ⟨b91, 0, none⟩)]) = r8) := hr9
      clear hr9
      have l8 : w1.heap.size < y8.heap.size := lt_of_block q8
      go_wp2_with fail
      have hld : (loadVar 56 ⟨w1.heap.size, 0, none⟩).run Try.prog y8 = .ok (.agg r8) y8 := run_loadVar_row _ _ _ _ _ _ _ q8 Try.underlying56 rfl (by rw [z8]; kernel_rfl)
      unfold Oper.wp
      rw [exec_load (b := w1.heap.size) (v := .agg r8) rfl rfl hld]
      rw [Oper.upon_value]
      clear hld
      have o0 : r0.all (·.oneCell') = true := by rw [← RZ0.out]; exact clr_one one 92
      have o8 : r8.all (·.oneCell') = true := by
        rw [← E8.out, ← E7.out, ← E6.out, ← E5.out, ← E4.out, ← E3.out, ← E2.out, ← E1.out]
        exact all_set (all_set (all_set (all_set (all_set (all_set (all_set (all_set o0 rfl) rfl) rfl) rfl) rfl) rfl) rfl) rfl
      have hres : y8.heap[w.heap.size]? = some (.cells Try.zeroCells56 56 (0, 0)) := (c8.block _ (lt_of_block HR1.out)).trans HR1.out
      have hst := run_storeCells_from (P := Try.prog) w.heap.size 56 r8.toList 0 _ y8 hres (by rw [Nat.zero_add, Array.length_toList, z8]; kernel_rfl) (fun v hv => (Array.all_eq_true_iff_forall_mem.1 o8) v (by simpa using hv))
      have hst2 : (storeCells ⟨w.heap.size, 0, none⟩ r8.toList).run Try.prog y8 = .ok () (y8.setRow w.heap.size r8) := by simpa using hst
      have HST : Hid ((storeCells ⟨w.heap.size, 0, none⟩ r8.toList).run Try.prog y8 = .ok () (y8.setRow w.heap.size r8)) := hst2
      have HRES : Hid (y8.heap[w.heap.size]? = some (.cells Try.zeroCells56 56 (0, 0))) := hres
      clear hst hst2 hres o0 o8
      go_wp2_with fail
      rw [HST.out]
      simp only [Result.andThen]
      rw [Oper.upon_skip]
      clear HST
      have b8 : Below w.heap.size w y8 := b1.trans (c8.mono b1.size)
      obtain ⟨wF, hwF⟩ : ∃ wF, y8.setRow w.heap.size r8 = wF := ⟨_, rfl⟩
      have hF0 : wF.heap[w.heap.size]? = some (.cells r8 56 (0, 0)) := by rw [← hwF]; exact setRow_same HRES.out
      have hFB : Below w.heap.size w wF := by rw [← hwF]; exact setRow_below b8 (Nat.le_refl _)
      have T8 : ∀ (j : Nat) (o : Obj), y8.heap[j]? = some o → w.heap.size < j → wF.heap[j]? = some o := by
        intro j o h hj
        rw [← hwF]
        exact (setRow_other (by omega)).trans h
      have hw1 : w.heap.size < w1.heap.size := lt_of_block HR1.out
      have TW := HTAB.out wF (fun j o h hj => T8 j o ((c8.block j (lt_of_block h)).trans h) (by omega))
      have U8 : ∀ (j : Nat) (o : Obj), x8.heap[j]? = some o → w1.heap.size < j → wF.heap[j]? = some o := fun j o h hj => T8 j o (D8.out j o h hj) (by omega)
      have U7 : ∀ (j : Nat) (o : Obj), x7.heap[j]? = some o → w1.heap.size < j → wF.heap[j]? = some o := fun j o h hj => U8 j o ((C8.out.block j (lt_of_block (D7.out j o h hj))).trans (D7.out j o h hj)) hj
      have U6 : ∀ (j : Nat) (o : Obj), x6.heap[j]? = some o → w1.heap.size < j → wF.heap[j]? = some o := fun j o h hj => U7 j o ((C7.out.block j (lt_of_block (D6.out j o h hj))).trans (D6.out j o h hj)) hj
      have U5 : ∀ (j : Nat) (o : Obj), x5.heap[j]? = some o → w1.heap.size < j → wF.heap[j]? = some o := fun j o h hj => U6 j o ((C6.out.block j (lt_of_block (D5.out j o h hj))).trans (D5.out j o h hj)) hj
      have U4 : ∀ (j : Nat) (o : Obj), x4.heap[j]? = some o → w1.heap.size < j → wF.heap[j]? = some o := fun j o h hj => U5 j o ((C5.out.block j (lt_of_block (D4.out j o h hj))).trans (D4.out j o h hj)) hj
      have U3 : ∀ (j : Nat) (o : Obj), x3.heap[j]? = some o → w1.heap.size < j → wF.heap[j]? = some o := fun j o h hj => U4 j o ((C4.out.block j (lt_of_block (D3.out j o h hj))).trans (D3.out j o h hj)) hj
      have U2 : ∀ (j : Nat) (o : Obj), x2.heap[j]? = some o → w1.heap.size < j → wF.heap[j]? = some o := fun j o h hj => U3 j o ((C3.out.block j (lt_of_block (D2.out j o h hj))).trans (D2.out j o h hj)) hj
      have U1 : ∀ (j : Nat) (o : Obj), x1.heap[j]? = some o → w1.heap.size < j → wF.heap[j]? = some o := fun j o h hj => U2 j o ((C2.out.block j (lt_of_block (D1.out j o h hj))).trans (D1.out j o h hj)) hj
      have rg : ∀ j, j ≠ 143 → j ≠ 149 → j ≠ 153 → j ≠ 161 → j ≠ 165 → j ≠ 171 → j ≠ 181 → j ≠ 183 → r8[j]? = r0[j]? := by
        intro j h143 h149 h153 h161 h165 h171 h181 h183
        rw [← E8.out, Array.getElem?_setIfInBounds_ne (Ne.symm h183)]
        rw [← E7.out, Array.getElem?_setIfInBounds_ne (Ne.symm h181)]
        rw [← E6.out, Array.getElem?_setIfInBounds_ne (Ne.symm h171)]
        rw [← E5.out, Array.getElem?_setIfInBounds_ne (Ne.symm h165)]
        rw [← E4.out, Array.getElem?_setIfInBounds_ne (Ne.symm h161)]
        rw [← E3.out, Array.getElem?_setIfInBounds_ne (Ne.symm h153)]
        rw [← E2.out, Array.getElem?_setIfInBounds_ne (Ne.symm h149)]
        rw [← E1.out, Array.getElem?_setIfInBounds_ne (Ne.symm h143)]
      have v71 : r8[143]? = some (.func (.func 77) #[] #[.pointer (some ⟨b71, 0, none⟩)]) := by
        rw [← E8.out, Array.getElem?_setIfInBounds_ne (by decide)]
        rw [← E7.out, Array.getElem?_setIfInBounds_ne (by decide)]
        rw [← E6.out, Array.getElem?_setIfInBounds_ne (by decide)]
        rw [← E5.out, Array.getElem?_setIfInBounds_ne (by decide)]
        rw [← E4.out, Array.getElem?_setIfInBounds_ne (by decide)]
        rw [← E3.out, Array.getElem?_setIfInBounds_ne (by decide)]
        rw [← E2.out, Array.getElem?_setIfInBounds_ne (by decide)]
        rw [← E1.out, Array.getElem?_setIfInBounds_self_of_lt (by rw [z0]; decide)]
      have v74 : r8[149]? = some (.func (.func 77) #[] #[.pointer (some ⟨b74, 0, none⟩)]) := by
        rw [← E8.out, Array.getElem?_setIfInBounds_ne (by decide)]
        rw [← E7.out, Array.getElem?_setIfInBounds_ne (by decide)]
        rw [← E6.out, Array.getElem?_setIfInBounds_ne (by decide)]
        rw [← E5.out, Array.getElem?_setIfInBounds_ne (by decide)]
        rw [← E4.out, Array.getElem?_setIfInBounds_ne (by decide)]
        rw [← E3.out, Array.getElem?_setIfInBounds_ne (by decide)]
        rw [← E2.out, Array.getElem?_setIfInBounds_self_of_lt (by rw [z1]; decide)]
      have v76 : r8[153]? = some (.func (.func 77) #[] #[.pointer (some ⟨b76, 0, none⟩)]) := by
        rw [← E8.out, Array.getElem?_setIfInBounds_ne (by decide)]
        rw [← E7.out, Array.getElem?_setIfInBounds_ne (by decide)]
        rw [← E6.out, Array.getElem?_setIfInBounds_ne (by decide)]
        rw [← E5.out, Array.getElem?_setIfInBounds_ne (by decide)]
        rw [← E4.out, Array.getElem?_setIfInBounds_ne (by decide)]
        rw [← E3.out, Array.getElem?_setIfInBounds_self_of_lt (by rw [z2]; decide)]
      have v80 : r8[161]? = some (.func (.func 77) #[] #[.pointer (some ⟨b80, 0, none⟩)]) := by
        rw [← E8.out, Array.getElem?_setIfInBounds_ne (by decide)]
        rw [← E7.out, Array.getElem?_setIfInBounds_ne (by decide)]
        rw [← E6.out, Array.getElem?_setIfInBounds_ne (by decide)]
        rw [← E5.out, Array.getElem?_setIfInBounds_ne (by decide)]
        rw [← E4.out, Array.getElem?_setIfInBounds_self_of_lt (by rw [z3]; decide)]
      have v82 : r8[165]? = some (.func (.func 77) #[] #[.pointer (some ⟨b82, 0, none⟩)]) := by
        rw [← E8.out, Array.getElem?_setIfInBounds_ne (by decide)]
        rw [← E7.out, Array.getElem?_setIfInBounds_ne (by decide)]
        rw [← E6.out, Array.getElem?_setIfInBounds_ne (by decide)]
        rw [← E5.out, Array.getElem?_setIfInBounds_self_of_lt (by rw [z4]; decide)]
      have v85 : r8[171]? = some (.func (.func 77) #[] #[.pointer (some ⟨b85, 0, none⟩)]) := by
        rw [← E8.out, Array.getElem?_setIfInBounds_ne (by decide)]
        rw [← E7.out, Array.getElem?_setIfInBounds_ne (by decide)]
        rw [← E6.out, Array.getElem?_setIfInBounds_self_of_lt (by rw [z5]; decide)]
      have v90 : r8[181]? = some (.func (.func 77) #[] #[.pointer (some ⟨b90, 0, none⟩)]) := by
        rw [← E8.out, Array.getElem?_setIfInBounds_ne (by decide)]
        rw [← E7.out, Array.getElem?_setIfInBounds_self_of_lt (by rw [z6]; decide)]
      have v91 : r8[183]? = some (.func (.func 77) #[] #[.pointer (some ⟨b91, 0, none⟩)]) := by
        rw [← E8.out, Array.getElem?_setIfInBounds_self_of_lt (by rw [z7]; decide)]
      have k71 : KidsV wF (.func (.func 77) #[] #[.pointer (some ⟨b71, 0, none⟩)]) (fun _ ks => fitAll [] ks) := just_kidsV (l := 0) rfl (by decide) (U1 _ _ G71.out N71.out) (fits0 _)
      have k74 : KidsV wF (.func (.func 77) #[] #[.pointer (some ⟨b74, 0, none⟩)]) (fun _ ks => fitAll [] ks) := just_kidsV (l := 0) rfl (by decide) (U2 _ _ G74.out N74.out) (fits0 _)
      have k76 : KidsV wF (.func (.func 77) #[] #[.pointer (some ⟨b76, 0, none⟩)]) (fun _ ks => fitAll [pCode] ks) := just_kidsV (l := 1) rfl (by decide) (U3 _ _ G76.out N76.out) (fits1B (U3 _ _ S76.out Y76.out) (isCodeV _))
      have k80 : KidsV wF (.func (.func 77) #[] #[.pointer (some ⟨b80, 0, none⟩)]) (fun _ ks => fitAll [pCode, pCode] ks) := just_kidsV (l := 2) rfl (by decide) (U4 _ _ G80.out N80.out) (fits2B (U4 _ _ S80.out Y80.out) (isCodeV _) (isCodeV _))
      have k82 : KidsV wF (.func (.func 77) #[] #[.pointer (some ⟨b82, 0, none⟩)]) (fun _ ks => fitAll [pCode] ks) := just_kidsV (l := 1) rfl (by decide) (U5 _ _ G82.out N82.out) (fits1B (U5 _ _ S82.out Y82.out) (isCodeV _))
      have k85 : KidsV wF (.func (.func 77) #[] #[.pointer (some ⟨b85, 0, none⟩)]) (fun _ ks => fitAll [pCode] ks) := just_kidsV (l := 1) rfl (by decide) (U6 _ _ G85.out N85.out) (fits1B (U6 _ _ S85.out Y85.out) (isCodeV _))
      have k90 : KidsV wF (.func (.func 77) #[] #[.pointer (some ⟨b90, 0, none⟩)]) (fun _ ks => fitAll [] ks) := just_kidsV (l := 0) rfl (by decide) (U7 _ _ G90.out N90.out) (fits0 _)
      have k91 : KidsV wF (.func (.func 77) #[] #[.pointer (some ⟨b91, 0, none⟩)]) (fun _ ks => fitAll [pPat] ks) := just_kidsV (l := 1) rfl (by decide) (U8 _ _ G91.out N91.out) (fits1B (U8 _ _ S91.out Y91.out) (isCodePatV _))
      have HT : Hid (TabOk wF r8 plainOwn plainKids) := by
        have rc : ∀ j, j < 184 → r0[j]? = if typB (j / 2) then some .nilFunc else tab[j]? := by
          intro j hj
          rw [← RZ0.out, clr_get tab hts 92 j (Nat.le_refl _) hj, decide_eq_true (by omega), Bool.and_true]
        refine ⟨fun i hi h => ?_, fun i p hi h => ?_⟩
        · have hn : ∀ K, plainOwn K ≠ none → i ≠ K := by
            intro K hK e
            subst e
            exact hK h
          have g71 := hn 71 (by decide)
          have g74 := hn 74 (by decide)
          have g76 := hn 76 (by decide)
          have g80 := hn 80 (by decide)
          have g82 := hn 82 (by decide)
          have g85 := hn 85 (by decide)
          have g90 := hn 90 (by decide)
          have g91 := hn 91 (by decide)
          rw [rg (i * 2) (by omega) (by omega) (by omega) (by omega) (by omega) (by omega) (by omega) (by omega), rg (i * 2 + 1) (by omega) (by omega) (by omega) (by omega) (by omega) (by omega) (by omega) (by omega), rc _ (by omega), rc _ (by omega)]
          have e1 : i * 2 / 2 = i := by omega
          have e2 : (i * 2 + 1) / 2 = i := by omega
          rw [e1, e2]
          by_cases ht : typB i = true
          · rw [if_pos ht, if_pos ht]
            exact ⟨rfl, rfl⟩
          · rw [if_neg ht, if_neg ht]
            exact TW.no i hi (by unfold plainOwn at h; rw [if_neg ht] at h; exact h)
        · have ht : ¬ typB i = true := by
            intro e
            unfold plainOwn at h
            rw [if_pos e] at h
            cases h
          have ho : codeOwn i = some p := by unfold plainOwn at h; rw [if_neg ht] at h; exact h
          obtain ⟨u, v, h1, h2, h3, h4⟩ := TW.yes i p hi ho
          have e1 : i * 2 / 2 = i := by omega
          have e2 : (i * 2 + 1) / 2 = i := by omega
          have hu : r8[i * 2]? = some u := by
            rw [rg (i * 2) (by omega) (by omega) (by omega) (by omega) (by omega) (by omega) (by omega) (by omega), rc _ (by omega), e1, if_neg ht]
            exact h1
          by_cases g71 : i = 71
          · subst g71
            exact ⟨u, _, hu, v71, h3, k71⟩
          by_cases g74 : i = 74
          · subst g74
            exact ⟨u, _, hu, v74, h3, k74⟩
          by_cases g76 : i = 76
          · subst g76
            exact ⟨u, _, hu, v76, h3, k76⟩
          by_cases g80 : i = 80
          · subst g80
            exact ⟨u, _, hu, v80, h3, k80⟩
          by_cases g82 : i = 82
          · subst g82
            exact ⟨u, _, hu, v82, h3, k82⟩
          by_cases g85 : i = 85
          · subst g85
            exact ⟨u, _, hu, v85, h3, k85⟩
          by_cases g90 : i = 90
          · subst g90
            exact ⟨u, _, hu, v90, h3, k90⟩
          by_cases g91 : i = 91
          · subst g91
            exact ⟨u, _, hu, v91, h3, k91⟩
          have hv : r8[i * 2 + 1]? = some v := by
            rw [rg (i * 2 + 1) (by omega) (by omega) (by omega) (by omega) (by omega) (by omega) (by omega) (by omega), rc _ (by omega), e2, if_neg ht]
            exact h2
          have hp : plainKids i = codeKids i := by
            unfold plainKids
            rw [if_neg g71, if_neg g74, if_neg g76, if_neg g80, if_neg g82, if_neg g85, if_neg g90, if_neg g91]
          exact ⟨u, v, hu, hv, h3, by rw [hp]; exact h4⟩
      have hld2 : (loadVar 56 ⟨w.heap.size, 0, none⟩).run Try.prog wF = .ok (.agg r8) wF := run_loadVar_row _ _ _ _ _ _ _ hF0 Try.underlying56 rfl (by rw [z8]; kernel_rfl)
      rw [hwF]
      have HLD : Hid ((loadVar 56 ⟨w.heap.size, 0, none⟩).run Try.prog wF = .ok (.agg r8) wF) := hld2
      have HFB : Hid (Below w.heap.size w wF) := hFB
      have Z8 : Hid (r8.size = 184) := z8
      clear hld2 hF0 T8 TW U8 U7 U6 U5 U4 U3 U2 U1 rg v71 v74 v76 v80 v82 v85 v90 v91 k71 k74 k76 k80 k82 k85 k90 k91 hwF b8 hFB q8 c8
      go_wp2_with fail
      exact bodyPost_ret (results_cellT rfl _ ⟨w.heap.size, 0, none⟩ rfl _ _ HLD.out) rfl ⟨⟨r8, Z8.out, rfl, HT.out⟩, HFB.out⟩

end Go.Proofs.Ytekogjmmfhbinaa
