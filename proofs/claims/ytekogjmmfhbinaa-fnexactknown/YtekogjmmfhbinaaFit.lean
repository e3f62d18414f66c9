import Derived.Test.YtekogjmmfhbinaaFams
namespace Go.Proofs.Ytekogjmmfhbinaa

open Go.RowKit

/-- A value that is a function from nodes to bools, whatever its number is. -/
def FitV (w : World) (v : Value) (p : Nd → Bool) : Prop :=
  ∃ N lb, v = .func (.func N) #[] lb ∧ (∀ (args : Array Value) (w : World), (callFunc N args).run Try.prog w = .ok (.enter N args) w) ∧
    ∀ (x : Nd) (W : World), Below w.heap.size w W → Calls Try.prog N (#[.agg #[.int .i64 x.kind, .int .i64 x.num, .string x.text, .int .i64 x.kids, .int .i64 x.place]] ++ lb) W fun e w' =>
      e = .returned (.bool (p x)) ∧ Below W.heap.size W w'

theorem FitV.below {w w' : World} {v : Value} {p : Nd → Bool} (h : FitV w v p) (hb : Below w.heap.size w w') : FitV w' v p := by
  obtain ⟨N, lb, e, hN, hF⟩ := h
  exact ⟨N, lb, e, hN, fun x W hW => hF x W (Below.step hb hW)⟩

/-- A value that is a function from a node and the roots of its kids to bools. -/
def KidsV (w : World) (v : Value) (p : Nd → List Nd → Bool) : Prop :=
  ∃ N lb, v = .func (.func N) #[] lb ∧ (∀ (args : Array Value) (w : World), (callFunc N args).run Try.prog w = .ok (.enter N args) w) ∧
    ∀ (x : Nd) (ks : List Nd) (q : Nat) (ao : Option Addr) (cap : Nat) (W : World), Below w.heap.size w W → Hid (ks.length = q) → q ≤ 60000 → q ≤ cap → Nodes W ao ks →
      Calls Try.prog N (#[.agg #[.int .i64 x.kind, .int .i64 x.num, .string x.text, .int .i64 x.kids, .int .i64 x.place], .slice ao q cap] ++ lb) W fun e w' =>
        e = .returned (.bool (p x ks)) ∧ Below W.heap.size W w'

theorem KidsV.below {w w' : World} {v : Value} {p : Nd → List Nd → Bool} (h : KidsV w v p) (hb : Below w.heap.size w w') : KidsV w' v p := by
  obtain ⟨N, lb, e, hN, hF⟩ := h
  exact ⟨N, lb, e, hN, fun x ks q ao cap W hW => hF x ks q ao cap W (Below.step hb hW)⟩

set_option maxHeartbeats 1000000 in
theorem allFit1_any (x : Nd) (b : Nat) (v : Value) (p : Nd → Bool) (w : World) (hc : w.cell? ⟨b, 0, none⟩ = some v) (hv : FitV w v p) :
    Calls Try.prog 92 #[.agg #[.int .i64 x.kind, .int .i64 x.num, .string x.text, .int .i64 x.kids, .int .i64 x.place], .pointer (some ⟨b, 0, none⟩)] w fun e w' =>
      e = .returned (.bool (!p x)) ∧ Below w.heap.size w w' := by
  have hlb : b < w.heap.size := lt_of_cell hc
  obtain ⟨N, lb, rfl, hN, HF⟩ := hv
  have HP := HF x
  obtain ⟨z, hz⟩ : ∃ z, p x = z := ⟨_, rfl⟩
  rw [hz] at HP ⊢
  clear HF hz
  obtain ⟨kd, nm, tx, ks, pl⟩ := x
  have hb0 : Below w.heap.size w (w.alloc (Obj.cells #[.int .i64 kd, .int .i64 nm, .string tx, .int .i64 ks, .int .i64 pl] 39)) := (Below.refl _ _).alloc (Nat.le_refl _) _
  simp only at HP
  go_enter Try.func92, Try.ntmps92
  go_wp2_with fail
  refine (HP _ hb0).mono ?_
  rintro e w1 ⟨rfl, hb1⟩
  have hb2 := Below.step hb0 hb1
  clear HP hb0 hb1
  go_wp2
  go_ret
  exact ⟨rfl, hb2⟩

theorem anyF_true {α : Type} {p : α → Bool} {xs : List α} (k : Nat) (h : k < xs.length) (hf : p xs[k] = true) : xs.any p = true :=
  List.any_eq_true.2 ⟨_, List.getElem_mem h, hf⟩

theorem takeF_any {α : Type} {p : α → Bool} {xs : List α} (k : Nat) (h : k < xs.length) (ht : p xs[k] = false) (ha : (xs.take k).any p = false) : (xs.take (k + 1)).any p = false := by
  rw [List.take_succ_eq_append_getElem h, List.any_append, ha]
  simp [ht]

set_option maxHeartbeats 2000000 in
theorem indexFunc_fit (p : Nd → Bool) (v : Value) (fb : Nat) (xs : List Nd) (n : Nat) (HX : Hid (xs.length = n)) (ao : Option Addr) (cap : Nat) (w : World) (hx : Nodes w ao xs) (hlx : n ≤ 60000) (hc : w.cell? ⟨fb, 0, none⟩ = some v) (hv : FitV w v p) :
    Calls Try.prog 93 #[.slice ao n cap, .func (.func 92) #[] #[.pointer (some ⟨fb, 0, none⟩)]] w fun e w' =>
      (∃ r : Int, e = .returned (.int .i64 r) ∧ decide (r ≥ 0) = xs.any (fun n => !p n)) ∧ Below w.heap.size w w' := by
  have hlb : fb < w.heap.size := lt_of_cell hc
  have HU : Hid (∀ (x : Nd) (W : World), Below w.heap.size w W → Calls Try.prog 92 #[.agg #[.int .i64 x.kind, .int .i64 x.num, .string x.text, .int .i64 x.kids, .int .i64 x.place], .pointer (some ⟨fb, 0, none⟩)] W fun e w' => e = .returned (.bool (!p x)) ∧ Below W.heap.size W w') := by
    intro x W hW
    exact allFit1_any x fb v p W ((hW.cell (p := ⟨fb, 0, none⟩) hlb).trans hc) (hv.below hW)
  clear hv hc
  go_enter Try.func93, Try.ntmps93
  go_wp2
  go_loopw [8] (fun i wr => ∃ (k : Nat), k ≤ n ∧ i = .int .i64 k ∧ (xs.take k).any (fun n => !p n) = false ∧ Below w.heap.size w wr) (fun i _ => n - (intOf i).toNat)
  case atStart => exact ⟨0, Nat.zero_le _, rfl, by simp, Below.refl _ _⟩
  case round =>
    obtain ⟨k, hk, rfl, hall, hb⟩ := hrel
    by_cases hlt : k < n
    · have hltx : k < xs.length := by have := HX.out; omega
      obtain ⟨x, hxk⟩ : ∃ x, xs[k] = x := ⟨_, rfl⟩
      obtain ⟨b, o, rfl, hcx⟩ := hx.below hb k hltx
      rw [hxk] at hcx
      obtain ⟨c0, c1, c2, c3, c4⟩ := hcx
      have hlb : b < wr.heap.size := lt_of_cell c0
      have HXK : Hid (xs[k] = x) := hxk
      clear hx hxk
      have HC := HU.out x wr hb
      cases hq : (!p x)
      · have HA : Hid ((xs.take (k + 1)).any (fun n => !p n) = false) := takeF_any k hltx (by rw [HXK.out]; exact hq) hall
        clear hall
        go_wp2_with fail
        refine HC.mono ?_
        rintro e w1 ⟨rfl, hb1⟩
        rw [hq]
        have hbb := Below.step hb hb1
        clear hb hb1 c0 c1 c2 c3 c4 HC
        go_wp2
        go_roundw
        case rel => exact ⟨k + 1, by omega, by go_num, HA.out, hbb⟩
        case measure => simp [intOf]; omega
      · have HA : Hid (xs.any (fun n => !p n) = true) := anyF_true k hltx (by rw [HXK.out]; exact hq)
        clear hall
        go_wp2_with fail
        refine HC.mono ?_
        rintro e w1 ⟨rfl, hb1⟩
        rw [hq]
        have hbb := Below.step hb hb1
        clear hb hb1 c0 c1 c2 c3 c4 HC
        go_wp2
        go_ret
        exact ⟨⟨(k : Int), rfl, by rw [HA.out]; simp⟩, hbb⟩
    · have HA : Hid (xs.any (fun n => !p n) = false) := by
        have h9 := hall
        rw [List.take_of_length_le (by have := HX.out; omega)] at h9
        exact h9
      clear hall hx
      go_wp2
      go_ret
      exact ⟨⟨-1, rfl, by rw [HA.out]; rfl⟩, hb⟩

theorem all_none (p : Nd → Bool) (xs : List Nd) : xs.all p = !xs.any (fun n => !p n) := by
  induction xs with
  | nil => rfl
  | cons x xs ih => simp only [List.all_cons, List.any_cons, Bool.not_or, ← ih, Bool.not_not]

set_option maxHeartbeats 1000000 in
theorem containsFunc_fit (p : Nd → Bool) (v : Value) (fb : Nat) (xs : List Nd) (n : Nat) (HX : Hid (xs.length = n)) (ao : Option Addr) (cap : Nat) (w : World) (hx : Nodes w ao xs) (hlx : n ≤ 60000) (hc : w.cell? ⟨fb, 0, none⟩ = some v) (hv : FitV w v p) :
    Calls Try.prog 91 #[.slice ao n cap, .func (.func 92) #[] #[.pointer (some ⟨fb, 0, none⟩)]] w fun e w' =>
      e = .returned (.bool (xs.any (fun n => !p n))) ∧ Below w.heap.size w w' := by
  have HI := indexFunc_fit p v fb xs n HX ao cap w hx hlx hc hv
  clear hx hc hv
  go_enter Try.func91, Try.ntmps91
  go_wp2_with fail
  refine HI.mono ?_
  rintro e w1 ⟨⟨r, rfl, hr⟩, hb⟩
  have HR : Hid (decide (r ≥ 0) = xs.any (fun n => !p n)) := hr
  clear hr HI
  go_wp2
  go_ret
  exact ⟨by rw [← HR.out]; rfl, hb⟩

set_option maxHeartbeats 1000000 in
theorem allFit_any (p : Nd → Bool) (v : Value) (xs : List Nd) (n : Nat) (HX : Hid (xs.length = n)) (ao : Option Addr) (cap : Nat) (w : World) (hx : Nodes w ao xs) (hlx : n ≤ 60000) (hv : FitV w v p) :
    Calls Try.prog 86 #[.slice ao n cap, v] w fun e w' => e = .returned (.bool (xs.all p)) ∧ Below w.heap.size w w' := by
  have hv2 := hv
  obtain ⟨N, lb, rfl, -, -⟩ := hv2
  have hb0 : Below w.heap.size w (w.alloc (.cells #[.func (.func N) #[] lb] 74)) := (Below.refl _ _).alloc (Nat.le_refl _) _
  have hcv : (w.alloc (.cells #[.func (.func N) #[] lb] 74)).cell? ⟨w.heap.size, 0, none⟩ = some (.func (.func N) #[] lb) := by rw [cell_of_row _ _ _ _ _ _ (heap_alloc_new _ _)]; rfl
  have HI := containsFunc_fit p _ w.heap.size xs n HX ao cap _ (hx.below hb0) hlx hcv (hv.below hb0)
  have HV : Hid (xs.all p = !xs.any (fun n => !p n)) := all_none p xs
  clear hcv hx hv
  go_enter Try.func86, Try.ntmps86
  go_wp2_with fail
  refine HI.mono ?_
  rintro e w1 ⟨rfl, hb⟩
  have hbb := Below.step hb0 hb
  clear hb hb0 HI
  go_wp2
  go_ret
  exact ⟨by rw [HV.out]; rfl, hbb⟩

end Go.Proofs.Ytekogjmmfhbinaa
