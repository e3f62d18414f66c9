import Derived.Test.YtemancdlnakkmaaGreatWAL
import Derived.Deep.RegionWith
import Derived.Test.YtemancdlnakkmaaGreatWAD
import Derived.Test.YtemancdlnakkmaaGreatWAN
import Derived.BigQuiet
namespace Go.Proofs.YtemancdlnakkmaaGreat
open Go.RowKit
theorem size_beq (tx : ByteArray) : (tx.size == 0) = ((tx.size : Int) == 0) := by
  by_cases h : tx.size = 0
  · rw [h]; rfl
  · rw [beq_eq_false_iff_ne.2 h, beq_eq_false_iff_ne.2 (by omega)]
theorem own_far (kd nm kk pl : Int) (tx : ByteArray) (h : pl ≠ 0) : ownB ⟨kd, nm, tx, kk, pl⟩ = false := by
  unfold ownB
  simp [h]
theorem own_bound (kd nm kk : Int) (tx : ByteArray) (h : boundK kd = true) : ownB ⟨kd, nm, tx, kk, 0⟩ = (decide (nm > 0) && ((tx.size : Int) == 0)) := by
  unfold ownB
  simp only [h, if_true, size_beq]
  simp
set_option maxHeartbeats 4000000 in
set_option maxRecDepth 20000 in
theorem own_any1 (kd nm kk : Int) (tx : ByteArray) (hb : boundK kd = true) (w : World) :
    Calls Tryz.prog 25 #[.agg #[.int .i64 kd, .int .i64 nm, .string tx, .int .i64 kk, .int .i64 0]] w fun e w' => e = .returned (.bool (ownB ⟨kd, nm, tx, kk, 0⟩)) ∧ Below w.heap.size w w' := by
  rw [own_bound kd nm kk tx hb]
  have hk : kd = 70 ∨ kd = 76 ∨ kd = 80 ∨ kd = 82 ∨ kd = 90 ∨ kd = 91 ∨ kd = 78 ∨ kd = 60 ∨ kd = 62 := by
    unfold boundK at hb
    simp at hb
    omega
  clear hb
  by_cases h0 : nm > 0
  · have t0 : decide (nm > 0) = true := decide_eq_true h0
    rcases hk with rfl | rfl | rfl | rfl | rfl | rfl | rfl | rfl | rfl
    all_goals
      go_enter Tryz.func25, Tryz.ntmps25
      go_wp2
      go_ret
      exact ⟨by rw [t0]; rfl, (Below.refl _ _).alloc (Nat.le_refl _) _⟩
  · have t0 : decide (nm > 0) = false := decide_eq_false h0
    rcases hk with rfl | rfl | rfl | rfl | rfl | rfl | rfl | rfl | rfl
    all_goals
      go_enter Tryz.func25, Tryz.ntmps25
      go_wp2
      go_ret
      exact ⟨by first | (rw [t0]; rfl) | rfl, (Below.refl _ _).alloc (Nat.le_refl _) _⟩
set_option maxHeartbeats 4000000 in
set_option maxRecDepth 20000 in
theorem own_any2 (kd nm kk : Int) (tx : ByteArray) (hk : kd = 71 ∨ kd = 72 ∨ kd = 17) (w : World) :
    Calls Tryz.prog 25 #[.agg #[.int .i64 kd, .int .i64 nm, .string tx, .int .i64 kk, .int .i64 0]] w fun e w' => e = .returned (.bool (ownB ⟨kd, nm, tx, kk, 0⟩)) ∧ Below w.heap.size w w' := by
  rcases hk with rfl | rfl | rfl
  · have HV : Hid (ownB ⟨71, nm, tx, kk, 0⟩ = (decide (nm ≥ -8) && decide (nm ≤ -1) && ((tx.size : Int) == 0))) := by
      show ownB _ = _
      unfold ownB
      simp [boundK, size_beq]
    by_cases h1 : nm ≥ -8
    · have t1 : decide (nm ≥ -8) = true := decide_eq_true h1
      by_cases h2 : nm ≤ -1
      · have t2 : decide (nm ≤ -1) = true := decide_eq_true h2
        go_enter Tryz.func25, Tryz.ntmps25
        go_wp2
        go_ret
        exact ⟨by rw [HV.out, t1, t2]; rfl, (Below.refl _ _).alloc (Nat.le_refl _) _⟩
      · have t2 : decide (nm ≤ -1) = false := decide_eq_false h2
        go_enter Tryz.func25, Tryz.ntmps25
        go_wp2
        go_ret
        exact ⟨by rw [HV.out, t1, t2]; rfl, (Below.refl _ _).alloc (Nat.le_refl _) _⟩
    · have t1 : decide (nm ≥ -8) = false := decide_eq_false h1
      go_enter Tryz.func25, Tryz.ntmps25
      go_wp2
      go_ret
      exact ⟨by rw [HV.out, t1]; rfl, (Below.refl _ _).alloc (Nat.le_refl _) _⟩
  · have HV : Hid (ownB ⟨72, nm, tx, kk, 0⟩ = ((tx.size : Int) == 0)) := by
      show ownB _ = _
      unfold ownB
      simp [boundK, size_beq]
    go_enter Tryz.func25, Tryz.ntmps25
    go_wp2
    go_ret
    exact ⟨by rw [HV.out]; rfl, (Below.refl _ _).alloc (Nat.le_refl _) _⟩
  · have HV : Hid (ownB ⟨17, nm, tx, kk, 0⟩ = ((tx.size : Int) == 0)) := by
      show ownB _ = _
      unfold ownB
      simp [boundK, size_beq]
    go_enter Tryz.func25, Tryz.ntmps25
    go_wp2
    go_ret
    exact ⟨by rw [HV.out]; rfl, (Below.refl _ _).alloc (Nat.le_refl _) _⟩
set_option maxHeartbeats 4000000 in
set_option maxRecDepth 20000 in
theorem own_any3 (kd nm kk : Int) (tx : ByteArray) (hk : kd ≠ 70 ∧ kd ≠ 76 ∧ kd ≠ 80 ∧ kd ≠ 82 ∧ kd ≠ 90 ∧ kd ≠ 91 ∧ kd ≠ 78 ∧ kd ≠ 60 ∧ kd ≠ 62 ∧ kd ≠ 71 ∧ kd ≠ 72 ∧ kd ≠ 17) (hn : nm ≠ 0) (w : World) :
    Calls Tryz.prog 25 #[.agg #[.int .i64 kd, .int .i64 nm, .string tx, .int .i64 kk, .int .i64 0]] w fun e w' => e = .returned (.bool (ownB ⟨kd, nm, tx, kk, 0⟩)) ∧ Below w.heap.size w w' := by
  have HV : Hid (ownB ⟨kd, nm, tx, kk, 0⟩ = false) := by
    show ownB _ = _
    unfold ownB
    simp [boundK, hk, hn]
  have u70 : (kd == 70) = false := by simp; omega
  have u76 : (kd == 76) = false := by simp; omega
  have u80 : (kd == 80) = false := by simp; omega
  have u82 : (kd == 82) = false := by simp; omega
  have u90 : (kd == 90) = false := by simp; omega
  have u91 : (kd == 91) = false := by simp; omega
  have u78 : (kd == 78) = false := by simp; omega
  have u60 : (kd == 60) = false := by simp; omega
  have u62 : (kd == 62) = false := by simp; omega
  have u71 : (kd == 71) = false := by simp; omega
  have u72 : (kd == 72) = false := by simp; omega
  have u17 : (kd == 17) = false := by simp; omega
  have un : (nm == 0) = false := by simpa using hn
  clear hk
  go_enter Tryz.func25, Tryz.ntmps25
  go_wp2
  go_ret
  exact ⟨by rw [HV.out]; rfl, (Below.refl _ _).alloc (Nat.le_refl _) _⟩
set_option maxHeartbeats 4000000 in
set_option maxRecDepth 20000 in
theorem own_any4 (kd kk : Int) (tx : ByteArray) (hk : kd = 73 ∨ kd = 18 ∨ kd = 74 ∨ kd = 19 ∨ kd = 12) (w : World) :
    Calls Tryz.prog 25 #[.agg #[.int .i64 kd, .int .i64 0, .string tx, .int .i64 kk, .int .i64 0]] w fun e w' => e = .returned (.bool (ownB ⟨kd, 0, tx, kk, 0⟩)) ∧ Below w.heap.size w w' := by
  have HV : Hid (ownB ⟨kd, 0, tx, kk, 0⟩ = true) := by
    show ownB _ = _
    rcases hk with rfl | rfl | rfl | rfl | rfl <;> rfl
  rcases hk with rfl | rfl | rfl | rfl | rfl
  all_goals
    go_enter Tryz.func25, Tryz.ntmps25
    go_wp2
    go_ret
    exact ⟨by rw [HV.out]; rfl, (Below.refl _ _).alloc (Nat.le_refl _) _⟩
set_option maxHeartbeats 4000000 in
set_option maxRecDepth 20000 in
theorem own_any5 (kk : Int) (tx : ByteArray) (w : World) :
    Calls Tryz.prog 25 #[.agg #[.int .i64 83, .int .i64 0, .string tx, .int .i64 kk, .int .i64 0]] w fun e w' => e = .returned (.bool (ownB ⟨83, 0, tx, kk, 0⟩)) ∧ Below w.heap.size w w' := by
  have HV : Hid (ownB ⟨83, 0, tx, kk, 0⟩ = (tx.toList == [77, 97, 116, 99, 104] || tx.toList == [66, 105, 110, 100])) := rfl
  cases h1 : (tx.toList == [77, 97, 116, 99, 104])
  · go_enter Tryz.func25, Tryz.ntmps25
    go_wp2
    go_ret
    exact ⟨by rw [HV.out, h1]; rfl, (Below.refl _ _).alloc (Nat.le_refl _) _⟩
  · go_enter Tryz.func25, Tryz.ntmps25
    go_wp2
    go_ret
    exact ⟨by rw [HV.out, h1]; rfl, (Below.refl _ _).alloc (Nat.le_refl _) _⟩
set_option maxHeartbeats 4000000 in
set_option maxRecDepth 20000 in
theorem own_any6 (kk : Int) (tx : ByteArray) (w : World) :
    Calls Tryz.prog 25 #[.agg #[.int .i64 89, .int .i64 0, .string tx, .int .i64 kk, .int .i64 0]] w fun e w' => e = .returned (.bool (ownB ⟨89, 0, tx, kk, 0⟩)) ∧ Below w.heap.size w w' := by
  have HV : Hid (ownB ⟨89, 0, tx, kk, 0⟩ = (tx.toList == [126] || tx.toList == [33])) := rfl
  cases h1 : (tx.toList == [126])
  · go_enter Tryz.func25, Tryz.ntmps25
    go_wp2
    go_ret
    exact ⟨by rw [HV.out, h1]; rfl, (Below.refl _ _).alloc (Nat.le_refl _) _⟩
  · go_enter Tryz.func25, Tryz.ntmps25
    go_wp2
    go_ret
    exact ⟨by rw [HV.out, h1]; rfl, (Below.refl _ _).alloc (Nat.le_refl _) _⟩
set_option maxHeartbeats 4000000 in
set_option maxRecDepth 20000 in
theorem own_any7 (kk : Int) (tx : ByteArray) (w : World) :
    Calls Tryz.prog 25 #[.agg #[.int .i64 88, .int .i64 0, .string tx, .int .i64 kk, .int .i64 0]] w fun e w' => e = .returned (.bool (ownB ⟨88, 0, tx, kk, 0⟩)) ∧ Below w.heap.size w w' := by
  have HV : Hid (ownB ⟨88, 0, tx, kk, 0⟩ = opsL.any (fun o => tx.toList == o)) := rfl
  go_enter Tryz.func25, Tryz.ntmps25
  go_wp2_with fail
  have cW : (w.alloc (.cells #[.int .i64 88, .int .i64 0, .string tx, .int .i64 kk, .int .i64 0] 34)).cell? ⟨w.heap.size, 2, none⟩ = some (.string tx) := by rw [cell_of_row _ _ _ _ _ _ (heap_alloc_new _ _)]; rfl
  have lW : w.heap.size < (w.alloc (.cells #[.int .i64 88, .int .i64 0, .string tx, .int .i64 kk, .int .i64 0] 34)).heap.size := by simp
  have hbW := (Below.refl w.heap.size w).alloc (Nat.le_refl _) (.cells #[.int .i64 88, .int .i64 0, .string tx, .int .i64 kk, .int .i64 0] 34)
  generalize w.alloc (.cells #[.int .i64 88, .int .i64 0, .string tx, .int .i64 kk, .int .i64 0] 34) = W at *
  go_region_with (first
    | (go_at_call 39; refine (operators_any _).mono ?_; rintro e w1 ⟨g, cap, rfl, hS, hb1⟩; have c1 := (hb1.cell (p := ⟨w.heap.size, 2, none⟩) (by simpa using lW)).trans cW; have l1 : w.heap.size < w1.heap.size := Nat.lt_of_lt_of_le lW (by simpa using hb1.size))
    | (go_at_call 38; refine (in_any opsB 13 rfl (by omega) _ _ _ _ hS).mono ?_; rintro e w2 ⟨rfl, rfl⟩))
  all_goals
    rw [ops_same, ← HV.out]
    have hb2 := Below.step hbW (undrew hb1)
    clear hS HV hb1
    go_wp2
    go_ret
    exact ⟨rfl, hb2⟩
set_option maxHeartbeats 4000000 in
set_option maxRecDepth 20000 in
theorem own_any8 (kd kk : Int) (tx : ByteArray) (hk : kd ≠ 70 ∧ kd ≠ 76 ∧ kd ≠ 80 ∧ kd ≠ 82 ∧ kd ≠ 90 ∧ kd ≠ 91 ∧ kd ≠ 78 ∧ kd ≠ 60 ∧ kd ≠ 62 ∧ kd ≠ 71 ∧ kd ≠ 72 ∧ kd ≠ 17 ∧ kd ≠ 73 ∧ kd ≠ 18 ∧ kd ≠ 74 ∧ kd ≠ 19 ∧ kd ≠ 12 ∧ kd ≠ 83 ∧ kd ≠ 88 ∧ kd ≠ 89) (w : World) :
    Calls Tryz.prog 25 #[.agg #[.int .i64 kd, .int .i64 0, .string tx, .int .i64 kk, .int .i64 0]] w fun e w' => e = .returned (.bool (ownB ⟨kd, 0, tx, kk, 0⟩)) ∧ Below w.heap.size w w' := by
  have HV : Hid (ownB ⟨kd, 0, tx, kk, 0⟩ = ((tx.size : Int) == 0)) := by
    show ownB _ = _
    unfold ownB
    simp [boundK, hk, size_beq]
  have u70 : (kd == 70) = false := by simp; omega
  have u76 : (kd == 76) = false := by simp; omega
  have u80 : (kd == 80) = false := by simp; omega
  have u82 : (kd == 82) = false := by simp; omega
  have u90 : (kd == 90) = false := by simp; omega
  have u91 : (kd == 91) = false := by simp; omega
  have u78 : (kd == 78) = false := by simp; omega
  have u60 : (kd == 60) = false := by simp; omega
  have u62 : (kd == 62) = false := by simp; omega
  have u71 : (kd == 71) = false := by simp; omega
  have u72 : (kd == 72) = false := by simp; omega
  have u17 : (kd == 17) = false := by simp; omega
  have u73 : (kd == 73) = false := by simp; omega
  have u18 : (kd == 18) = false := by simp; omega
  have u74 : (kd == 74) = false := by simp; omega
  have u19 : (kd == 19) = false := by simp; omega
  have u12 : (kd == 12) = false := by simp; omega
  have u83 : (kd == 83) = false := by simp; omega
  have u88 : (kd == 88) = false := by simp; omega
  have u89 : (kd == 89) = false := by simp; omega
  clear hk
  go_enter Tryz.func25, Tryz.ntmps25
  go_wp2
  go_ret
  exact ⟨by rw [HV.out]; rfl, (Below.refl _ _).alloc (Nat.le_refl _) _⟩
set_option maxHeartbeats 4000000 in
set_option maxRecDepth 20000 in
theorem own_any (x : Nd) (w : World) :
    Calls Tryz.prog 25 #[.agg #[.int .i64 x.kind, .int .i64 x.num, .string x.text, .int .i64 x.kids, .int .i64 x.place]] w fun e w' => e = .returned (.bool (ownB x)) ∧ Below w.heap.size w w' := by
  obtain ⟨kd, nm, tx, kk, pl⟩ := x
  simp only
  by_cases hp : pl = 0
  · subst hp
    cases hb : boundK kd
    · have hnb : kd ≠ 70 ∧ kd ≠ 76 ∧ kd ≠ 80 ∧ kd ≠ 82 ∧ kd ≠ 90 ∧ kd ≠ 91 ∧ kd ≠ 78 ∧ kd ≠ 60 ∧ kd ≠ 62 := by
        unfold boundK at hb
        simp at hb
        omega
      by_cases h2 : kd = 71 ∨ kd = 72 ∨ kd = 17
      · exact own_any2 kd nm kk tx h2 w
      by_cases h3 : nm = 0
      · subst h3
        by_cases h4 : kd = 73 ∨ kd = 18 ∨ kd = 74 ∨ kd = 19 ∨ kd = 12
        · exact own_any4 kd kk tx h4 w
        by_cases h5 : kd = 83
        · subst h5; exact own_any5 kk tx w
        by_cases h6 : kd = 89
        · subst h6; exact own_any6 kk tx w
        by_cases h7 : kd = 88
        · subst h7; exact own_any7 kk tx w
        exact own_any8 kd kk tx (by omega) w
      · exact own_any3 kd nm kk tx (by omega) h3 w
    · exact own_any1 kd nm kk tx hb w
  · have HV : Hid (ownB ⟨kd, nm, tx, kk, pl⟩ = false) := own_far kd nm kk pl tx hp
    have up : (pl == 0) = false := by simpa using hp
    go_enter Tryz.func25, Tryz.ntmps25
    go_wp2
    go_ret
    exact ⟨by rw [HV.out]; rfl, (Below.refl _ _).alloc (Nat.le_refl _) _⟩


def starOf (sh : ByteArray) : Nat := sh.data.toList.findIdx (fun b => b == 42)
theorem star_is (sh : ByteArray) : IsStar sh (starOf sh) := by
  have hl : sh.data.toList.length = sh.size := Array.length_toList (xs := sh.data)
  have e : ∀ j (h : j < sh.size), sh.data[j]! = sh.data.toList[j]'(by omega) := by
    intro j h
    rw [getElem!_pos sh.data j h]
    simp
  refine ⟨?_, ?_, ?_⟩
  · have := List.findIdx_le_length (p := fun b => b == (42 : UInt8)) (xs := sh.data.toList)
    unfold starOf
    omega
  · intro j hj
    have h1 := List.findIdx_le_length (p := fun b => b == (42 : UInt8)) (xs := sh.data.toList)
    have h2 : j < sh.size := by unfold starOf at hj; omega
    rw [e j h2]
    have h3 := List.not_of_lt_findIdx (p := fun b => b == (42 : UInt8)) (xs := sh.data.toList) hj
    simpa using h3
  · intro h
    rw [e _ h]
    have h3 := List.findIdx_getElem (p := fun b => b == (42 : UInt8)) (xs := sh.data.toList) (w := by rw [hl]; exact h)
    unfold starOf at h ⊢
    simpa using h3
theorem shape_star (x : Nd) : (shapeB x).size ≤ 4 ∧ (starOf (shapeB x) = (shapeB x).size ∨ 1 ≤ starOf (shapeB x)) := by
  unfold shapeB
  repeat' split
  all_goals first
    | (constructor; decide; decide)
    | (unfold shapeN; split <;> (constructor; decide; decide))
def tup1 (x : Nd) : Bool := x.kids == 1 && (x.kind == 75 || x.kind == 20 || x.kind == 14)
theorem raw_none {t : List Nd} (h : after t t.length = none) : rawDeep t = 0 := by
  unfold rawDeep
  rw [h]
theorem raw_some {t : List Nd} {S ys : List Sp} {m : Nat} (hm : t.length = m) (h0 : 0 < m) (h : after t m = some (S, ys)) :
    ∃ s, ys[m - 1]? = some s ∧ rawDeep t = (if s.fr = 0 then s.dp else 0) ∧ s.fr ≤ m - 1 ∧ 1 ≤ s.dp ∧ s.rt = m - 1 := by
  have hf := after_fine h
  have hl : m - 1 < ys.length := by have := hf.len; omega
  have hr := hf.root (m - 1) hl
  refine ⟨ys[m - 1], List.getElem?_eq_getElem hl, ?_, hr.2.1, hr.2.2.1, hr.1⟩
  unfold rawDeep
  rw [hm, h]
  have hg : ys.getLast? = some ys[m - 1] := by
    have := hf.len
    rw [List.getLast?_eq_getElem?]
    have e : ys.length - 1 = m - 1 := by omega
    rw [e, List.getElem?_eq_getElem hl]
  simp only [hg]
def shapePN : Nat → ByteArray
  | 70 => ⟨#[]⟩
  | 71 => ⟨#[]⟩
  | 72 => ⟨#[]⟩
  | 73 => ⟨#[]⟩
  | 74 => ⟨#[]⟩
  | 75 => ⟨#[99, 42]⟩
  | 76 => ⟨#[99]⟩
  | 77 => ⟨#[99, 99]⟩
  | 78 => ⟨#[45]⟩
  | 79 => ⟨#[45]⟩
  | 80 => ⟨#[99, 99]⟩
  | 81 => ⟨#[66, 66, 42, 99]⟩
  | 82 => ⟨#[99]⟩
  | 83 => ⟨#[99, 82, 82, 42]⟩
  | 84 => ⟨#[113, 99]⟩
  | 85 => ⟨#[99]⟩
  | 86 => ⟨#[99, 82, 82, 42]⟩
  | 87 => ⟨#[99, 99]⟩
  | 88 => ⟨#[99, 99]⟩
  | 89 => ⟨#[99]⟩
  | 90 => ⟨#[]⟩
  | 91 => ⟨#[113]⟩
  | _ => ⟨#[]⟩
def shapeP (x : Nd) : ByteArray := if 70 ≤ x.kind ∧ x.kind ≤ 91 then shapePN x.kind.toNat else shapeB x
theorem shapeP_star (x : Nd) : (shapeP x).size ≤ 4 ∧ (starOf (shapeP x) = (shapeP x).size ∨ 1 ≤ starOf (shapeP x)) := by
  unfold shapeP
  split
  · unfold shapePN
    split <;> (constructor; decide; decide)
  · exact shape_star x
set_option maxRecDepth 20000 in
set_option maxHeartbeats 4000000 in
theorem shapeP_code (j : Nat) (nm : Int) (tx : ByteArray) (kk pl : Int) (hj : j < 22) (w : World) :
    Calls Tryz.prog 28 #[.agg #[.int .i64 (70 + (j : Int)), .int .i64 nm, .string tx, .int .i64 kk, .int .i64 pl]] w fun e w' => e = .returned (.string (shapePN (70 + j))) ∧ Below w.heap.size w w' := by
  have u1 : decide (70 + (j : Int) ≥ 70) = true := decide_eq_true (by omega)
  have u2 : decide (70 + (j : Int) ≤ 91) = true := decide_eq_true (by omega)
  go_enter Tryz.func28, Tryz.ntmps28
  go_wp2
  go_ret
  refine ⟨?_, ((Below.refl _ _).alloc (Nat.le_refl _) _).alloc (by simp) _⟩
  match j, hj with
  | 0, _ => rfl
  | 1, _ => rfl
  | 2, _ => rfl
  | 3, _ => rfl
  | 4, _ => rfl
  | 5, _ => rfl
  | 6, _ => rfl
  | 7, _ => rfl
  | 8, _ => rfl
  | 9, _ => rfl
  | 10, _ => rfl
  | 11, _ => rfl
  | 12, _ => rfl
  | 13, _ => rfl
  | 14, _ => rfl
  | 15, _ => rfl
  | 16, _ => rfl
  | 17, _ => rfl
  | 18, _ => rfl
  | 19, _ => rfl
  | 20, _ => rfl
  | 21, _ => rfl
  | n + 22, hj => exact absurd hj (by omega)
set_option maxRecDepth 20000 in
set_option maxHeartbeats 4000000 in
theorem shapeP_any (x : Nd) (w : World) :
    Calls Tryz.prog 28 #[.agg #[.int .i64 x.kind, .int .i64 x.num, .string x.text, .int .i64 x.kids, .int .i64 x.place]] w fun e w' => e = .returned (.string (shapeP x)) ∧ Below w.heap.size w w' := by
  obtain ⟨kd, nm, tx, kk, pl⟩ := x
  simp only
  by_cases hA : 70 ≤ kd ∧ kd ≤ 91
  · obtain ⟨j, rfl⟩ : ∃ j : Nat, kd = 70 + (j : Int) := ⟨(kd - 70).toNat, by omega⟩
    have HV : shapeP ⟨70 + (j : Int), nm, tx, kk, pl⟩ = shapePN (70 + j) := by
      unfold shapeP
      rw [if_pos hA]
      have e : (70 + (j : Int)).toNat = 70 + j := by omega
      rw [e]
    rw [HV]
    exact shapeP_code j nm tx kk pl (by omega) w
  · have HV : Hid (shapeP ⟨kd, nm, tx, kk, pl⟩ = shapeB ⟨kd, nm, tx, kk, pl⟩) := by
      show shapeP _ = _
      unfold shapeP
      rw [if_neg hA]
    have SH := shape_any ⟨kd, nm, tx, kk, pl⟩
    simp only at SH
    by_cases h7 : 70 ≤ kd
    · have v1 : decide (kd ≥ 70) = true := decide_eq_true h7
      have v2 : decide (kd ≤ 91) = false := decide_eq_false (by omega)
      clear hA
      go_enter Tryz.func28, Tryz.ntmps28
      go_wp2_with fail
      refine (SH _).mono ?_
      rintro e w1 ⟨rfl, hb1⟩
      have hb2 := Below.step (((Below.refl w.heap.size w).alloc (Nat.le_refl _) _).alloc (by simp) _) hb1
      clear SH hb1
      rw [← HV.out]
      go_wp2
      go_ret
      exact ⟨rfl, hb2⟩
    · have v1 : decide (kd ≥ 70) = false := decide_eq_false h7
      clear hA
      go_enter Tryz.func28, Tryz.ntmps28
      go_wp2_with fail
      refine (SH _).mono ?_
      rintro e w1 ⟨rfl, hb1⟩
      have hb2 := Below.step (((Below.refl w.heap.size w).alloc (Nat.le_refl _) _).alloc (by simp) _) hb1
      clear SH hb1
      rw [← HV.out]
      go_wp2
      go_ret
      exact ⟨rfl, hb2⟩
theorem fits_shapeP (x : Nd) (t : List Nd) (m : Nat) (HM : Hid (t.length = m)) (R : List Nat) (q : Nat) (HQ : Hid (R.length = q)) (hq : q ≤ 60000) (HR : Hid (∀ j (h : j < R.length), R[j] < m)) (ao : Option Addr) (cap G B : Nat) (w : World) (hx : Nodes w ao t) (hz : Ints w B G q q (natsI R)) :
    Calls Tryz.prog 26 #[.slice ao m cap, .slice (some ⟨G, 0, none⟩) q q, .string (shapeP x)] w fun e w' => e = .returned (.bool (fitsB (shapeP x) (starOf (shapeP x)) (R.map (ndAt t)))) ∧ Below w.heap.size w w' := by
  obtain ⟨h4, h5⟩ := shapeP_star x
  have hs := star_is (shapeP x)
  by_cases h : starOf (shapeP x) = (shapeP x).size
  · exact fits_plain (shapeP x) _ hs h4 h t m HM R q HQ hq HR ao cap G B w hx hz
  · have := hs.le
    exact fits_star (shapeP x) _ _ rfl hs h4 (by omega) (by omega) t m HM R q HQ hq HR ao cap G B w hx hz
end Go.Proofs.YtemancdlnakkmaaGreat
