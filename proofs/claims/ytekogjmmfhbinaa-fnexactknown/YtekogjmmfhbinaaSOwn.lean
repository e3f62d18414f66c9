import Derived.Test.YtekogjmmfhbinaaSIn
import Derived.Deep.RegionWith
namespace Go.Proofs.Ytekogjmmfhbinaa

open Go.RowKit

theorem size_beq (tx : ByteArray) : (tx.size == 0) = ((tx.size : Int) == 0) := by
  by_cases h : tx.size = 0
  · rw [h]; rfl
  · rw [beq_eq_false_iff_ne.2 h, beq_eq_false_iff_ne.2 (by omega)]

theorem own_far (kd nm kk pl : Int) (tx : ByteArray) (h : pl ≠ 0) : ownB ⟨kd, nm, tx, kk, pl⟩ = false := by
  unfold ownB
  simp [h]

theorem own_bound (kd nm kk : Int) (tx : ByteArray) (h : boundK kd = true) : ownB ⟨kd, nm, tx, kk, 0⟩ = (decide (nm > 0) && ((tx.size : Int) == 0)) := by
  unfold ownB
  simp only [h, if_true, size_beq]
  simp

set_option maxHeartbeats 4000000 in
set_option maxRecDepth 20000 in
theorem own_any1 (kd nm kk : Int) (tx : ByteArray) (hb : boundK kd = true) (w : World) :
    Calls Try.prog 29 #[.agg #[.int .i64 kd, .int .i64 nm, .string tx, .int .i64 kk, .int .i64 0]] w fun e w' => e = .returned (.bool (ownB ⟨kd, nm, tx, kk, 0⟩)) ∧ Below w.heap.size w w' := by
  rw [own_bound kd nm kk tx hb]
  have hk : kd = 70 ∨ kd = 76 ∨ kd = 80 ∨ kd = 82 ∨ kd = 90 ∨ kd = 91 ∨ kd = 78 ∨ kd = 60 ∨ kd = 62 := by
    unfold boundK at hb
    simp at hb
    omega
  clear hb
  by_cases h0 : nm > 0
  · have t0 : decide (nm > 0) = true := decide_eq_true h0
    rcases hk with rfl | rfl | rfl | rfl | rfl | rfl | rfl | rfl | rfl
    all_goals
      go_enter Try.func29, Try.ntmps29
      go_wp2
      go_ret
      exact ⟨by rw [t0]; rfl, (Below.refl _ _).alloc (Nat.le_refl _) _⟩
  · have t0 : decide (nm > 0) = false := decide_eq_false h0
    rcases hk with rfl | rfl | rfl | rfl | rfl | rfl | rfl | rfl | rfl
    all_goals
      go_enter Try.func29, Try.ntmps29
      go_wp2
      go_ret
      exact ⟨by first | (rw [t0]; rfl) | rfl, (Below.refl _ _).alloc (Nat.le_refl _) _⟩

set_option maxHeartbeats 4000000 in
set_option maxRecDepth 20000 in
theorem own_any2 (kd nm kk : Int) (tx : ByteArray) (hk : kd = 71 ∨ kd = 72 ∨ kd = 17) (w : World) :
    Calls Try.prog 29 #[.agg #[.int .i64 kd, .int .i64 nm, .string tx, .int .i64 kk, .int .i64 0]] w fun e w' => e = .returned (.bool (ownB ⟨kd, nm, tx, kk, 0⟩)) ∧ Below w.heap.size w w' := by
  rcases hk with rfl | rfl | rfl
  · have HV : Hid (ownB ⟨71, nm, tx, kk, 0⟩ = (decide (nm ≥ -8) && decide (nm ≤ -1) && ((tx.size : Int) == 0))) := by
      show ownB _ = _
      unfold ownB
      simp [boundK, size_beq]
    by_cases h1 : nm ≥ -8
    · have t1 : decide (nm ≥ -8) = true := decide_eq_true h1
      by_cases h2 : nm ≤ -1
      · have t2 : decide (nm ≤ -1) = true := decide_eq_true h2
        go_enter Try.func29, Try.ntmps29
        go_wp2
        go_ret
        exact ⟨by rw [HV.out, t1, t2]; rfl, (Below.refl _ _).alloc (Nat.le_refl _) _⟩
      · have t2 : decide (nm ≤ -1) = false := decide_eq_false h2
        go_enter Try.func29, Try.ntmps29
        go_wp2
        go_ret
        exact ⟨by rw [HV.out, t1, t2]; rfl, (Below.refl _ _).alloc (Nat.le_refl _) _⟩
    · have t1 : decide (nm ≥ -8) = false := decide_eq_false h1
      go_enter Try.func29, Try.ntmps29
      go_wp2
      go_ret
      exact ⟨by rw [HV.out, t1]; rfl, (Below.refl _ _).alloc (Nat.le_refl _) _⟩
  · have HV : Hid (ownB ⟨72, nm, tx, kk, 0⟩ = ((tx.size : Int) == 0)) := by
      show ownB _ = _
      unfold ownB
      simp [boundK, size_beq]
    go_enter Try.func29, Try.ntmps29
    go_wp2
    go_ret
    exact ⟨by rw [HV.out]; rfl, (Below.refl _ _).alloc (Nat.le_refl _) _⟩
  · have HV : Hid (ownB ⟨17, nm, tx, kk, 0⟩ = ((tx.size : Int) == 0)) := by
      show ownB _ = _
      unfold ownB
      simp [boundK, size_beq]
    go_enter Try.func29, Try.ntmps29
    go_wp2
    go_ret
    exact ⟨by rw [HV.out]; rfl, (Below.refl _ _).alloc (Nat.le_refl _) _⟩

set_option maxHeartbeats 4000000 in
set_option maxRecDepth 20000 in
theorem own_any3 (kd nm kk : Int) (tx : ByteArray) (hk : kd ≠ 70 ∧ kd ≠ 76 ∧ kd ≠ 80 ∧ kd ≠ 82 ∧ kd ≠ 90 ∧ kd ≠ 91 ∧ kd ≠ 78 ∧ kd ≠ 60 ∧ kd ≠ 62 ∧ kd ≠ 71 ∧ kd ≠ 72 ∧ kd ≠ 17) (hn : nm ≠ 0) (w : World) :
    Calls Try.prog 29 #[.agg #[.int .i64 kd, .int .i64 nm, .string tx, .int .i64 kk, .int .i64 0]] w fun e w' => e = .returned (.bool (ownB ⟨kd, nm, tx, kk, 0⟩)) ∧ Below w.heap.size w w' := by
  have HV : Hid (ownB ⟨kd, nm, tx, kk, 0⟩ = false) := by
    show ownB _ = _
    unfold ownB
    simp [boundK, hk, hn]
  have u70 : (kd == 70) = false := by simp; omega
  have u76 : (kd == 76) = false := by simp; omega
  have u80 : (kd == 80) = false := by simp; omega
  have u82 : (kd == 82) = false := by simp; omega
  have u90 : (kd == 90) = false := by simp; omega
  have u91 : (kd == 91) = false := by simp; omega
  have u78 : (kd == 78) = false := by simp; omega
  have u60 : (kd == 60) = false := by simp; omega
  have u62 : (kd == 62) = false := by simp; omega
  have u71 : (kd == 71) = false := by simp; omega
  have u72 : (kd == 72) = false := by simp; omega
  have u17 : (kd == 17) = false := by simp; omega
  have un : (nm == 0) = false := by simpa using hn
  clear hk
  go_enter Try.func29, Try.ntmps29
  go_wp2
  go_ret
  exact ⟨by rw [HV.out]; rfl, (Below.refl _ _).alloc (Nat.le_refl _) _⟩

set_option maxHeartbeats 4000000 in
set_option maxRecDepth 20000 in
theorem own_any4 (kd kk : Int) (tx : ByteArray) (hk : kd = 73 ∨ kd = 18 ∨ kd = 74 ∨ kd = 19 ∨ kd = 12) (w : World) :
    Calls Try.prog 29 #[.agg #[.int .i64 kd, .int .i64 0, .string tx, .int .i64 kk, .int .i64 0]] w fun e w' => e = .returned (.bool (ownB ⟨kd, 0, tx, kk, 0⟩)) ∧ Below w.heap.size w w' := by
  have HV : Hid (ownB ⟨kd, 0, tx, kk, 0⟩ = true) := by
    show ownB _ = _
    rcases hk with rfl | rfl | rfl | rfl | rfl <;> rfl
  rcases hk with rfl | rfl | rfl | rfl | rfl
  all_goals
    go_enter Try.func29, Try.ntmps29
    go_wp2
    go_ret
    exact ⟨by rw [HV.out]; rfl, (Below.refl _ _).alloc (Nat.le_refl _) _⟩

set_option maxHeartbeats 4000000 in
set_option maxRecDepth 20000 in
theorem own_any5 (kk : Int) (tx : ByteArray) (w : World) :
    Calls Try.prog 29 #[.agg #[.int .i64 83, .int .i64 0, .string tx, .int .i64 kk, .int .i64 0]] w fun e w' => e = .returned (.bool (ownB ⟨83, 0, tx, kk, 0⟩)) ∧ Below w.heap.size w w' := by
  have HV : Hid (ownB ⟨83, 0, tx, kk, 0⟩ = (tx.toList == [77, 97, 116, 99, 104] || tx.toList == [66, 105, 110, 100])) := rfl
  cases h1 : (tx.toList == [77, 97, 116, 99, 104])
  · go_enter Try.func29, Try.ntmps29
    go_wp2
    go_ret
    exact ⟨by rw [HV.out, h1]; rfl, (Below.refl _ _).alloc (Nat.le_refl _) _⟩
  · go_enter Try.func29, Try.ntmps29
    go_wp2
    go_ret
    exact ⟨by rw [HV.out, h1]; rfl, (Below.refl _ _).alloc (Nat.le_refl _) _⟩

set_option maxHeartbeats 4000000 in
set_option maxRecDepth 20000 in
theorem own_any6 (kk : Int) (tx : ByteArray) (w : World) :
    Calls Try.prog 29 #[.agg #[.int .i64 89, .int .i64 0, .string tx, .int .i64 kk, .int .i64 0]] w fun e w' => e = .returned (.bool (ownB ⟨89, 0, tx, kk, 0⟩)) ∧ Below w.heap.size w w' := by
  have HV : Hid (ownB ⟨89, 0, tx, kk, 0⟩ = (tx.toList == [126] || tx.toList == [33])) := rfl
  cases h1 : (tx.toList == [126])
  · go_enter Try.func29, Try.ntmps29
    go_wp2
    go_ret
    exact ⟨by rw [HV.out, h1]; rfl, (Below.refl _ _).alloc (Nat.le_refl _) _⟩
  · go_enter Try.func29, Try.ntmps29
    go_wp2
    go_ret
    exact ⟨by rw [HV.out, h1]; rfl, (Below.refl _ _).alloc (Nat.le_refl _) _⟩

set_option maxHeartbeats 4000000 in
set_option maxRecDepth 20000 in
theorem own_any7 (kk : Int) (tx : ByteArray) (w : World) :
    Calls Try.prog 29 #[.agg #[.int .i64 88, .int .i64 0, .string tx, .int .i64 kk, .int .i64 0]] w fun e w' => e = .returned (.bool (ownB ⟨88, 0, tx, kk, 0⟩)) ∧ Below w.heap.size w w' := by
  have HV : Hid (ownB ⟨88, 0, tx, kk, 0⟩ = opsL.any (fun o => tx.toList == o)) := rfl
  go_enter Try.func29, Try.ntmps29
  go_wp2_with fail
  have cW : (w.alloc (.cells #[.int .i64 88, .int .i64 0, .string tx, .int .i64 kk, .int .i64 0] 39)).cell? ⟨w.heap.size, 2, none⟩ = some (.string tx) := by rw [cell_of_row _ _ _ _ _ _ (heap_alloc_new _ _)]; rfl
  have lW : w.heap.size < (w.alloc (.cells #[.int .i64 88, .int .i64 0, .string tx, .int .i64 kk, .int .i64 0] 39)).heap.size := by simp
  have hbW := (Below.refl w.heap.size w).alloc (Nat.le_refl _) (.cells #[.int .i64 88, .int .i64 0, .string tx, .int .i64 kk, .int .i64 0] 39)
  generalize w.alloc (.cells #[.int .i64 88, .int .i64 0, .string tx, .int .i64 kk, .int .i64 0] 39) = W at *
  go_region_with (first
    | (go_at_call 44; refine (operators_any _).mono ?_; rintro e w1 ⟨g, cap, rfl, hS, hb1⟩; have c1 := (hb1.cell (p := ⟨w.heap.size, 2, none⟩) (by simpa using lW)).trans cW; have l1 : w.heap.size < w1.heap.size := Nat.lt_of_lt_of_le lW (by simpa using hb1.size))
    | (go_at_call 43; refine (in_any opsB 13 rfl (by omega) _ _ _ _ hS).mono ?_; rintro e w2 ⟨rfl, rfl⟩))
  all_goals
    rw [ops_same, ← HV.out]
    have hb2 := Below.step hbW (undrew hb1)
    clear hS HV hb1
    go_wp2
    go_ret
    exact ⟨rfl, hb2⟩

set_option maxHeartbeats 4000000 in
set_option maxRecDepth 20000 in
theorem own_any8 (kd kk : Int) (tx : ByteArray) (hk : kd ≠ 70 ∧ kd ≠ 76 ∧ kd ≠ 80 ∧ kd ≠ 82 ∧ kd ≠ 90 ∧ kd ≠ 91 ∧ kd ≠ 78 ∧ kd ≠ 60 ∧ kd ≠ 62 ∧ kd ≠ 71 ∧ kd ≠ 72 ∧ kd ≠ 17 ∧ kd ≠ 73 ∧ kd ≠ 18 ∧ kd ≠ 74 ∧ kd ≠ 19 ∧ kd ≠ 12 ∧ kd ≠ 83 ∧ kd ≠ 88 ∧ kd ≠ 89) (w : World) :
    Calls Try.prog 29 #[.agg #[.int .i64 kd, .int .i64 0, .string tx, .int .i64 kk, .int .i64 0]] w fun e w' => e = .returned (.bool (ownB ⟨kd, 0, tx, kk, 0⟩)) ∧ Below w.heap.size w w' := by
  have HV : Hid (ownB ⟨kd, 0, tx, kk, 0⟩ = ((tx.size : Int) == 0)) := by
    show ownB _ = _
    unfold ownB
    simp [boundK, hk, size_beq]
  have u70 : (kd == 70) = false := by simp; omega
  have u76 : (kd == 76) = false := by simp; omega
  have u80 : (kd == 80) = false := by simp; omega
  have u82 : (kd == 82) = false := by simp; omega
  have u90 : (kd == 90) = false := by simp; omega
  have u91 : (kd == 91) = false := by simp; omega
  have u78 : (kd == 78) = false := by simp; omega
  have u60 : (kd == 60) = false := by simp; omega
  have u62 : (kd == 62) = false := by simp; omega
  have u71 : (kd == 71) = false := by simp; omega
  have u72 : (kd == 72) = false := by simp; omega
  have u17 : (kd == 17) = false := by simp; omega
  have u73 : (kd == 73) = false := by simp; omega
  have u18 : (kd == 18) = false := by simp; omega
  have u74 : (kd == 74) = false := by simp; omega
  have u19 : (kd == 19) = false := by simp; omega
  have u12 : (kd == 12) = false := by simp; omega
  have u83 : (kd == 83) = false := by simp; omega
  have u88 : (kd == 88) = false := by simp; omega
  have u89 : (kd == 89) = false := by simp; omega
  clear hk
  go_enter Try.func29, Try.ntmps29
  go_wp2
  go_ret
  exact ⟨by rw [HV.out]; rfl, (Below.refl _ _).alloc (Nat.le_refl _) _⟩

set_option maxHeartbeats 4000000 in
set_option maxRecDepth 20000 in
theorem own_any (x : Nd) (w : World) :
    Calls Try.prog 29 #[.agg #[.int .i64 x.kind, .int .i64 x.num, .string x.text, .int .i64 x.kids, .int .i64 x.place]] w fun e w' => e = .returned (.bool (ownB x)) ∧ Below w.heap.size w w' := by
  obtain ⟨kd, nm, tx, kk, pl⟩ := x
  simp only
  by_cases hp : pl = 0
  · subst hp
    cases hb : boundK kd
    · have hnb : kd ≠ 70 ∧ kd ≠ 76 ∧ kd ≠ 80 ∧ kd ≠ 82 ∧ kd ≠ 90 ∧ kd ≠ 91 ∧ kd ≠ 78 ∧ kd ≠ 60 ∧ kd ≠ 62 := by
        unfold boundK at hb
        simp at hb
        omega
      by_cases h2 : kd = 71 ∨ kd = 72 ∨ kd = 17
      · exact own_any2 kd nm kk tx h2 w
      by_cases h3 : nm = 0
      · subst h3
        by_cases h4 : kd = 73 ∨ kd = 18 ∨ kd = 74 ∨ kd = 19 ∨ kd = 12
        · exact own_any4 kd kk tx h4 w
        by_cases h5 : kd = 83
        · subst h5; exact own_any5 kk tx w
        by_cases h6 : kd = 89
        · subst h6; exact own_any6 kk tx w
        by_cases h7 : kd = 88
        · subst h7; exact own_any7 kk tx w
        exact own_any8 kd kk tx (by omega) w
      · exact own_any3 kd nm kk tx (by omega) h3 w
    · exact own_any1 kd nm kk tx hb w
  · have HV : Hid (ownB ⟨kd, nm, tx, kk, pl⟩ = false) := own_far kd nm kk pl tx hp
    have up : (pl == 0) = false := by simpa using hp
    go_enter Try.func29, Try.ntmps29
    go_wp2
    go_ret
    exact ⟨by rw [HV.out]; rfl, (Below.refl _ _).alloc (Nat.le_refl _) _⟩

end Go.Proofs.Ytekogjmmfhbinaa
