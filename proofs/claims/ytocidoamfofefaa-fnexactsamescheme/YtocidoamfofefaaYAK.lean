import Derived.Test.YtocidoamfofefaaYAC
import Derived.Test.YtocidoamfofefaaYAA
import Derived.Test.YtocidoamfofefaaYAB
import Derived.Deep.RegionWith
namespace Go.Proofs.Ytocidoamfofefaa
open Go.RowKit

/-- A slice of strings. -/
def Strs (w : World) (ao : Option Addr) (L : List ByteArray) : Prop := ∀ i (h : i < L.length), ∃ b o, ao = some ⟨b, o, none⟩ ∧ w.cell? ⟨b, o + i, none⟩ = some (.string L[i])

theorem anyS_true {α : Type} {p : α → Bool} {xs : List α} (k : Nat) (h : k < xs.length) (hf : p xs[k] = true) : xs.any p = true :=
  List.any_eq_true.2 ⟨_, List.getElem_mem h, hf⟩

theorem takeS_any {α : Type} {p : α → Bool} {xs : List α} (k : Nat) (h : k < xs.length) (ht : p xs[k] = false) (ha : (xs.take k).any p = false) : (xs.take (k + 1)).any p = false := by
  rw [List.take_succ_eq_append_getElem h, List.any_append, ha]
  simp [ht]

set_option maxHeartbeats 2000000 in
set_option maxRecDepth 20000 in
theorem in_any (L : List ByteArray) (n : Nat) (HL : Hid (L.length = n)) (hn : n ≤ 1000) (ao : Option Addr) (cap : Nat) (s : ByteArray) (w : World) (hS : Strs w ao L) :
    Calls Try.prog 43 #[.slice ao n cap, .string s] w fun e w' => e = .returned (.bool (L.any fun o => o.toList == s.toList)) ∧ w' = w := by
  go_enter Try.func43, Try.ntmps43
  go_wp2
  go_loop [5] (fun vi => ∃ k : Nat, k ≤ n ∧ vi = .int .i64 (k : Int) ∧ (L.take k).any (fun o => o.toList == s.toList) = false) (fun vi => n - (intOf vi).toNat)
  case atStart => exact ⟨0, Nat.zero_le _, rfl, by simp⟩
  case round =>
    obtain ⟨k, hk, rfl, hall⟩ := hrel
    by_cases hlt : k < n
    · have hltx : k < L.length := by have := HL.out; omega
      obtain ⟨x, hxk⟩ : ∃ x, L[k] = x := ⟨_, rfl⟩
      obtain ⟨b, o, rfl, hc⟩ := hS k hltx
      rw [hxk] at hc
      have HXK : Hid (L[k] = x) := hxk
      clear hxk hS
      cases hq : (x.toList == s.toList)
      · have HA : Hid ((L.take (k + 1)).any (fun o => o.toList == s.toList) = false) := takeS_any k hltx (by rw [HXK.out]; exact hq) hall
        clear hall
        go_wp2
        refine ⟨⟨k + 1, by omega, by push_cast; rfl, HA.out⟩, ?_⟩
        simp [intOf]; omega
      · have HA : Hid (L.any (fun o => o.toList == s.toList) = true) := anyS_true k hltx (by rw [HXK.out]; exact hq)
        clear hall
        go_wp2
        go_ret
        exact ⟨by rw [HA.out]; rfl, rfl⟩
    · have HA : Hid (L.any (fun o => o.toList == s.toList) = false) := by
        have h9 := hall
        rw [List.take_of_length_le (by have := HL.out; omega)] at h9
        exact h9
      clear hall hS
      go_wp2
      go_ret
      exact ⟨by rw [HA.out]; rfl, rfl⟩

/-- The operators, as the model keeps them. -/
def opsB : List ByteArray := [⟨#[58, 61]⟩, ⟨#[61]⟩, ⟨#[60, 62]⟩, ⟨#[60]⟩, ⟨#[60, 61]⟩, ⟨#[62]⟩, ⟨#[62, 61]⟩, ⟨#[94]⟩, ⟨#[43]⟩, ⟨#[45]⟩, ⟨#[42]⟩, ⟨#[47]⟩, ⟨#[37]⟩]

theorem beq_comm' (a b : List UInt8) : (a == b) = (b == a) := by
  by_cases h : a = b
  · subst h; rfl
  · rw [beq_eq_false_iff_ne.2 h, beq_eq_false_iff_ne.2 (fun e => h e.symm)]

theorem ops_same (s : ByteArray) : (opsB.any fun o => o.toList == s.toList) = opsL.any (fun o => s.toList == o) := by
  have e : opsL = opsB.map ByteArray.toList := by kernel_rfl
  rw [e, List.any_map]
  congr 1
  funext o
  exact beq_comm' _ _

set_option maxHeartbeats 2000000 in
set_option maxRecDepth 20000 in
theorem operators_any (w : World) :
    Calls Try.prog 44 #[] w fun e w' => ∃ g cap, e = .returned (.slice (some ⟨g, 0, none⟩) 13 cap) ∧ Strs w' (some ⟨g, 0, none⟩) opsB ∧ Below w.heap.size w w' := by
  go_enter Try.func44, Try.ntmps44
  go_wp2
  go_ret
  refine ⟨_, _, rfl, ?_, (Below.refl _ _).alloc (Nat.le_refl _) _⟩
  intro i h
  refine ⟨_, _, rfl, ?_⟩
  match i, h with
  | 0, _ => simp; rfl
  | 1, _ => simp; rfl
  | 2, _ => simp; rfl
  | 3, _ => simp; rfl
  | 4, _ => simp; rfl
  | 5, _ => simp; rfl
  | 6, _ => simp; rfl
  | 7, _ => simp; rfl
  | 8, _ => simp; rfl
  | 9, _ => simp; rfl
  | 10, _ => simp; rfl
  | 11, _ => simp; rfl
  | 12, _ => simp; rfl
  | n + 13, h => exact absurd h (by simp [opsB])

end Go.Proofs.Ytocidoamfofefaa

namespace Go.Proofs.Ytocidoamfofefaa
open Go.RowKit

theorem size_beq (tx : ByteArray) : (tx.size == 0) = ((tx.size : Int) == 0) := by
  by_cases h : tx.size = 0
  · rw [h]; rfl
  · rw [beq_eq_false_iff_ne.2 h, beq_eq_false_iff_ne.2 (by omega)]

theorem own_far (kd nm kk pl : Int) (tx : ByteArray) (h : pl ≠ 0) : ownB ⟨kd, nm, tx, kk, pl⟩ = false := by
  unfold ownB
  simp [h]

theorem own_bound (kd nm kk : Int) (tx : ByteArray) (h : boundK kd = true) : ownB ⟨kd, nm, tx, kk, 0⟩ = (decide (nm > 0) && ((tx.size : Int) == 0)) := by
  unfold ownB
  simp only [h, if_true, size_beq]
  simp

set_option maxHeartbeats 4000000 in
set_option maxRecDepth 20000 in
theorem own_any1 (kd nm kk : Int) (tx : ByteArray) (hb : boundK kd = true) (w : World) :
    Calls Try.prog 23 #[.agg #[.int .i64 kd, .int .i64 nm, .string tx, .int .i64 kk, .int .i64 0]] w fun e w' => e = .returned (.bool (ownB ⟨kd, nm, tx, kk, 0⟩)) ∧ Below w.heap.size w w' := by
  rw [own_bound kd nm kk tx hb]
  have hk : kd = 70 ∨ kd = 76 ∨ kd = 80 ∨ kd = 82 ∨ kd = 90 ∨ kd = 91 ∨ kd = 78 ∨ kd = 60 ∨ kd = 62 := by
    unfold boundK at hb
    simp at hb
    omega
  clear hb
  by_cases h0 : nm > 0
  · have t0 : decide (nm > 0) = true := decide_eq_true h0
    rcases hk with rfl | rfl | rfl | rfl | rfl | rfl | rfl | rfl | rfl
    all_goals
      go_enter Try.func23, Try.ntmps23
      go_wp2
      go_ret
      exact ⟨by rw [t0]; rfl, (Below.refl _ _).alloc (Nat.le_refl _) _⟩
  · have t0 : decide (nm > 0) = false := decide_eq_false h0
    rcases hk with rfl | rfl | rfl | rfl | rfl | rfl | rfl | rfl | rfl
    all_goals
      go_enter Try.func23, Try.ntmps23
      go_wp2
      go_ret
      exact ⟨by first | (rw [t0]; rfl) | rfl, (Below.refl _ _).alloc (Nat.le_refl _) _⟩

set_option maxHeartbeats 4000000 in
set_option maxRecDepth 20000 in
theorem own_any2 (kd nm kk : Int) (tx : ByteArray) (hk : kd = 71 ∨ kd = 72 ∨ kd = 17) (w : World) :
    Calls Try.prog 23 #[.agg #[.int .i64 kd, .int .i64 nm, .string tx, .int .i64 kk, .int .i64 0]] w fun e w' => e = .returned (.bool (ownB ⟨kd, nm, tx, kk, 0⟩)) ∧ Below w.heap.size w w' := by
  rcases hk with rfl | rfl | rfl
  · have HV : Hid (ownB ⟨71, nm, tx, kk, 0⟩ = (decide (nm ≥ -8) && decide (nm ≤ -1) && ((tx.size : Int) == 0))) := by
      show ownB _ = _
      unfold ownB
      simp [boundK, size_beq]
    by_cases h1 : nm ≥ -8
    · have t1 : decide (nm ≥ -8) = true := decide_eq_true h1
      by_cases h2 : nm ≤ -1
      · have t2 : decide (nm ≤ -1) = true := decide_eq_true h2
        go_enter Try.func23, Try.ntmps23
        go_wp2
        go_ret
        exact ⟨by rw [HV.out, t1, t2]; rfl, (Below.refl _ _).alloc (Nat.le_refl _) _⟩
      · have t2 : decide (nm ≤ -1) = false := decide_eq_false h2
        go_enter Try.func23, Try.ntmps23
        go_wp2
        go_ret
        exact ⟨by rw [HV.out, t1, t2]; rfl, (Below.refl _ _).alloc (Nat.le_refl _) _⟩
    · have t1 : decide (nm ≥ -8) = false := decide_eq_false h1
      go_enter Try.func23, Try.ntmps23
      go_wp2
      go_ret
      exact ⟨by rw [HV.out, t1]; rfl, (Below.refl _ _).alloc (Nat.le_refl _) _⟩
  · have HV : Hid (ownB ⟨72, nm, tx, kk, 0⟩ = ((tx.size : Int) == 0)) := by
      show ownB _ = _
      unfold ownB
      simp [boundK, size_beq]
    go_enter Try.func23, Try.ntmps23
    go_wp2
    go_ret
    exact ⟨by rw [HV.out]; rfl, (Below.refl _ _).alloc (Nat.le_refl _) _⟩
  · have HV : Hid (ownB ⟨17, nm, tx, kk, 0⟩ = ((tx.size : Int) == 0)) := by
      show ownB _ = _
      unfold ownB
      simp [boundK, size_beq]
    go_enter Try.func23, Try.ntmps23
    go_wp2
    go_ret
    exact ⟨by rw [HV.out]; rfl, (Below.refl _ _).alloc (Nat.le_refl _) _⟩

set_option maxHeartbeats 4000000 in
set_option maxRecDepth 20000 in
theorem own_any3 (kd nm kk : Int) (tx : ByteArray) (hk : kd ≠ 70 ∧ kd ≠ 76 ∧ kd ≠ 80 ∧ kd ≠ 82 ∧ kd ≠ 90 ∧ kd ≠ 91 ∧ kd ≠ 78 ∧ kd ≠ 60 ∧ kd ≠ 62 ∧ kd ≠ 71 ∧ kd ≠ 72 ∧ kd ≠ 17) (hn : nm ≠ 0) (w : World) :
    Calls Try.prog 23 #[.agg #[.int .i64 kd, .int .i64 nm, .string tx, .int .i64 kk, .int .i64 0]] w fun e w' => e = .returned (.bool (ownB ⟨kd, nm, tx, kk, 0⟩)) ∧ Below w.heap.size w w' := by
  have HV : Hid (ownB ⟨kd, nm, tx, kk, 0⟩ = false) := by
    show ownB _ = _
    unfold ownB
    simp [boundK, hk, hn]
  have u70 : (kd == 70) = false := by simp; omega
  have u76 : (kd == 76) = false := by simp; omega
  have u80 : (kd == 80) = false := by simp; omega
  have u82 : (kd == 82) = false := by simp; omega
  have u90 : (kd == 90) = false := by simp; omega
  have u91 : (kd == 91) = false := by simp; omega
  have u78 : (kd == 78) = false := by simp; omega
  have u60 : (kd == 60) = false := by simp; omega
  have u62 : (kd == 62) = false := by simp; omega
  have u71 : (kd == 71) = false := by simp; omega
  have u72 : (kd == 72) = false := by simp; omega
  have u17 : (kd == 17) = false := by simp; omega
  have un : (nm == 0) = false := by simpa using hn
  clear hk
  go_enter Try.func23, Try.ntmps23
  go_wp2
  go_ret
  exact ⟨by rw [HV.out]; rfl, (Below.refl _ _).alloc (Nat.le_refl _) _⟩

set_option maxHeartbeats 4000000 in
set_option maxRecDepth 20000 in
theorem own_any4 (kd kk : Int) (tx : ByteArray) (hk : kd = 73 ∨ kd = 18 ∨ kd = 74 ∨ kd = 19 ∨ kd = 12) (w : World) :
    Calls Try.prog 23 #[.agg #[.int .i64 kd, .int .i64 0, .string tx, .int .i64 kk, .int .i64 0]] w fun e w' => e = .returned (.bool (ownB ⟨kd, 0, tx, kk, 0⟩)) ∧ Below w.heap.size w w' := by
  have HV : Hid (ownB ⟨kd, 0, tx, kk, 0⟩ = true) := by
    show ownB _ = _
    rcases hk with rfl | rfl | rfl | rfl | rfl <;> rfl
  rcases hk with rfl | rfl | rfl | rfl | rfl
  all_goals
    go_enter Try.func23, Try.ntmps23
    go_wp2
    go_ret
    exact ⟨by rw [HV.out]; rfl, (Below.refl _ _).alloc (Nat.le_refl _) _⟩

set_option maxHeartbeats 4000000 in
set_option maxRecDepth 20000 in
theorem own_any5 (kk : Int) (tx : ByteArray) (w : World) :
    Calls Try.prog 23 #[.agg #[.int .i64 83, .int .i64 0, .string tx, .int .i64 kk, .int .i64 0]] w fun e w' => e = .returned (.bool (ownB ⟨83, 0, tx, kk, 0⟩)) ∧ Below w.heap.size w w' := by
  have HV : Hid (ownB ⟨83, 0, tx, kk, 0⟩ = (tx.toList == [77, 97, 116, 99, 104] || tx.toList == [66, 105, 110, 100])) := rfl
  cases h1 : (tx.toList == [77, 97, 116, 99, 104])
  · go_enter Try.func23, Try.ntmps23
    go_wp2
    go_ret
    exact ⟨by rw [HV.out, h1]; rfl, (Below.refl _ _).alloc (Nat.le_refl _) _⟩
  · go_enter Try.func23, Try.ntmps23
    go_wp2
    go_ret
    exact ⟨by rw [HV.out, h1]; rfl, (Below.refl _ _).alloc (Nat.le_refl _) _⟩

set_option maxHeartbeats 4000000 in
set_option maxRecDepth 20000 in
theorem own_any6 (kk : Int) (tx : ByteArray) (w : World) :
    Calls Try.prog 23 #[.agg #[.int .i64 89, .int .i64 0, .string tx, .int .i64 kk, .int .i64 0]] w fun e w' => e = .returned (.bool (ownB ⟨89, 0, tx, kk, 0⟩)) ∧ Below w.heap.size w w' := by
  have HV : Hid (ownB ⟨89, 0, tx, kk, 0⟩ = (tx.toList == [126] || tx.toList == [33])) := rfl
  cases h1 : (tx.toList == [126])
  · go_enter Try.func23, Try.ntmps23
    go_wp2
    go_ret
    exact ⟨by rw [HV.out, h1]; rfl, (Below.refl _ _).alloc (Nat.le_refl _) _⟩
  · go_enter Try.func23, Try.ntmps23
    go_wp2
    go_ret
    exact ⟨by rw [HV.out, h1]; rfl, (Below.refl _ _).alloc (Nat.le_refl _) _⟩

set_option maxHeartbeats 4000000 in
set_option maxRecDepth 20000 in
theorem own_any7 (kk : Int) (tx : ByteArray) (w : World) :
    Calls Try.prog 23 #[.agg #[.int .i64 88, .int .i64 0, .string tx, .int .i64 kk, .int .i64 0]] w fun e w' => e = .returned (.bool (ownB ⟨88, 0, tx, kk, 0⟩)) ∧ Below w.heap.size w w' := by
  have HV : Hid (ownB ⟨88, 0, tx, kk, 0⟩ = opsL.any (fun o => tx.toList == o)) := rfl
  go_enter Try.func23, Try.ntmps23
  go_wp2_with fail
  have cW : (w.alloc (.cells #[.int .i64 88, .int .i64 0, .string tx, .int .i64 kk, .int .i64 0] 39)).cell? ⟨w.heap.size, 2, none⟩ = some (.string tx) := by rw [cell_of_row _ _ _ _ _ _ (heap_alloc_new _ _)]; rfl
  have lW : w.heap.size < (w.alloc (.cells #[.int .i64 88, .int .i64 0, .string tx, .int .i64 kk, .int .i64 0] 39)).heap.size := by simp
  have hbW := (Below.refl w.heap.size w).alloc (Nat.le_refl _) (.cells #[.int .i64 88, .int .i64 0, .string tx, .int .i64 kk, .int .i64 0] 39)
  generalize w.alloc (.cells #[.int .i64 88, .int .i64 0, .string tx, .int .i64 kk, .int .i64 0] 39) = W at *
  go_region_with (first
    | (go_at_call 44; refine (operators_any _).mono ?_; rintro e w1 ⟨g, cap, rfl, hS, hb1⟩; have c1 := (hb1.cell (p := ⟨w.heap.size, 2, none⟩) (by simpa using lW)).trans cW; have l1 : w.heap.size < w1.heap.size := Nat.lt_of_lt_of_le lW (by simpa using hb1.size))
    | (go_at_call 43; refine (in_any opsB 13 rfl (by omega) _ _ _ _ hS).mono ?_; rintro e w2 ⟨rfl, rfl⟩))
  all_goals
    rw [ops_same, ← HV.out]
    have hb2 := Below.step hbW (undrew hb1)
    clear hS HV hb1
    go_wp2
    go_ret
    exact ⟨rfl, hb2⟩

set_option maxHeartbeats 4000000 in
set_option maxRecDepth 20000 in
theorem own_any8 (kd kk : Int) (tx : ByteArray) (hk : kd ≠ 70 ∧ kd ≠ 76 ∧ kd ≠ 80 ∧ kd ≠ 82 ∧ kd ≠ 90 ∧ kd ≠ 91 ∧ kd ≠ 78 ∧ kd ≠ 60 ∧ kd ≠ 62 ∧ kd ≠ 71 ∧ kd ≠ 72 ∧ kd ≠ 17 ∧ kd ≠ 73 ∧ kd ≠ 18 ∧ kd ≠ 74 ∧ kd ≠ 19 ∧ kd ≠ 12 ∧ kd ≠ 83 ∧ kd ≠ 88 ∧ kd ≠ 89) (w : World) :
    Calls Try.prog 23 #[.agg #[.int .i64 kd, .int .i64 0, .string tx, .int .i64 kk, .int .i64 0]] w fun e w' => e = .returned (.bool (ownB ⟨kd, 0, tx, kk, 0⟩)) ∧ Below w.heap.size w w' := by
  have HV : Hid (ownB ⟨kd, 0, tx, kk, 0⟩ = ((tx.size : Int) == 0)) := by
    show ownB _ = _
    unfold ownB
    simp [boundK, hk, size_beq]
  have u70 : (kd == 70) = false := by simp; omega
  have u76 : (kd == 76) = false := by simp; omega
  have u80 : (kd == 80) = false := by simp; omega
  have u82 : (kd == 82) = false := by simp; omega
  have u90 : (kd == 90) = false := by simp; omega
  have u91 : (kd == 91) = false := by simp; omega
  have u78 : (kd == 78) = false := by simp; omega
  have u60 : (kd == 60) = false := by simp; omega
  have u62 : (kd == 62) = false := by simp; omega
  have u71 : (kd == 71) = false := by simp; omega
  have u72 : (kd == 72) = false := by simp; omega
  have u17 : (kd == 17) = false := by simp; omega
  have u73 : (kd == 73) = false := by simp; omega
  have u18 : (kd == 18) = false := by simp; omega
  have u74 : (kd == 74) = false := by simp; omega
  have u19 : (kd == 19) = false := by simp; omega
  have u12 : (kd == 12) = false := by simp; omega
  have u83 : (kd == 83) = false := by simp; omega
  have u88 : (kd == 88) = false := by simp; omega
  have u89 : (kd == 89) = false := by simp; omega
  clear hk
  go_enter Try.func23, Try.ntmps23
  go_wp2
  go_ret
  exact ⟨by rw [HV.out]; rfl, (Below.refl _ _).alloc (Nat.le_refl _) _⟩

set_option maxHeartbeats 4000000 in
set_option maxRecDepth 20000 in
theorem own_any (x : Nd) (w : World) :
    Calls Try.prog 23 #[.agg #[.int .i64 x.kind, .int .i64 x.num, .string x.text, .int .i64 x.kids, .int .i64 x.place]] w fun e w' => e = .returned (.bool (ownB x)) ∧ Below w.heap.size w w' := by
  obtain ⟨kd, nm, tx, kk, pl⟩ := x
  simp only
  by_cases hp : pl = 0
  · subst hp
    cases hb : boundK kd
    · have hnb : kd ≠ 70 ∧ kd ≠ 76 ∧ kd ≠ 80 ∧ kd ≠ 82 ∧ kd ≠ 90 ∧ kd ≠ 91 ∧ kd ≠ 78 ∧ kd ≠ 60 ∧ kd ≠ 62 := by
        unfold boundK at hb
        simp at hb
        omega
      by_cases h2 : kd = 71 ∨ kd = 72 ∨ kd = 17
      · exact own_any2 kd nm kk tx h2 w
      by_cases h3 : nm = 0
      · subst h3
        by_cases h4 : kd = 73 ∨ kd = 18 ∨ kd = 74 ∨ kd = 19 ∨ kd = 12
        · exact own_any4 kd kk tx h4 w
        by_cases h5 : kd = 83
        · subst h5; exact own_any5 kk tx w
        by_cases h6 : kd = 89
        · subst h6; exact own_any6 kk tx w
        by_cases h7 : kd = 88
        · subst h7; exact own_any7 kk tx w
        exact own_any8 kd kk tx (by omega) w
      · exact own_any3 kd nm kk tx (by omega) h3 w
    · exact own_any1 kd nm kk tx hb w
  · have HV : Hid (ownB ⟨kd, nm, tx, kk, pl⟩ = false) := own_far kd nm kk pl tx hp
    have up : (pl == 0) = false := by simpa using hp
    go_enter Try.func23, Try.ntmps23
    go_wp2
    go_ret
    exact ⟨by rw [HV.out]; rfl, (Below.refl _ _).alloc (Nat.le_refl _) _⟩

end Go.Proofs.Ytocidoamfofefaa
