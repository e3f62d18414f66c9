import Derived.Test.YtfkopelhaghdaaaDoorSpell
namespace Go.Proofs.YtfkopelhaghdaaaDoor
open Go.RowKit Go.Lib

/-- A token, spelled. -/
def spellOf (kind : Int) (text : ByteArray) (num : Int) : ByteArray :=
  if kind = 1 ∨ kind = 2 ∨ kind = 3 then text else if kind = 4 then ⟨#[39]⟩ ++ text else if kind = 5 then ⟨(spelled num).toArray⟩
  else if kind = 6 then ⟨(soFar text text.size ++ [34]).toArray⟩ else ⟨#[]⟩

set_option maxHeartbeats 1000000 in
theorem szToken_any (kind num at' : Int) (text : ByteArray) (w : World) (hs : text.size ≤ maxLen) :
    Calls Tryd.prog 4 #[.agg #[.int .i64 kind, .string text, .int .i64 num, .int .i64 at'], .int .i64 1048576] w fun e w' =>
      e = .returned (.int .i64 (if (1048576 : Int) < text.size then -1 else 1048576 - text.size)) ∧ Below w.heap.size w w' := by
  unfold maxLen at hs
  by_cases hl : (1048576 : Int) < text.size
  · go_enter Tryd.func4, Tryd.ntmps4
    go_wp2
    go_ret
    exact ⟨rfl, (Below.refl _ _).alloc (Nat.le_refl _) _⟩
  · go_enter Tryd.func4, Tryd.ntmps4
    go_wp2
    go_ret
    exact ⟨rfl, (Below.refl _ _).alloc (Nat.le_refl _) _⟩

set_option maxHeartbeats 1000000 in
theorem toToken_any (kind num at' : Int) (text : ByteArray) (w : World) :
    Calls Tryd.prog 6 #[.agg #[.int .i64 kind, .string text, .int .i64 num, .int .i64 at']] w fun e w' =>
      e = .returned (.agg #[.int .i64 kind, .string text, .int .i64 num, .int .i64 at']) ∧ Below w.heap.size w w' := by
  go_enter Tryd.func6, Tryd.ntmps6
  go_wp2
  refine bodyPost_ret (v := .agg #[.int .i64 kind, .string text, .int .i64 num, .int .i64 at']) (by simp [results, Tryd.results6, go_sem]) rfl ⟨rfl, ?_⟩
  exact (((Below.refl _ _).alloc (Nat.le_refl _) _).alloc (by simp) _).alloc (by simp; omega) _

set_option maxHeartbeats 1000000 in
theorem specSpell_any (kind num at' : Int) (text : ByteArray) (w : World) (hs : text.size ≤ 1048576) (h0 : -9223372036854775808 ≤ num) (h1 : num ≤ 9223372036854775807) :
    Calls Tryd.prog 5 #[.agg #[.int .i64 kind, .string text, .int .i64 num, .int .i64 at']] w fun e w' => e = .returned (.string (spellOf kind text num)) ∧ Below w.heap.size w w' := by
  have hn := num_any num h0 h1
  have hst := str_any text hs
  have hb : ∀ o, Below w.heap.size w (w.alloc o) := fun o => (Below.refl _ _).alloc (Nat.le_refl _) _
  have hle : (⟨#[39]⟩ : ByteArray).size + text.size ≤ 9223372036854775807 := by
    have e : (⟨#[39]⟩ : ByteArray).size = 1 := rfl
    omega
  by_cases c1 : kind = 1
  · subst c1
    clear hn hst
    go_enter Tryd.func5, Tryd.ntmps5
    go_wp2
    go_ret
    exact ⟨rfl, hb _⟩
  by_cases c2 : kind = 2
  · subst c2
    clear hn hst
    go_enter Tryd.func5, Tryd.ntmps5
    go_wp2
    go_ret
    exact ⟨rfl, hb _⟩
  by_cases c3 : kind = 3
  · subst c3
    clear hn hst
    go_enter Tryd.func5, Tryd.ntmps5
    go_wp2
    go_ret
    exact ⟨rfl, hb _⟩
  by_cases c4 : kind = 4
  · subst c4
    clear hn hst
    go_enter Tryd.func5, Tryd.ntmps5
    go_wp2
    go_ret
    exact ⟨rfl, hb _⟩
  by_cases c5 : kind = 5
  · subst c5
    clear hst
    go_enter Tryd.func5, Tryd.ntmps5
    go_wp2_with fail
    refine (hn _).mono ?_
    rintro e w1 ⟨rfl, b1⟩
    clear hn
    go_wp2
    go_ret
    exact ⟨rfl, (hb _).trans (b1.mono (hb _).size)⟩
  by_cases c6 : kind = 6
  · subst c6
    clear hn
    go_enter Tryd.func5, Tryd.ntmps5
    go_wp2_with fail
    refine (hst _).mono ?_
    rintro e w1 ⟨rfl, b1⟩
    clear hst
    go_wp2
    go_ret
    exact ⟨rfl, (hb _).trans (b1.mono (hb _).size)⟩
  have e1 : (kind == 1) = false := by simpa using c1
  have e2 : (kind == 2) = false := by simpa using c2
  have e3 : (kind == 3) = false := by simpa using c3
  have e4 : (kind == 4) = false := by simpa using c4
  have e5 : (kind == 5) = false := by simpa using c5
  have e6 : (kind == 6) = false := by simpa using c6
  have HE : Hid (spellOf kind text num = ⟨#[]⟩) := by
    show spellOf kind text num = _
    unfold spellOf
    rw [if_neg (by simp [c1, c2, c3]), if_neg c4, if_neg c5, if_neg c6]
  clear hn hst
  go_enter Tryd.func5, Tryd.ntmps5
  go_wp2
  go_ret
  exact ⟨by rw [HE.out]; rfl, hb _⟩

set_option maxHeartbeats 1000000 in
theorem implSpell_any (kind num at' : Int) (text : ByteArray) (m : Int) (w : World) (hs : text.size ≤ 1048576) (h0 : -9223372036854775808 ≤ num) (h1 : num ≤ 9223372036854775807)
    (htab : TabIs Tryd.prog w "internal/strconv.uint64pow10" .u64 pow10Tab) (hm : w.cell? ⟨0, 0, none⟩ = some (.int .i64 m)) :
    Calls Tryd.prog 7 #[.agg #[.int .i64 kind, .string text, .int .i64 num, .int .i64 at']] w fun e w' => e = .returned (.string (spellOf kind text num)) ∧ Below w.heap.size w w' := by
  have hb : ∀ o, Below w.heap.size w (w.alloc o) := fun o => (Below.refl _ _).alloc (Nat.le_refl _) _
  have hn : ∀ o, Calls Tryd.prog 10 #[.int .i64 num] (w.alloc o) fun e w' => e = .returned (.string ⟨(spelled num).toArray⟩) ∧ Below (w.alloc o).heap.size (w.alloc o) w' :=
    fun o => spellInt_any num h0 h1 m _ (tab_below htab (hb o)) (((hb o).cell (cell_lt hm)).trans hm)
  have hst : ∀ o, Calls Tryd.prog 11 #[.string text] (w.alloc o) fun e w' => e = .returned (.string ⟨(soFar text text.size ++ [34]).toArray⟩) ∧ Below (w.alloc o).heap.size (w.alloc o) w' :=
    fun o => spellStr_any text hs _ (tab_below htab (hb o))
  have hle : (⟨#[39]⟩ : ByteArray).size + text.size ≤ 9223372036854775807 := by
    have e : (⟨#[39]⟩ : ByteArray).size = 1 := rfl
    omega
  clear htab hm
  by_cases c1 : kind = 1
  · subst c1
    clear hn hst
    go_enter Tryd.func7, Tryd.ntmps7
    go_wp2
    go_ret
    exact ⟨rfl, hb _⟩
  by_cases c2 : kind = 2
  · subst c2
    clear hn hst
    go_enter Tryd.func7, Tryd.ntmps7
    go_wp2
    go_ret
    exact ⟨rfl, hb _⟩
  by_cases c3 : kind = 3
  · subst c3
    clear hn hst
    go_enter Tryd.func7, Tryd.ntmps7
    go_wp2
    go_ret
    exact ⟨rfl, hb _⟩
  by_cases c4 : kind = 4
  · subst c4
    clear hn hst
    go_enter Tryd.func7, Tryd.ntmps7
    go_wp2
    go_ret
    exact ⟨rfl, hb _⟩
  by_cases c5 : kind = 5
  · subst c5
    clear hst
    go_enter Tryd.func7, Tryd.ntmps7
    go_wp2_with fail
    refine (hn _).mono ?_
    rintro e w1 ⟨rfl, b1⟩
    clear hn
    go_wp2
    go_ret
    exact ⟨rfl, (hb _).trans (b1.mono (hb _).size)⟩
  by_cases c6 : kind = 6
  · subst c6
    clear hn
    go_enter Tryd.func7, Tryd.ntmps7
    go_wp2_with fail
    refine (hst _).mono ?_
    rintro e w1 ⟨rfl, b1⟩
    clear hst
    go_wp2
    go_ret
    exact ⟨rfl, (hb _).trans (b1.mono (hb _).size)⟩
  have e1 : (kind == 1) = false := by simpa using c1
  have e2 : (kind == 2) = false := by simpa using c2
  have e3 : (kind == 3) = false := by simpa using c3
  have e4 : (kind == 4) = false := by simpa using c4
  have e5 : (kind == 5) = false := by simpa using c5
  have e6 : (kind == 6) = false := by simpa using c6
  have HE : Hid (spellOf kind text num = ⟨#[]⟩) := by
    show spellOf kind text num = _
    unfold spellOf
    rw [if_neg (by simp [c1, c2, c3]), if_neg c4, if_neg c5, if_neg c6]
  clear hn hst
  go_enter Tryd.func7, Tryd.ntmps7
  go_wp2
  go_ret
  exact ⟨by rw [HE.out]; rfl, hb _⟩

end Go.Proofs.YtfkopelhaghdaaaDoor
