
import Derived.Test.YtocidoamfofefaaMark
import Derived.Test.YtocidoamfofefaaBut
namespace Go.Proofs.Ytocidoamfofefaa
open Go.RowKit

/-- The node that bears the marks from j on. -/
def mk (j : Nat) : Nd := ⟨(j : Int), (j : Int) + 1, mtext (j + 2), (j : Int) + 1 + 1 + 1, (j : Int) + 1 + 1 + 1 + 1⟩

def marks (k n : Nat) : List Nd := (List.range n).map fun i => mk (k + 5 * i)

theorem marks_length (k n : Nat) : (marks k n).length = n := by simp [marks]

theorem marks_get (k n i : Nat) (h : i < (marks k n).length) : (marks k n)[i] = mk (k + 5 * i) := by simp [marks]

theorem mark_step (k : Nat) (ys : List Nd) (j : Nat) (h : j < ys.length) : (marks k j ++ ys.drop j).set j (mk (k + 5 * j)) = marks k (j + 1) ++ ys.drop (j + 1) := by
  rw [List.set_append_right _ _ (by rw [marks_length]; omega)]
  have e : j - (marks k j).length = 0 := by rw [marks_length]; omega
  rw [e, List.drop_eq_getElem_cons h, List.set_cons_zero]
  have e2 : marks k (j + 1) = marks k j ++ [mk (k + 5 * j)] := by simp [marks, List.range_succ]
  rw [e2, List.append_assoc]
  rfl

theorem markText_int (z : Int) (k : Nat) (hz : z = (k : Int)) (hk : k ≤ 1000000000) (h0 : 0 < k) (w : World) :
    Calls Try.prog 35 #[.int .i64 z] w fun e w' => e = .returned (.string (mtext k)) ∧ Below w.heap.size w w' := by
  subst hz
  exact markText_any k hk h0 w

set_option maxHeartbeats 1000000 in
theorem markNodeS_any (ys : List Nd) (n g cap k : Nat) (w : World) (HN : Hid (ys.length = n)) (hr : Row w g ys) (hn : n ≤ 1048577) (hk : k ≤ 100000000) (hk0 : 0 < k) :
    Calls Try.prog 16 #[.slice (some ⟨g, 0, none⟩) n cap, .int .i64 k] w fun e w' =>
      e = .returned (.int .i64 (k + 5 * n : Nat)) ∧ Row w' g (marks k n) ∧ But (· = g) w w' := by
  go_enter Try.func16, Try.ntmps16
  go_wp2
  go_loopw [1, 5] (fun a i wr => ∃ (j : Nat), j ≤ n ∧ i = .int .i64 j ∧ a = .int .i64 (k + 5 * j : Nat) ∧ Row wr g (marks k j ++ ys.drop j) ∧ But (· = g) w wr) (fun _ i _ => n - (intOf i).toNat)
  case atStart => exact ⟨0, Nat.zero_le _, rfl, rfl, hr, But.refl _ _⟩
  case round =>
    obtain ⟨j, hj, rfl, rfl, hrow, hb⟩ := hrel
    clear hr
    by_cases hlt : j < n
    · have hl : (marks k j ++ ys.drop j).length = n := by have := HN.out; simp [marks_length]; omega
      have hl5 : (flat (marks k j ++ ys.drop j)).length = n * 5 := by rw [flat_length, hl]
      have HL : Hid (j < ys.length) := by have := HN.out; show j < ys.length; omega
      obtain ⟨v0, c0⟩ := Own.has hrow (j * 5) (by rw [hl5]; omega)
      obtain ⟨v1, c1⟩ := Own.has hrow (j * 5 + 1) (by rw [hl5]; omega)
      have f0 := Own.frozen hrow (j * 5)
      have f1 := Own.frozen hrow (j * 5 + 1)
      obtain ⟨q, hq⟩ : ∃ q : Nat, k + 5 * j = q := ⟨_, rfl⟩
      have HQ : Hid (k + 5 * j = q) := hq
      have hq1 : q ≤ 200000000 := by omega
      rw [hq]
      clear hl hq
      have O2 := (Own.set hrow (j * 5) (.int .i64 (q : Int)) (by rw [hl5]; omega)).set (j * 5 + 1) (.int .i64 ((q : Int) + 1)) (by simp only [List.length_set]; rw [hl5]; omega)
      have B2 := (hb.setCell (p := ⟨g, j * 5, none⟩) rfl (.int .i64 (q : Int))).setCell (p := ⟨g, j * 5 + 1, none⟩) rfl (.int .i64 ((q : Int) + 1))
      have HF : Hid (flat ((marks k j ++ ys.drop j).set j (mk q)) = flat (marks k (j + 1) ++ ys.drop (j + 1))) := by
        have := mark_step k ys j HL.out
        rw [HQ.out] at this
        exact congrArg flat this
      have HLL : Hid ((marks k j ++ ys.drop j).length = n) := by have := HN.out; show (marks k j ++ ys.drop j).length = n; simp [marks_length]; omega
      clear hb hrow hl5
      go_wp2_with fail
      refine (markText_int ((q : Int) + 1 + 1) (q + 2) (by omega) (by omega) (by omega) _).mono ?_
      rintro e w1 ⟨rfl, hb1⟩
      have O3 := O2.below hb1
      have B3 := B2.trans (But.ofBelow hb1)
      have hl5 : (flat (marks k j ++ ys.drop j)).length = n * 5 := by rw [flat_length, HLL.out]
      obtain ⟨v2, c2⟩ := O3.has (j * 5 + 2) (by simp only [List.length_set]; rw [hl5]; omega)
      obtain ⟨v3, c3⟩ := O3.has (j * 5 + 3) (by simp only [List.length_set]; rw [hl5]; omega)
      obtain ⟨v4, c4⟩ := O3.has (j * 5 + 4) (by simp only [List.length_set]; rw [hl5]; omega)
      have f2 := O3.frozen (j * 5 + 2)
      have f3 := O3.frozen (j * 5 + 3)
      have f4 := O3.frozen (j * 5 + 4)
      have O4 := ((O3.set (j * 5 + 2) (.string (mtext (q + 2))) (by simp only [List.length_set]; rw [hl5]; omega)).set (j * 5 + 3) (.int .i64 ((q : Int) + 1 + 1 + 1)) (by simp only [List.length_set]; rw [hl5]; omega)).set (j * 5 + 4) (.int .i64 ((q : Int) + 1 + 1 + 1 + 1)) (by simp only [List.length_set]; rw [hl5]; omega)
      have HS := flat_set (marks k j ++ ys.drop j) j (by rw [HLL.out]; exact hlt) (mk q)
      have R5 := O4.row (HS.trans HF.out)
      have B4 := ((B3.setCell (p := ⟨g, j * 5 + 2, none⟩) rfl (.string (mtext (q + 2)))).setCell (p := ⟨g, j * 5 + 3, none⟩) rfl (.int .i64 ((q : Int) + 1 + 1 + 1))).setCell (p := ⟨g, j * 5 + 4, none⟩) rfl (.int .i64 ((q : Int) + 1 + 1 + 1 + 1))
      clear O2 B2 O3 B3 O4 HS c0 c1 f0 f1 hb1 hl5
      go_wp2
      go_roundw
      case rel => exact ⟨j + 1, by omega, by go_num, by have := HQ.out; congr 1; omega, R5, B4⟩
      case measure => simp [intOf]; omega
    · have hje : j = n := by omega
      subst hje
      have R5 : Row wr g (marks k j) := by
        have e : ys.drop j = [] := List.drop_eq_nil_of_le (by have := HN.out; omega)
        rw [e, List.append_nil] at hrow
        exact hrow
      clear hrow
      go_wp2
      go_ret
      exact ⟨rfl, R5, hb⟩

end Go.Proofs.Ytocidoamfofefaa
