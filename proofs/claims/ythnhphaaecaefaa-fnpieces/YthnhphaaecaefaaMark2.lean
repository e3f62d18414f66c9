
import Derived.Test.YthnhphaaecaefaaMark
import Derived.Test.YthnhphaaecaefaaBut
namespace Go.Proofs.Ythnhphaaecaefaa
open Go.RowKit

/-- The node that bears the marks from j on. -/
def mk (j : Nat) : Nd := ⟨(j : Int), (j : Int) + 1, mtext (j + 2), (j : Int) + 1 + 1 + 1, (j : Int) + 1 + 1 + 1 + 1⟩

def marks (k n : Nat) : List Nd := (List.range n).map fun i => mk (k + 5 * i)

theorem marks_length (k n : Nat) : (marks k n).length = n := by simp [marks]

theorem marks_get (k n i : Nat) (h : i < (marks k n).length) : (marks k n)[i] = mk (k + 5 * i) := by simp [marks]

theorem mark_step (k : Nat) (ys : List Nd) (j : Nat) (h : j < ys.length) : (marks k j ++ ys.drop j).set j (mk (k + 5 * j)) = marks k (j + 1) ++ ys.drop (j + 1) := by
  rw [List.set_append_right _ _ (by rw [marks_length]; omega)]
  have e : j - (marks k j).length = 0 := by rw [marks_length]; omega
  rw [e, List.drop_eq_getElem_cons h, List.set_cons_zero]
  have e2 : marks k (j + 1) = marks k j ++ [mk (k + 5 * j)] := by simp [marks, List.range_succ]
  rw [e2, List.append_assoc]
  rfl

end Go.Proofs.Ythnhphaaecaefaa
