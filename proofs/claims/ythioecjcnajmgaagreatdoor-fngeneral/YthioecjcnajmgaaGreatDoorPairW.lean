import Derived.Test.YthioecjcnajmgaaGreatDoorDrawP
import Derived.Test.YthioecjcnajmgaaGreatDoorGC
namespace Go.Proofs.YthioecjcnajmgaaGreatDoor
open Go.RowKit

theorem PairOk2.wf {ps : List (List Nd × List Nd)} (h : PairOk2 ps) : ∀ p ∈ ps, (∀ x ∈ p.1, (Lit.int .i64 x.num).wf = true) ∧ ∀ x ∈ p.2, (Lit.int .i64 x.num).wf = true := by
  intro p hp
  refine ⟨fun x hx => ?_, fun x hx => ?_⟩
  · have := (h p hp).1.2 x hx
    exact WalkArith.wf_i64 (by omega)
  · have := (h p hp).2.2 x hx
    exact WalkArith.wf_i64 (by omega)

theorem PairOk2.len {ps : List (List Nd × List Nd)} (h : PairOk2 ps) : ∀ p ∈ ps, p.1.length ≤ 1048576 ∧ p.2.length ≤ 1048576 := by
  intro p hp
  have h1 := (h p hp).1.1
  have h2 := (h p hp).2.1
  omega

theorem PairOk2.take {ps : List (List Nd × List Nd)} (h : PairOk2 ps) (i : Nat) : PairOk2 (ps.take i) := fun p hp => h p (List.mem_of_mem_take hp)

theorem Pairs.take {w : World} {ao : Option Addr} {ps : List (List Nd × List Nd)} (h : Pairs w ao ps) (i : Nat) : Pairs w ao (ps.take i) := by
  intro j hj
  have hj' : j < ps.length := by simp at hj; omega
  have e : (ps.take i)[j] = ps[j] := by simp
  obtain ⟨b, o, a1, c1, a2, c2, h1, h2, h3, h4, h5⟩ := h j hj'
  exact ⟨b, o, a1, c1, a2, c2, h1, by rw [e]; exact h2, by rw [e]; exact h3, by rw [e]; exact h4, by rw [e]; exact h5⟩

end Go.Proofs.YthioecjcnajmgaaGreatDoor
