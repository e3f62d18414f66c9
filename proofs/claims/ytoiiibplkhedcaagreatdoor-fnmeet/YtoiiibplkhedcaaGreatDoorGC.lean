import Derived.Test.YtoiiibplkhedcaaGreatDoorGA
import Derived.WalkKit
import Derived.Test.YtoiiibplkhedcaaGreatDoorGB
import Derived.Test.YtoiiibplkhedcaaGreatDoorGF
namespace Go.Proofs.YtoiiibplkhedcaaGreatDoor
open Go.RowKit
def Pairs (w : World) (ao : Option Addr) (ps : List (List Nd × List Nd)) : Prop := ∀ i (h : i < ps.length), ∃ b o a1 c1 a2 c2, ao = some ⟨b, o, none⟩ ∧ w.cell? ⟨b, o + i * 2, none⟩ = some (.slice a1 ps[i].1.length c1) ∧ w.cell? ⟨b, o + i * 2 + 1, none⟩ = some (.slice a2 ps[i].2.length c2) ∧ Nodes w a1 ps[i].1 ∧ Nodes w a2 ps[i].2
theorem Pairs.below {w w' : World} {ao : Option Addr} {ps : List (List Nd × List Nd)} (h : Pairs w ao ps) (hb : Below w.heap.size w w') : Pairs w' ao ps := by
  intro i hi
  obtain ⟨b, o, a1, c1, a2, c2, e, h1, h2, h3, h4⟩ := h i hi
  exact ⟨b, o, a1, c1, a2, c2, e, (hb.cell (lt_of_cell h1)).trans h1, (hb.cell (lt_of_cell h2)).trans h2, h3.below hb, h4.below hb⟩
def pairSum (ps : List (List Nd × List Nd)) (i : Nat) : Nat := ((ps.take i).map fun p => p.1.length + p.2.length).sum
theorem pairSum_succ {ps : List (List Nd × List Nd)} {i : Nat} (h : i < ps.length) : pairSum ps (i + 1) = pairSum ps i + ps[i].1.length + ps[i].2.length := by
  unfold pairSum
  rw [List.take_succ_eq_append_getElem h, List.map_append, List.sum_append]
  simp
  omega
theorem pairSum_le (ps : List (List Nd × List Nd)) (i : Nat) : pairSum ps i ≤ (ps.map fun p => p.1.length + p.2.length).sum := by
  unfold pairSum
  have h9 : ps.map (fun p => p.1.length + p.2.length) = (ps.take i).map (fun p => p.1.length + p.2.length) ++ (ps.drop i).map (fun p => p.1.length + p.2.length) := by rw [← List.map_append, List.take_append_drop]
  rw [h9, List.sum_append]
  omega
theorem rbox3 {w : World} {z : Nat} {a b c a' b' c' : Value} (h : w.heap[z]? = some (.cells #[a, b, c] 46 (0, 0))) : w.cell? ⟨z, 0, none⟩ = some a ∧ w.cell? ⟨z, 1, none⟩ = some b ∧ w.cell? ⟨z, 2, none⟩ = some c ∧ w.frozen? ⟨z, 0, none⟩ = false ∧ w.frozen? ⟨z, 1, none⟩ = false ∧ w.frozen? ⟨z, 2, none⟩ = false ∧ z < w.heap.size ∧ But (fun i => i = z) w (((w.setCell ⟨z, 0, none⟩ a').setCell ⟨z, 1, none⟩ b').setCell ⟨z, 2, none⟩ c') := by
  refine ⟨?_, ?_, ?_, frozen_of_row w z 0 _ 46 h, frozen_of_row w z 1 _ 46 h, frozen_of_row w z 2 _ 46 h, (Array.getElem?_eq_some_iff.1 h).1, (((But.refl (fun i => i = z) w).setCell (p := ⟨z, 0, none⟩) rfl _).setCell (p := ⟨z, 1, none⟩) rfl _).setCell (p := ⟨z, 2, none⟩) rfl _⟩ <;> (rw [cell_of_row _ _ _ _ _ _ h]; rfl)
end Go.Proofs.YtoiiibplkhedcaaGreatDoor

namespace Go.Proofs.YtoiiibplkhedcaaGreatDoor
open Go.RowKit
/-! Pairs as the laws hold them: sizes, copies, equality. -/
end Go.Proofs.YtoiiibplkhedcaaGreatDoor

namespace Go.Proofs.YtoiiibplkhedcaaGreatDoor
open Go.RowKit
/-! Pairs that a law copies and marks. -/
end Go.Proofs.YtoiiibplkhedcaaGreatDoor

namespace Go.Proofs.YtoiiibplkhedcaaGreatDoor
open Go.RowKit
end Go.Proofs.YtoiiibplkhedcaaGreatDoor

namespace Go.Proofs.YtoiiibplkhedcaaGreatDoor
open Go.RowKit
theorem solve_len {ps : List (List Nd × List Nd)} {ok : Bool} {at' : Int} {bs : List (Int × List Nd)} (h : SolveRes ps ok at' bs) : bs.length ≤ 20000 ∧ ∀ b ∈ bs, b.2.length ≤ 300 := by
  cases h with
  | bad _ => exact ⟨by simp, by simp⟩
  | no _ _ _ _ _ => exact ⟨by simp, by simp⟩
  | large _ _ _ _ _ _ => exact ⟨by simp, by simp⟩
  | ok σ _ hv _ hup hocc hlen =>
    refine ⟨?_, fun b hb => (hlen b hb).2⟩
    have h1 : (nums bs).length ≤ (ps.flatMap fun p => metas p.1 ++ metas p.2).length := by
      refine nodup_len (hup.imp (fun {a b} hab e => by omega)) (fun x hx => ?_)
      obtain ⟨p, hp, h⟩ := (hocc x).1 hx
      refine List.mem_flatMap.2 ⟨p, hp, ?_⟩
      exact List.mem_append.2 h
    have h2 : ∀ qs : List (List Nd × List Nd), (qs.flatMap fun p => metas p.1 ++ metas p.2).length ≤ (qs.map fun p => p.1.length + p.2.length).sum := by
      intro qs
      induction qs with
      | nil => simp
      | cons q qs ih =>
        have h3 := metas_len q.1
        have h4 := metas_len q.2
        simp only [List.flatMap_cons, List.length_append, List.map_cons, List.sum_cons]
        omega
    have h3 := h2 ps
    have h4 := hv.1
    have h5 : (nums bs).length = bs.length := by simp [nums]
    omega
end Go.Proofs.YtoiiibplkhedcaaGreatDoor
