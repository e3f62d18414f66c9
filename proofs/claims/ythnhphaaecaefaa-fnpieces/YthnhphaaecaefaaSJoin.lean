
import Derived.Test.YthnhphaaecaefaaSS
import Derived.Test.YthnhphaaecaefaaLeaf
import Derived.Test.YthnhphaaecaefaaTo
namespace Go.Proofs.Ythnhphaaecaefaa
open Go.RowKit

theorem new_cells (w : World) (n : Nd) : ∀ j u, n.row[j]? = some u →
    (w.alloc (.cells #[.int .i64 n.kind, .int .i64 n.num, .string n.text, .int .i64 n.kids, .int .i64 n.place] 32)).cell? (Addr.add ⟨w.heap.size, 0, none⟩ j) = some u := by
  intro j u hj
  have hl : j < n.row.length := (List.getElem?_eq_some_iff.1 hj).1
  have ad : Addr.add ⟨w.heap.size, 0, none⟩ j = ⟨w.heap.size, j, none⟩ := by
    unfold Addr.add
    split
    · simp_all
    · simp
  rw [ad, cell_of_row _ w.heap.size j _ 32 (0, 0) (heap_alloc_new _ _), ← hj]
  simp [Nd.row]

theorem row_one (n : Nd) : ∀ u ∈ n.row, u.oneCell' = true := by
  intro u hu
  simp [Nd.row] at hu
  rcases hu with rfl | rfl | rfl | rfl | rfl <;> rfl

/-- A slice that owns the nodes zs. -/
def HoldsJ (w : World) (B : Nat) (v : Value) (zs : List Nd) : Prop := w.ownsRow B 32 5 v zs.length (flat zs)

theorem HoldsJ.length {w : World} {B : Nat} {v : Value} {zs : List Nd} (_ : HoldsJ w B v zs) : (flat zs).length = zs.length * 5 := flat_length zs

theorem HoldsJ.push {w : World} {B : Nat} {v : Value} {zs : List Nd} {x : Nd} {m : Nat} (h : w.ownsRow B 32 5 v m (flat zs ++ x.row)) (hm : m = zs.length + 1) : HoldsJ w B v (zs ++ [x]) := by
  subst hm
  unfold HoldsJ
  rw [flat_append, List.length_append]
  exact h

theorem HoldsJ.block {w : World} {B : Nat} {v : Value} {zs : List Nd} (h : HoldsJ w B v zs) : ∀ k, v.ownBlock = some k → B ≤ k := by
  intro k hk
  rcases h.2 with ⟨rfl, _⟩ | ⟨g, cap, cur, rfl, hg, _⟩
  · simp [Value.ownBlock] at hk
  · simp [Value.ownBlock] at hk
    omega

theorem HoldsJ.mono {w : World} {B B' : Nat} {v : Value} {zs : List Nd} (h : HoldsJ w B v zs) (hb : B' ≤ B) : HoldsJ w B' v zs := by
  refine ⟨h.1, ?_⟩
  rcases h.2 with h2 | ⟨g, cap, cur, e, hg, r⟩
  · exact Or.inl h2
  · exact Or.inr ⟨g, cap, cur, e, Nat.le_trans hb hg, r⟩

/-- What a slice that owns nodes is: a row of nodes. -/
theorem HoldsJ.row {w : World} {B : Nat} {v : Value} {zs : List Nd} (h : HoldsJ w B v zs) (hne : zs ≠ []) : ∃ g cap, v = .slice (some ⟨g, 0, none⟩) zs.length cap ∧ B ≤ g ∧ Row w g zs := by
  rcases h.2 with ⟨_, h0⟩ | ⟨g, cap, cur, e, hg, hh, _, _, _, ht⟩
  · exact absurd (List.length_eq_zero_iff.1 h0) hne
  · refine ⟨g, cap, e, hg, cur, cur.toList.drop (zs.length * 5), hh, ?_⟩
    rw [← ht, List.take_append_drop]

theorem flatten_take_succ (kss : List (List Nd)) (k : Nat) (h : k < kss.length) : (kss.take (k + 1)).flatten = (kss.take k).flatten ++ kss[k] := by
  rw [List.take_succ_eq_append_getElem h, List.flatten_append]
  simp only [List.flatten_cons, List.flatten_nil, List.append_nil]

theorem length_flatten_take (kss : List (List Nd)) (k : Nat) : (kss.take k).flatten.length ≤ total kss := by
  have := total_take_le kss k
  rw [List.length_flatten]
  exact this

end Go.Proofs.Ythnhphaaecaefaa
