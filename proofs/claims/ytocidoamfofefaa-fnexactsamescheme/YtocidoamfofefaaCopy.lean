
import Derived.Test.YtocidoamfofefaaYAD
import Derived.Test.YtocidoamfofefaaYAC
import Derived.Test.YtocidoamfofefaaYAF
import Derived.Test.YtocidoamfofefaaYAL
namespace Go.Proofs.Ytocidoamfofefaa
open Go.RowKit

theorem nd_new_cells (w : World) (n : Nd) : ∀ j u, n.row[j]? = some u →
    (w.alloc (.cells #[.int .i64 n.kind, .int .i64 n.num, .string n.text, .int .i64 n.kids, .int .i64 n.place] 39)).cell? (Addr.add ⟨w.heap.size, 0, none⟩ j) = some u := by
  intro j u hj
  have ad : Addr.add ⟨w.heap.size, 0, none⟩ j = ⟨w.heap.size, j, none⟩ := by
    unfold Addr.add
    split
    · simp_all
    · simp
  rw [ad, cell_of_row _ w.heap.size j _ 39 (0, 0) (heap_alloc_new _ _), ← hj]
  simp [Nd.row]

theorem nd_row_one (n : Nd) : ∀ u ∈ n.row, u.oneCell' = true := by
  intro u hu
  simp [Nd.row] at hu
  rcases hu with rfl | rfl | rfl | rfl | rfl <;> rfl

theorem nd_flat_one (ks : List Nd) : ∀ u ∈ flat ks, u.oneCell' = true := by
  intro u hu
  unfold flat at hu
  obtain ⟨n, _, hn⟩ := List.mem_flatMap.1 hu
  exact nd_row_one n u hn

/-- A slice of nodes of the call's own. -/
def OwnN (w : World) (B g c l : Nat) (zs : List Nd) : Prop := zs.length = l ∧ w.ownsRow B 39 5 (.slice (some ⟨g, 0, none⟩) l c) l (flat zs)

theorem OwnN.row {w : World} {B g c l : Nat} {zs : List Nd} (h : OwnN w B g c l zs) : B ≤ g ∧ Row w g zs := by
  obtain ⟨hl, ho⟩ := h
  rcases ho.2 with ⟨h', _⟩ | ⟨g2, cap2, cur, he, hb, hh, _, _, _, htake⟩
  · cases h'
  · simp only [Value.slice.injEq, Option.some.injEq, Addr.mk.injEq, and_true, true_and] at he
    obtain ⟨rfl, rfl⟩ := he
    exact ⟨hb, cur, cur.toList.drop (l * 5), hh, by rw [← htake, List.take_append_drop]⟩

theorem OwnN.empty {w : World} {B : Nat} (hB : B ≤ w.heap.size) : OwnN (w.alloc (.cells #[] 39)) B w.heap.size 0 0 [] :=
  ⟨rfl, rfl, Or.inr ⟨_, 0, #[], rfl, hB, heap_alloc_new _ _, Nat.le_refl _, by simp [maxLen], rfl, rfl⟩⟩

theorem OwnN.alloc {w : World} {B g c l : Nat} {zs : List Nd} (h : OwnN w B g c l zs) (o : Obj) : OwnN (w.alloc o) B g c l zs := ⟨h.1, h.2.alloc o⟩

theorem OwnN.below {w w' : World} {B g c l : Nat} {zs : List Nd} (h : OwnN w B g c l zs) (hb : Below w.heap.size w w') : OwnN w' B g c l zs :=
  ⟨h.1, owns_but (S := fun _ => False) h.2 (But.ofBelow hb) (fun h => h)⟩

theorem OwnN.push {w : World} {B g c l m : Nat} {zs : List Nd} {x : Nd} (h : w.ownsRow B 39 5 (.slice (some ⟨g, 0, none⟩) m c) m (flat zs ++ x.row)) (hl : zs.length = l) (hm : m = l + 1) : OwnN w B g c (l + 1) (zs ++ [x]) := by
  subst hm
  refine ⟨by simp [hl], ?_⟩
  rw [flat_append]
  have e : flat [x] = x.row := by simp [flat]
  rw [e]
  exact h

/-- The nodes from f on up to i. -/
def span (t : List Nd) (f i : Nat) : List Nd := (t.take (i + 1)).drop f

theorem span_length (t : List Nd) (f i : Nat) (hi : i < t.length) : (span t f i).length = i + 1 - f := by simp [span]; omega

theorem span_nodes {w : World} {g : Nat} {t : List Nd} (h : Row w g t) (f i : Nat) (hi : i < t.length) : Nodes w (some ⟨g, f * 5, none⟩) (span t f i) := by
  intro j hj
  have hl := span_length t f i hi
  refine ⟨g, f * 5, rfl, ?_⟩
  have h1 := h.node (f + j) (by omega)
  have e : (f + j) * 5 = f * 5 + j * 5 := by omega
  rw [e] at h1
  have e2 : (span t f i)[j] = t[f + j]'(by omega) := by simp [span]
  rw [e2]
  exact h1

/-- The part of a list that ends at node i. -/
def partOf (t : List Nd) (i : Int) : List Nd :=
  if 0 < deepOf t ∧ 0 ≤ i ∧ i < t.length then match after t t.length with
    | none => []
    | some (_, ys) => match ys[i.toNat]? with
      | none => []
      | some s => span t s.fr i.toNat
  else []

theorem partOf_none {t : List Nd} {i : Int} (h : ¬ (0 < deepOf t ∧ 0 ≤ i ∧ i < t.length)) : partOf t i = [] := by
  unfold partOf
  rw [if_neg h]

theorem partOf_some {t : List Nd} {i : Nat} {S ys : List Sp} {s : Sp} (hd : 0 < deepOf t) (hi : i < t.length) (ha : after t t.length = some (S, ys)) (hs : ys[i]? = some s) : partOf t (i : Int) = span t s.fr i := by
  unfold partOf
  rw [if_pos ⟨hd, by omega, by omega⟩, ha]
  simp only [Int.toNat_natCast, hs]

theorem deep_after {t : List Nd} {m : Nat} (hm : t.length = m) (hd : 0 < deepOf t) : 0 < m ∧ m ≤ 6000 ∧ ∃ S ys, after t m = some (S, ys) ∧ ys.length = m := by
  have h6 : m ≤ 6000 := by
    by_cases h : m ≤ 6000
    · exact h
    · have := deepOf_great (t := t) (by omega)
      omega
  have h0 : 0 < m := by
    by_cases h : m = 0
    · have := deepOf_nil (t := t) (by omega)
      omega
    · omega
  cases hA : after t m with
  | none =>
    have := deepOf_none (t := t) (by rw [hm]; exact hA)
    omega
  | some p =>
    obtain ⟨S, ys⟩ := p
    exact ⟨h0, h6, S, ys, rfl, (after_fine hA).len⟩

end Go.Proofs.Ytocidoamfofefaa
