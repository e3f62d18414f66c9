
import Derived.Test.YtljdcaoibnikjaaIDeep
import Derived.Test.YtljdcaoibnikjaaClone
namespace Go.Proofs.Ytljdcaoibnikjaa
open Go.RowKit Go.Shelf

attribute [local go_sem] Oper.semAt_some

/-- A box of one cell. -/
def Box1 (w : World) (b : Nat) (t : TypeId) (v : Value) : Prop := w.heap[b]? = some (.cells #[v] t (0, 0))

theorem Box1.lt {w : World} {b : Nat} {t : TypeId} {v : Value} (h : Box1 w b t v) : b < w.heap.size := (Array.getElem?_eq_some_iff.1 h).1

theorem Box1.cell {w : World} {b : Nat} {t : TypeId} {v : Value} (h : Box1 w b t v) : w.cell? ⟨b, 0, none⟩ = some v := by rw [cell_of_row w b 0 _ t (0, 0) h]; rfl

theorem Box1.frozen {w : World} {b : Nat} {t : TypeId} {v : Value} (h : Box1 w b t v) : w.frozen? ⟨b, 0, none⟩ = false := frozen_of_row w b 0 _ t h

theorem Box1.set {w : World} {b : Nat} {t : TypeId} {v : Value} (h : Box1 w b t v) (u : Value) : Box1 (w.setCell ⟨b, 0, none⟩ u) b t u := heap_setCell_same w b 0 _ t u h

theorem Box1.below {w w' : World} {B b : Nat} {t : TypeId} {v : Value} (h : Box1 w b t v) (hb : Below B w w') (hlt : b < B) : Box1 w' b t v := (hb.block b hlt).trans h

theorem Box1.but {S : Nat → Prop} {w w' : World} {b : Nat} {t : TypeId} {v : Value} (h : Box1 w b t v) (hb : But S w w') (hs : ¬ S b) : Box1 w' b t v := (hb.block b h.lt hs).trans h

theorem Box1.new (w : World) (t : TypeId) (v : Value) : Box1 (w.alloc (.cells #[v] t)) w.heap.size t v := heap_alloc_new _ _

theorem Box1.alloc {w : World} {b : Nat} {t : TypeId} {v : Value} (h : Box1 w b t v) (o : Obj) : Box1 (w.alloc o) b t v := (Below.heap_alloc w o b h.lt).trans h

/-- The three boxes of Part. -/
def boxes (w : World) (g m cm : Nat) (i : Int) : World :=
  ((w.alloc (.cells #[.slice (some ⟨g, 0, none⟩) m cm] 27)).alloc (.cells #[.int .i64 i] 3)).alloc (.cells #[.slice none 0 0] 27)

theorem boxes_size (w : World) (g m cm : Nat) (i : Int) : (boxes w g m cm i).heap.size = w.heap.size + 3 := by simp [boxes]

theorem boxes_below (w : World) (g m cm : Nat) (i : Int) : Below w.heap.size w (boxes w g m cm i) := (((Below.refl _ w).alloc (Nat.le_refl _) _).alloc (by simp) _).alloc (by simp; omega) _

theorem boxes_at (w : World) (g m cm : Nat) (i : Int) : Box1 (boxes w g m cm i) w.heap.size 27 (.slice (some ⟨g, 0, none⟩) m cm) ∧ Box1 (boxes w g m cm i) (w.heap.size + 1) 3 (.int .i64 i) ∧ Box1 (boxes w g m cm i) (w.heap.size + 1 + 1) 27 (.slice none 0 0) := by
  refine ⟨((Box1.new w _ _).alloc _).alloc _, ?_, ?_⟩
  · have := (Box1.new (w.alloc (.cells #[.slice (some ⟨g, 0, none⟩) m cm] 27)) 3 (.int .i64 i)).alloc (.cells #[.slice none 0 0] 27)
    rw [World.size_alloc] at this
    exact this
  · have := Box1.new ((w.alloc (.cells #[.slice (some ⟨g, 0, none⟩) m cm] 27)).alloc (.cells #[.int .i64 i] 3)) 27 (.slice none 0 0)
    rw [World.size_alloc, World.size_alloc] at this
    exact this

theorem came_all {t : List Nd} {S ys xs : List Sp} (h : Came t xs) (ha : after t t.length = some (S, ys)) : xs = ys := by
  obtain ⟨k, S', hk, he⟩ := h
  have hle := after_le hk
  by_cases hkl : k = t.length
  · subst hkl
    rw [ha] at hk
    simp only [Option.some.injEq, Prod.mk.injEq] at hk
    exact hk.2.symm
  · have hn : after t (k + 1) = none := by
      rcases he with h | h
      · exact absurd h hkl
      · exact h
    rw [after_none hn t.length (by omega)] at ha
    cases ha

end Go.Proofs.Ytljdcaoibnikjaa
