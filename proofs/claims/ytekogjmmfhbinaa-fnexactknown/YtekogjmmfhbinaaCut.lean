import Derived.Test.YtekogjmmfhbinaaWAA
import Derived.Orders
namespace Go.Proofs.Ytekogjmmfhbinaa
open Go.RowKit

theorem upon_then {P : Program} {o : Oper} {a : Act} {K Kc : Act → World → Prop} {Q : Exit → Act → World → Prop} {r : Result Next} (h : o.upon P a K (Exit.then Kc Q) r) : o.upon P a K Q r := by
  cases r with
  | ok n w' => cases n <;> exact h
  | halt x w' => cases x <;> exact h

/-- A row of operations, parted in two. -/
theorem wpList_cut {P : Program} {ops OPS : Array Oper} {Q : Exit → Act → World → Prop} {K : Act → World → Prop} {ys : List Oper} (hK : ∀ a w, K a w → wpList P ops Q ys a w) :
    ∀ (xs : List Oper), (∀ o ∈ xs, o.guard = none) → ∀ a w, wpList P OPS (Exit.then K Q) xs a w → wpList P ops Q (xs ++ ys) a w
  | [], _, a, w, h => hK a w h
  | o :: xs, hg, a, w, h => by
    have h1 : Region.wanted o (yielded OPS a.tmps) = true := by simp [Region.wanted, hg o (by simp)]
    have h2 : Region.wanted o (yielded ops a.tmps) = true := by simp [Region.wanted, hg o (by simp)]
    simp only [wpList, h1, if_true] at h
    simp only [List.cons_append, wpList, h2, if_true]
    refine h.imp (fun h => Oper.wp_mono (fun a' w' h' => wpList_cut hK xs (fun o ho => hg o (by simp [ho])) a' w' h') (upon_then h)) (fun h => ⟨h.1, h.2⟩)

section
variable {P : Program} {ops : Array Oper} {Q : Exit → Act → World → Prop} {ys : List Oper} {a : Act} {w : World} {o1 o2 o3 o4 o5 o6 : Oper}
theorem cut1 (g1 : o1.guard = none) (h : ∀ (K : Act → World → Prop) (OPS : Array Oper), Hid (∀ a w, wpList P ops Q ys a w → K a w) → wpList P OPS (Exit.then K Q) [o1] a w) : wpList P ops Q (o1 :: ys) a w :=
  wpList_cut (OPS := #[]) (K := wpList P ops Q ys) (fun _ _ h => h) [o1] (by simp [g1]) a w (h _ _ (fun _ _ h => h))
theorem cut2 (g1 : o1.guard = none) (g2 : o2.guard = none) (h : ∀ (K : Act → World → Prop) (OPS : Array Oper), Hid (∀ a w, wpList P ops Q ys a w → K a w) → wpList P OPS (Exit.then K Q) [o1, o2] a w) : wpList P ops Q (o1 :: o2 :: ys) a w :=
  wpList_cut (OPS := #[]) (K := wpList P ops Q ys) (fun _ _ h => h) [o1, o2] (by simp [g1, g2]) a w (h _ _ (fun _ _ h => h))
theorem cut3 (g1 : o1.guard = none) (g2 : o2.guard = none) (g3 : o3.guard = none) (h : ∀ (K : Act → World → Prop) (OPS : Array Oper), Hid (∀ a w, wpList P ops Q ys a w → K a w) → wpList P OPS (Exit.then K Q) [o1, o2, o3] a w) : wpList P ops Q (o1 :: o2 :: o3 :: ys) a w :=
  wpList_cut (OPS := #[]) (K := wpList P ops Q ys) (fun _ _ h => h) [o1, o2, o3] (by simp [g1, g2, g3]) a w (h _ _ (fun _ _ h => h))
theorem cut4 (g1 : o1.guard = none) (g2 : o2.guard = none) (g3 : o3.guard = none) (g4 : o4.guard = none) (h : ∀ (K : Act → World → Prop) (OPS : Array Oper), Hid (∀ a w, wpList P ops Q ys a w → K a w) → wpList P OPS (Exit.then K Q) [o1, o2, o3, o4] a w) : wpList P ops Q (o1 :: o2 :: o3 :: o4 :: ys) a w :=
  wpList_cut (OPS := #[]) (K := wpList P ops Q ys) (fun _ _ h => h) [o1, o2, o3, o4] (by simp [g1, g2, g3, g4]) a w (h _ _ (fun _ _ h => h))
theorem cut5 (g1 : o1.guard = none) (g2 : o2.guard = none) (g3 : o3.guard = none) (g4 : o4.guard = none) (g5 : o5.guard = none) (h : ∀ (K : Act → World → Prop) (OPS : Array Oper), Hid (∀ a w, wpList P ops Q ys a w → K a w) → wpList P OPS (Exit.then K Q) [o1, o2, o3, o4, o5] a w) : wpList P ops Q (o1 :: o2 :: o3 :: o4 :: o5 :: ys) a w :=
  wpList_cut (OPS := #[]) (K := wpList P ops Q ys) (fun _ _ h => h) [o1, o2, o3, o4, o5] (by simp [g1, g2, g3, g4, g5]) a w (h _ _ (fun _ _ h => h))
theorem cut6 (g1 : o1.guard = none) (g2 : o2.guard = none) (g3 : o3.guard = none) (g4 : o4.guard = none) (g5 : o5.guard = none) (g6 : o6.guard = none) (h : ∀ (K : Act → World → Prop) (OPS : Array Oper), Hid (∀ a w, wpList P ops Q ys a w → K a w) → wpList P OPS (Exit.then K Q) [o1, o2, o3, o4, o5, o6] a w) : wpList P ops Q (o1 :: o2 :: o3 :: o4 :: o5 :: o6 :: ys) a w :=
  wpList_cut (OPS := #[]) (K := wpList P ops Q ys) (fun _ _ h => h) [o1, o2, o3, o4, o5, o6] (by simp [g1, g2, g3, g4, g5, g6]) a w (h _ _ (fun _ _ h => h))
end

end Go.Proofs.Ytekogjmmfhbinaa
