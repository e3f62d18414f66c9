
import Derived.Test.YtekogjmmfhbinaaRoots
namespace Go.Proofs.Ytekogjmmfhbinaa
open Go.RowKit

def dmx (K : List Sp) : Nat := K.foldl (fun d k => max d k.dp) 0

theorem dmx_dpOf (K : List Sp) : dpOf K = dmx K + 1 := by
  unfold dpOf dmx
  have key : ∀ (l : List Sp) (d : Nat), l.foldl (fun d k => max d (k.dp + 1)) (d + 1) = l.foldl (fun d k => max d k.dp) d + 1 := by
    intro l
    induction l with
    | nil => intro d; rfl
    | cons x l ih =>
      intro d
      simp only [List.foldl_cons]
      have e : max (d + 1) (x.dp + 1) = max d x.dp + 1 := by omega
      rw [e]
      exact ih _
  exact key K 0

theorem dmx_take_succ (K : List Sp) (j : Nat) (h : j < K.length) : dmx (K.take (j + 1)) = max (dmx (K.take j)) K[j].dp := by
  unfold dmx
  rw [List.take_succ_eq_append_getElem h, List.foldl_append]
  rfl

def dps (ys : List Sp) : List Int := ys.map fun s => (s.dp : Int)

end Go.Proofs.Ytekogjmmfhbinaa
