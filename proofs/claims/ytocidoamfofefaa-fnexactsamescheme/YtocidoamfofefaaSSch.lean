
import Derived.Test.YtocidoamfofefaaSForm
import Derived.Test.YtocidoamfofefaaLongR
import Derived.Test.YtocidoamfofefaaIErase
namespace Go.Proofs.Ytocidoamfofefaa
open Go.RowKit

/-- A tuple of one. -/
def tupC (x : Nd) : Bool := x.kids == 1 && x.kind == 14

/-- What the model asks of a node of a scheme and of its kids. -/
def okC (t : List Nd) (k : Nat) : Bool :=
  (letK (ndAt t k).kind == 116 || letK (ndAt t k).kind == 115) && (ownB (ndAt t k) && (!tupC (ndAt t k) && fitsB (shapeB (ndAt t k)) (starOf (shapeB (ndAt t k))) (kidsN t k)))

/-- The numbers of the TAlls among the first k nodes. -/
def allsL (t : List Nd) : Nat → List Int
  | 0 => []
  | k + 1 => if (ndAt t k).kind = 62 then allsL t k ++ [(ndAt t k).num] else allsL t k

theorem allsL_len (t : List Nd) (k : Nat) : (allsL t k).length ≤ k := by
  induction k with
  | zero => exact Nat.le_refl _
  | succ k ih =>
    unfold allsL
    split
    · simp; exact ih
    · omega

/-- A TAll is one of at most 1000, and its number is new. -/
def newC (t : List Nd) (k : Nat) : Bool := (ndAt t k).kind != 62 || (decide ((allsL t k).length < 1000) && decide (lastTo (allsL t k) (ndAt t k).num (allsL t k).length = -1))

/-- The model's answer. -/
def SchS (t : List Nd) : Prop := t.length ≤ 60000 ∧ rawDeep t ≠ 0 ∧ ∀ i, i < t.length → (okC t i && newC t i) = true

end Go.Proofs.Ytocidoamfofefaa
