import Derived.Test.YtekogjmmfhbinaaWAA
namespace Go.Proofs.Ytekogjmmfhbinaa

/-- The letter of a kind, as a byte: R 82, B 66, q 113, c 99, t 116, s 115, none 45. -/
def letK (k : Int) : Nat :=
  if k = 84 then 82 else if k = 82 then 66
  else if k = 90 ∨ k = 91 ∨ k = 15 ∨ k = 17 ∨ k = 18 ∨ k = 19 ∨ k = 20 then 113
  else if 70 ≤ k ∧ k ≤ 89 then 99
  else if k = 60 ∨ k = 12 ∨ k = 13 ∨ k = 14 then 116
  else if k = 62 then 115 else 45

/-- Whether a kind may stand for a letter. -/
def isK (k : Int) (c : Nat) : Bool := letK k == c || (c == 115 && letK k == 116)

/-- Kinds that bind a number, or name one. -/
def boundK (k : Int) : Bool := k == 70 || k == 76 || k == 80 || k == 82 || k == 90 || k == 91 || k == 78 || k == 60 || k == 62

/-- The operators. -/
def opsL : List (List UInt8) := [[58, 61], [61], [60, 62], [60], [60, 61], [62], [62, 61], [94], [43], [45], [42], [47], [37]]

/-- What belongs to a node itself. -/
def ownB (n : Nd) : Bool :=
  n.place == 0 &&
    (if boundK n.kind then decide (n.num > 0) && n.text.size == 0
     else if n.kind == 71 then decide (-8 ≤ n.num) && decide (n.num ≤ -1) && n.text.size == 0
     else if n.kind == 72 || n.kind == 17 then n.text.size == 0
     else if n.num != 0 then false
     else if n.kind == 73 || n.kind == 18 || n.kind == 74 || n.kind == 19 || n.kind == 12 then true
     else if n.kind == 83 then n.text.toList == [77, 97, 116, 99, 104] || n.text.toList == [66, 105, 110, 100]
     else if n.kind == 88 then opsL.any (fun o => n.text.toList == o)
     else if n.kind == 89 then n.text.toList == [126] || n.text.toList == [33]
     else n.text.size == 0)

end Go.Proofs.Ytekogjmmfhbinaa
