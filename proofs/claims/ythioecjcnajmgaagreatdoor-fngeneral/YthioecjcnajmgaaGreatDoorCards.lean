/-
  DERIVED. GIVEN WITH THE SEED: THE CARDS: each row of YthioecjcnajmgaaGreatDoorRows.lean that lists a variable, with what it lists TIED to the program's text (the seventh form; the later family's looks); each row that meets fmt, with fmt's text TOLD by the authors' own Lean function (tested against real Go, not proved from fmt's source: count such statements apart). THE CARD IS WHAT COUNTS. Prove the row's statement (the work); the ties are given (YthioecjcnajmgaaGreatDoorTie.lean); close each card by the builder's one call (the guide's Derived/Test/ToyasCard.lean, 'card_holds'). Laid BY PROGRAM, IN A SANDBOX (cutbox-door.mjs). By AI agents, Wed Nov 11 2026. No macro, syntax, notation, axiom, sorry.
-/
import Derived.Test.YthioecjcnajmgaaGreatDoorRows
import GoSem.ClaimSeven
namespace Go.Proofs.YthioecjcnajmgaaGreatDoor
namespace Rows

/-- THE TIED CARD OF 'laws.FnGeneral'. -/
def fnGeneralCard : Claim7 := { stood := { row := fnGeneralRow, standIns := [], harness := (true, "042c5f8bcd1403ff06d2a819f35cda3aa6cb53002c19b5dbdc7fce78bdfca94c"), looks := true }, kinds := [], alts := [], laidByText := true, laidKinds := [.handle, .sentinel], laidTests := true, laidLooks := .later }
def FnGeneralCardSaid : Prop := Claim7.holds Tryz.pinned (.plain (OpenSpec.ofChange fnGeneralSpec)) fnGeneralCard

/-- THE SECOND FORM's CARD OF 'laws.FnGeneral'. -/
def fnGeneralUptoCard : Claim7 := { stood := { row := fnGeneralUptoRow, standIns := [], harness := (true, "042c5f8bcd1403ff06d2a819f35cda3aa6cb53002c19b5dbdc7fce78bdfca94c"), looks := true }, kinds := [], alts := [], laidByText := true, laidKinds := [.handle, .sentinel], laidTests := true, laidLooks := .later }
def FnGeneralUptoCardSaid : Prop := Claim7.holds Tryz.pinned (.plain (OpenSpec.upto fnGeneralSpec)) fnGeneralUptoCard
end Rows
end Go.Proofs.YthioecjcnajmgaaGreatDoor
