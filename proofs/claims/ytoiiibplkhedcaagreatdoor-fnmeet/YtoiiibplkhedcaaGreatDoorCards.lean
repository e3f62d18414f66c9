/-
  DERIVED. GIVEN WITH THE SEED: THE CARDS: each row of YtoiiibplkhedcaaGreatDoorRows.lean that lists a variable, with what it lists TIED to the program's text (the seventh form; the later family's looks); each row that meets fmt, with fmt's text TOLD by the authors' own Lean function (tested against real Go, not proved from fmt's source: count such statements apart). THE CARD IS WHAT COUNTS. Prove the row's statement (the work); the ties are given (YtoiiibplkhedcaaGreatDoorTie.lean); close each card by the builder's one call (the guide's Derived/Test/ToyasCard.lean, 'card_holds'). Laid BY PROGRAM, IN A SANDBOX (cutbox-door.mjs). By AI agents, Wed Nov 11 2026. No macro, syntax, notation, axiom, sorry.
-/
import Derived.Test.YtoiiibplkhedcaaGreatDoorRows
import GoSem.ClaimSeven
namespace Go.Proofs.YtoiiibplkhedcaaGreatDoor
namespace Rows

/-- THE TIED CARD OF 'laws.FnMeet'. -/
def fnMeetCard : Claim7 := { stood := { row := fnMeetRow, standIns := [], harness := (true, "89d32ca3c23b808014af890112b013c7f486d71b3251e948b0e534328f278770"), looks := true }, kinds := [], alts := [], laidByText := true, laidKinds := [.handle, .sentinel], laidTests := true, laidLooks := .later }
def FnMeetCardSaid : Prop := Claim7.holds Tryz.pinned (.plain (OpenSpec.ofChange fnMeetSpec)) fnMeetCard

/-- THE SECOND FORM's CARD OF 'laws.FnMeet'. -/
def fnMeetUptoCard : Claim7 := { stood := { row := fnMeetUptoRow, standIns := [], harness := (true, "89d32ca3c23b808014af890112b013c7f486d71b3251e948b0e534328f278770"), looks := true }, kinds := [], alts := [], laidByText := true, laidKinds := [.handle, .sentinel], laidTests := true, laidLooks := .later }
def FnMeetUptoCardSaid : Prop := Claim7.holds Tryz.pinned (.plain (OpenSpec.upto fnMeetSpec)) fnMeetUptoCard
end Rows
end Go.Proofs.YtoiiibplkhedcaaGreatDoor
