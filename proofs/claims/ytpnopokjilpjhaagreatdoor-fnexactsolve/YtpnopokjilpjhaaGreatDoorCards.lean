/-
  DERIVED. GIVEN WITH THE SEED: THE CARDS: each row of YtpnopokjilpjhaaGreatDoorRows.lean that lists a variable, with what it lists TIED to the program's text (the seventh form; the later family's looks); each row that meets fmt, with fmt's text TOLD by the authors' own Lean function (tested against real Go, not proved from fmt's source: count such statements apart). THE CARD IS WHAT COUNTS. Prove the row's statement (the work); the ties are given (YtpnopokjilpjhaaGreatDoorTie.lean); close each card by the builder's one call (the guide's Derived/Test/ToyasCard.lean, 'card_holds'). Laid BY PROGRAM, IN A SANDBOX (cutbox-door.mjs). By AI agents, Wed Nov 11 2026. No macro, syntax, notation, axiom, sorry.
-/
import Derived.Test.YtpnopokjilpjhaaGreatDoorRows
import GoSem.ClaimSeven
namespace Go.Proofs.YtpnopokjilpjhaaGreatDoor
namespace Rows

/-- THE TIED CARD OF 'laws.FnSolve'. -/
def fnSolveCard : Claim7 := { stood := { row := fnSolveRow, standIns := [], harness := (true, "7f4b604c93e95d298011d11cf1a4333a66331351d300c7516b894ada1077d82f"), looks := true }, kinds := [], alts := [], laidByText := true, laidKinds := [.handle, .sentinel], laidTests := true, laidLooks := .later }
def FnSolveCardSaid : Prop := Claim7.holds Tryz.pinned (.plain (OpenSpec.ofChange fnSolveSpec)) fnSolveCard

/-- THE TIED CARD OF 'laws.FnGeneral'. -/
def fnGeneralCard : Claim7 := { stood := { row := fnGeneralRow, standIns := [], harness := (true, "7f4b604c93e95d298011d11cf1a4333a66331351d300c7516b894ada1077d82f"), looks := true }, kinds := [], alts := [], laidByText := true, laidKinds := [.handle, .sentinel], laidTests := true, laidLooks := .later }
def FnGeneralCardSaid : Prop := Claim7.holds Tryz.pinned (.plain (OpenSpec.ofChange fnGeneralSpec)) fnGeneralCard

/-- THE TIED CARD OF 'laws.FnExactMeet'. -/
def fnExactMeetCard : Claim7 := { stood := { row := fnExactMeetRow, standIns := [], harness := (true, "7f4b604c93e95d298011d11cf1a4333a66331351d300c7516b894ada1077d82f"), looks := true }, kinds := [], alts := [], laidByText := true, laidKinds := [.handle, .sentinel], laidTests := true, laidLooks := .later }
def FnExactMeetCardSaid : Prop := Claim7.holds Tryz.pinned (.plain (OpenSpec.ofChange fnExactMeetSpec)) fnExactMeetCard

/-- THE TIED CARD OF 'laws.FnExactSolve'. -/
def fnExactSolveCard : Claim7 := { stood := { row := fnExactSolveRow, standIns := [], harness := (true, "7f4b604c93e95d298011d11cf1a4333a66331351d300c7516b894ada1077d82f"), looks := true }, kinds := [], alts := [], laidByText := true, laidKinds := [.handle, .sentinel], laidTests := true, laidLooks := .later }
def FnExactSolveCardSaid : Prop := Claim7.holds Tryz.pinned (.plain (OpenSpec.ofChange fnExactSolveSpec)) fnExactSolveCard

/-- THE TIED CARD OF 'laws.FnMeet'. -/
def fnMeetCard : Claim7 := { stood := { row := fnMeetRow, standIns := [], harness := (true, "7f4b604c93e95d298011d11cf1a4333a66331351d300c7516b894ada1077d82f"), looks := true }, kinds := [], alts := [], laidByText := true, laidKinds := [.handle, .sentinel], laidTests := true, laidLooks := .later }
def FnMeetCardSaid : Prop := Claim7.holds Tryz.pinned (.plain (OpenSpec.ofChange fnMeetSpec)) fnMeetCard

/-- THE SECOND FORM's CARD OF 'laws.FnSolve'. -/
def fnSolveUptoCard : Claim7 := { stood := { row := fnSolveUptoRow, standIns := [], harness := (true, "7f4b604c93e95d298011d11cf1a4333a66331351d300c7516b894ada1077d82f"), looks := true }, kinds := [], alts := [], laidByText := true, laidKinds := [.handle, .sentinel], laidTests := true, laidLooks := .later }
def FnSolveUptoCardSaid : Prop := Claim7.holds Tryz.pinned (.plain (OpenSpec.upto fnSolveSpec)) fnSolveUptoCard

/-- THE SECOND FORM's CARD OF 'laws.FnGeneral'. -/
def fnGeneralUptoCard : Claim7 := { stood := { row := fnGeneralUptoRow, standIns := [], harness := (true, "7f4b604c93e95d298011d11cf1a4333a66331351d300c7516b894ada1077d82f"), looks := true }, kinds := [], alts := [], laidByText := true, laidKinds := [.handle, .sentinel], laidTests := true, laidLooks := .later }
def FnGeneralUptoCardSaid : Prop := Claim7.holds Tryz.pinned (.plain (OpenSpec.upto fnGeneralSpec)) fnGeneralUptoCard

/-- THE SECOND FORM's CARD OF 'laws.FnExactMeet'. -/
def fnExactMeetUptoCard : Claim7 := { stood := { row := fnExactMeetUptoRow, standIns := [], harness := (true, "7f4b604c93e95d298011d11cf1a4333a66331351d300c7516b894ada1077d82f"), looks := true }, kinds := [], alts := [], laidByText := true, laidKinds := [.handle, .sentinel], laidTests := true, laidLooks := .later }
def FnExactMeetUptoCardSaid : Prop := Claim7.holds Tryz.pinned (.plain (OpenSpec.upto fnExactMeetSpec)) fnExactMeetUptoCard

/-- THE SECOND FORM's CARD OF 'laws.FnExactSolve'. -/
def fnExactSolveUptoCard : Claim7 := { stood := { row := fnExactSolveUptoRow, standIns := [], harness := (true, "7f4b604c93e95d298011d11cf1a4333a66331351d300c7516b894ada1077d82f"), looks := true }, kinds := [], alts := [], laidByText := true, laidKinds := [.handle, .sentinel], laidTests := true, laidLooks := .later }
def FnExactSolveUptoCardSaid : Prop := Claim7.holds Tryz.pinned (.plain (OpenSpec.upto fnExactSolveSpec)) fnExactSolveUptoCard

/-- THE SECOND FORM's CARD OF 'laws.FnMeet'. -/
def fnMeetUptoCard : Claim7 := { stood := { row := fnMeetUptoRow, standIns := [], harness := (true, "7f4b604c93e95d298011d11cf1a4333a66331351d300c7516b894ada1077d82f"), looks := true }, kinds := [], alts := [], laidByText := true, laidKinds := [.handle, .sentinel], laidTests := true, laidLooks := .later }
def FnMeetUptoCardSaid : Prop := Claim7.holds Tryz.pinned (.plain (OpenSpec.upto fnMeetSpec)) fnMeetUptoCard
end Rows
end Go.Proofs.YtpnopokjilpjhaaGreatDoor
