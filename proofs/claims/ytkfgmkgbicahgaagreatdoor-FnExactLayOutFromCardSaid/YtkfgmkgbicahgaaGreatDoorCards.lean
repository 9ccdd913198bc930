/-
  DERIVED. GIVEN WITH THE SEED: THE CARDS: each row of YtkfgmkgbicahgaaGreatDoorRows.lean that lists a variable, with what it lists TIED to the program's text (the seventh form; the later family's looks); each row that meets fmt, with fmt's text TOLD by the authors' own Lean function (tested against real Go, not proved from fmt's source: count such statements apart). THE CARD IS WHAT COUNTS. Prove the row's statement (the work); the ties are given (YtkfgmkgbicahgaaGreatDoorTie.lean); close each card by the builder's one call (the guide's Derived/Test/ToyasCard.lean, 'card_holds'). Laid BY PROGRAM, IN A SANDBOX (cutbox-door.mjs). By AI agents, Wed Nov 11 2026. No macro, syntax, notation, axiom, sorry.
-/
import Derived.Test.YtkfgmkgbicahgaaGreatDoorRows
import GoSem.ClaimSeven
namespace Go.Proofs.YtkfgmkgbicahgaaGreatDoor
namespace Rows

/-- THE TIED CARD OF 'laws.FnExactLayOutFrom'. -/
def fnExactLayOutFromCard : Claim7 := { stood := { row := fnExactLayOutFromRow, standIns := [], harness := (true, "1f93552da02f75ffcb1dca02988d54079ddb7ecee77c66b969bb8f5cb38f4369"), looks := true }, kinds := [], alts := [], laidByText := true, laidKinds := [.data], laidTests := true, laidLooks := .later }
def FnExactLayOutFromCardSaid : Prop := Claim7.holds Tryz.pinned (.plain (OpenSpec.ofChange fnExactLayOutFromSpec)) fnExactLayOutFromCard

/-- THE SECOND FORM's CARD OF 'laws.FnExactLayOutFrom'. -/
def fnExactLayOutFromUptoCard : Claim7 := { stood := { row := fnExactLayOutFromUptoRow, standIns := [], harness := (true, "1f93552da02f75ffcb1dca02988d54079ddb7ecee77c66b969bb8f5cb38f4369"), looks := true }, kinds := [], alts := [], laidByText := true, laidKinds := [.data], laidTests := true, laidLooks := .later }
def FnExactLayOutFromUptoCardSaid : Prop := Claim7.holds Tryz.pinned (.plain (OpenSpec.upto fnExactLayOutFromSpec)) fnExactLayOutFromUptoCard
end Rows
end Go.Proofs.YtkfgmkgbicahgaaGreatDoor
