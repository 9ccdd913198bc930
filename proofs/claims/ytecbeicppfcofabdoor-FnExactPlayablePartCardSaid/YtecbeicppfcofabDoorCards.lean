/-
  DERIVED. GIVEN WITH THE SEED: THE CARDS: each row of YtecbeicppfcofabDoorRows.lean that lists a variable, with what it lists TIED to the program's text (the seventh form; the later family's looks); each row that meets fmt, with fmt's text TOLD by the authors' own Lean function (tested against real Go, not proved from fmt's source: count such statements apart). THE CARD IS WHAT COUNTS. Prove the row's statement (the work); the ties are given (YtecbeicppfcofabDoorTie.lean); close each card by the builder's one call (the guide's Derived/Test/ToyasCard.lean, 'card_holds'). Laid BY PROGRAM, IN A SANDBOX (cutbox-door.mjs). By AI agents, Wed Nov 11 2026. No macro, syntax, notation, axiom, sorry.
-/
import Derived.Test.YtecbeicppfcofabDoorRows
import GoSem.ClaimSeven
namespace Go.Proofs.YtecbeicppfcofabDoor
namespace Rows

/-- THE TIED CARD OF 'laws.FnExactPlayablePart'. -/
def fnExactPlayablePartCard : Claim7 := { stood := { row := fnExactPlayablePartRow, standIns := [], harness := (true, "ee0168ead6f25409606686dd654a1d0064f9dc0ec34b692d80fbb9ef30916a8d"), looks := false }, kinds := [], alts := [], laidByText := true, laidKinds := [.data], laidTests := true, laidLooks := .later }
def FnExactPlayablePartCardSaid : Prop := Claim7.holds Tryd.pinned (.plain (OpenSpec.ofChange fnExactPlayablePartSpec)) fnExactPlayablePartCard

/-- THE SECOND FORM's CARD OF 'laws.FnExactPlayablePart'. -/
def fnExactPlayablePartUptoCard : Claim7 := { stood := { row := fnExactPlayablePartUptoRow, standIns := [], harness := (true, "ee0168ead6f25409606686dd654a1d0064f9dc0ec34b692d80fbb9ef30916a8d"), looks := false }, kinds := [], alts := [], laidByText := true, laidKinds := [.data], laidTests := true, laidLooks := .later }
def FnExactPlayablePartUptoCardSaid : Prop := Claim7.holds Tryd.pinned (.plain (OpenSpec.upto fnExactPlayablePartSpec)) fnExactPlayablePartUptoCard
end Rows
end Go.Proofs.YtecbeicppfcofabDoor
