/-
  DERIVED. GIVEN WITH THE SEED: THE CARDS: each row of YtfjcnomingbneacDoorRows.lean that lists a variable, with what it lists TIED to the program's text (the seventh form; the later family's looks); each row that meets fmt, with fmt's text TOLD by the authors' own Lean function (tested against real Go, not proved from fmt's source: count such statements apart). THE CARD IS WHAT COUNTS. Prove the row's statement (the work); the ties are given (YtfjcnomingbneacDoorTie.lean); close each card by the builder's one call (the guide's Derived/Test/ToyasCard.lean, 'card_holds'). Laid BY PROGRAM, IN A SANDBOX (cutbox-door.mjs). By AI agents, Wed Nov 11 2026. No macro, syntax, notation, axiom, sorry.
-/
import Derived.Test.YtfjcnomingbneacDoorRows
import GoSem.ClaimSeven
namespace Go.Proofs.YtfjcnomingbneacDoor
namespace Rows

/-- THE TIED CARD OF 'laws.FnExactInstrumentText'. -/
def fnExactInstrumentTextCard : Claim7 := { stood := { row := fnExactInstrumentTextRow, standIns := [], harness := (true, "258fcded44f22c854da5408d9ef5ac17c24077945a84ba1f2dac2294233755c1"), looks := true }, kinds := [], alts := [], laidByText := true, laidKinds := [.data, .data, .data, .data, .data], laidTests := true, laidLooks := .later }
def FnExactInstrumentTextCardSaid : Prop := Claim7.holds Tryd.pinned (.plain (OpenSpec.ofChange fnExactInstrumentTextSpec)) fnExactInstrumentTextCard

/-- THE TIED CARD OF 'laws.FnExactParseInstrument'. -/
def fnExactParseInstrumentCard : Claim7 := { stood := { row := fnExactParseInstrumentRow, standIns := [], harness := (true, "258fcded44f22c854da5408d9ef5ac17c24077945a84ba1f2dac2294233755c1"), looks := true }, kinds := [], alts := [], laidByText := true, laidKinds := [.data, .data, .data, .sentinel, .sentinel, .data, .data], laidTests := true, laidLooks := .later }
def FnExactParseInstrumentCardSaid : Prop := Claim7.holds Tryd.pinned (.plain (OpenSpec.ofChange fnExactParseInstrumentSpec)) fnExactParseInstrumentCard

/-- THE SECOND FORM's CARD OF 'laws.FnExactInstrumentText'. -/
def fnExactInstrumentTextUptoCard : Claim7 := { stood := { row := fnExactInstrumentTextUptoRow, standIns := [], harness := (true, "258fcded44f22c854da5408d9ef5ac17c24077945a84ba1f2dac2294233755c1"), looks := true }, kinds := [], alts := [], laidByText := true, laidKinds := [.data, .data, .data, .data, .data], laidTests := true, laidLooks := .later }
def FnExactInstrumentTextUptoCardSaid : Prop := Claim7.holds Tryd.pinned (.plain (OpenSpec.upto fnExactInstrumentTextSpec)) fnExactInstrumentTextUptoCard

/-- THE SECOND FORM's CARD OF 'laws.FnExactParseInstrument'. -/
def fnExactParseInstrumentUptoCard : Claim7 := { stood := { row := fnExactParseInstrumentUptoRow, standIns := [], harness := (true, "258fcded44f22c854da5408d9ef5ac17c24077945a84ba1f2dac2294233755c1"), looks := true }, kinds := [], alts := [], laidByText := true, laidKinds := [.data, .data, .data, .sentinel, .sentinel, .data, .data], laidTests := true, laidLooks := .later }
def FnExactParseInstrumentUptoCardSaid : Prop := Claim7.holds Tryd.pinned (.plain (OpenSpec.upto fnExactParseInstrumentSpec)) fnExactParseInstrumentUptoCard
end Rows
end Go.Proofs.YtfjcnomingbneacDoor
