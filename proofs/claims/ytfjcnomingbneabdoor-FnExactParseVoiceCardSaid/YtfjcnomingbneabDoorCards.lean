/-
  DERIVED. GIVEN WITH THE SEED: THE CARDS: each row of YtfjcnomingbneabDoorRows.lean that lists a variable, with what it lists TIED to the program's text (the seventh form; the later family's looks); each row that meets fmt, with fmt's text TOLD by the authors' own Lean function (tested against real Go, not proved from fmt's source: count such statements apart). THE CARD IS WHAT COUNTS. Prove the row's statement (the work); the ties are given (YtfjcnomingbneabDoorTie.lean); close each card by the builder's one call (the guide's Derived/Test/ToyasCard.lean, 'card_holds'). Laid BY PROGRAM, IN A SANDBOX (cutbox-door.mjs). By AI agents, Wed Nov 11 2026. No macro, syntax, notation, axiom, sorry.
-/
import Derived.Test.YtfjcnomingbneabDoorRows
import GoSem.ClaimSeven
namespace Go.Proofs.YtfjcnomingbneabDoor
namespace Rows

/-- THE TIED CARD OF 'laws.FnExactParseScore'. -/
def fnExactParseScoreCard : Claim7 := { stood := { row := fnExactParseScoreRow, standIns := [], harness := (true, "1829cfd7628605eac561b3074fba4666829b2da6acf1252c7afb1c483e3eccca"), looks := true }, kinds := [], alts := [], laidByText := true, laidKinds := [.data, .data, .data, .data, .sentinel, .sentinel, .data, .pinned], laidTests := true, laidLooks := .later }
def FnExactParseScoreCardSaid : Prop := Claim7.holds Tryd.pinned (.plain (OpenSpec.ofChange fnExactParseScoreSpec)) fnExactParseScoreCard

/-- THE TIED CARD OF 'laws.FnExactParseVoice'. -/
def fnExactParseVoiceCard : Claim7 := { stood := { row := fnExactParseVoiceRow, standIns := [], harness := (true, "1829cfd7628605eac561b3074fba4666829b2da6acf1252c7afb1c483e3eccca"), looks := true }, kinds := [], alts := [], laidByText := true, laidKinds := [.data, .data, .data, .data, .sentinel, .sentinel, .data, .pinned], laidTests := true, laidLooks := .later }
def FnExactParseVoiceCardSaid : Prop := Claim7.holds Tryd.pinned (.plain (OpenSpec.ofChange fnExactParseVoiceSpec)) fnExactParseVoiceCard

/-- THE SECOND FORM's CARD OF 'laws.FnExactParseScore'. -/
def fnExactParseScoreUptoCard : Claim7 := { stood := { row := fnExactParseScoreUptoRow, standIns := [], harness := (true, "1829cfd7628605eac561b3074fba4666829b2da6acf1252c7afb1c483e3eccca"), looks := true }, kinds := [], alts := [], laidByText := true, laidKinds := [.data, .data, .data, .data, .sentinel, .sentinel, .data, .pinned], laidTests := true, laidLooks := .later }
def FnExactParseScoreUptoCardSaid : Prop := Claim7.holds Tryd.pinned (.plain (OpenSpec.upto fnExactParseScoreSpec)) fnExactParseScoreUptoCard

/-- THE SECOND FORM's CARD OF 'laws.FnExactParseVoice'. -/
def fnExactParseVoiceUptoCard : Claim7 := { stood := { row := fnExactParseVoiceUptoRow, standIns := [], harness := (true, "1829cfd7628605eac561b3074fba4666829b2da6acf1252c7afb1c483e3eccca"), looks := true }, kinds := [], alts := [], laidByText := true, laidKinds := [.data, .data, .data, .data, .sentinel, .sentinel, .data, .pinned], laidTests := true, laidLooks := .later }
def FnExactParseVoiceUptoCardSaid : Prop := Claim7.holds Tryd.pinned (.plain (OpenSpec.upto fnExactParseVoiceSpec)) fnExactParseVoiceUptoCard
end Rows
end Go.Proofs.YtfjcnomingbneabDoor
