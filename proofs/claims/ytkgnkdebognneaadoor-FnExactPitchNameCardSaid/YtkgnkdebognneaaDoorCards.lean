/-
  DERIVED. GIVEN WITH THE SEED: THE CARDS: each row of YtkgnkdebognneaaDoorRows.lean that lists a variable, with what it lists TIED to the program's text (the seventh form; the later family's looks); each row that meets fmt, with fmt's text TOLD by the authors' own Lean function (tested against real Go, not proved from fmt's source: count such statements apart). THE CARD IS WHAT COUNTS. Prove the row's statement (the work); the ties are given (YtkgnkdebognneaaDoorTie.lean); close each card by the builder's one call (the guide's Derived/Test/ToyasCard.lean, 'card_holds'). Laid BY PROGRAM, IN A SANDBOX (cutbox-door.mjs). By AI agents, Wed Nov 11 2026. No macro, syntax, notation, axiom, sorry.
-/
import Derived.Test.YtkgnkdebognneaaDoorRows
import GoSem.ClaimSeven
namespace Go.Proofs.YtkgnkdebognneaaDoor
namespace Rows

/-- THE TIED CARD OF 'laws.FnExactPitchName'. -/
def fnExactPitchNameCard : Claim7 := { stood := { row := fnExactPitchNameRow, standIns := [], harness := (true, "dd1cd28526acd1d14c88692bbd7c3662c7aafbddab50a6746285d35ab48b1661"), looks := true }, kinds := [], alts := [], laidByText := true, laidKinds := [.data, .data, .data, .data], laidTests := true, laidLooks := .later }
def FnExactPitchNameCardSaid : Prop := Claim7.holds Tryd.pinned (.plain (OpenSpec.ofChange fnExactPitchNameSpec)) fnExactPitchNameCard

/-- THE TIED CARD OF 'laws.FnExactScoreText'. -/
def fnExactScoreTextCard : Claim7 := { stood := { row := fnExactScoreTextRow, standIns := [], harness := (true, "dd1cd28526acd1d14c88692bbd7c3662c7aafbddab50a6746285d35ab48b1661"), looks := true }, kinds := [], alts := [], laidByText := true, laidKinds := [.data, .data, .data, .data], laidTests := true, laidLooks := .later }
def FnExactScoreTextCardSaid : Prop := Claim7.holds Tryd.pinned (.plain (OpenSpec.ofChange fnExactScoreTextSpec)) fnExactScoreTextCard

/-- THE TIED CARD OF 'laws.FnExactParseScore'. -/
def fnExactParseScoreCard : Claim7 := { stood := { row := fnExactParseScoreRow, standIns := [], harness := (true, "dd1cd28526acd1d14c88692bbd7c3662c7aafbddab50a6746285d35ab48b1661"), looks := true }, kinds := [], alts := [], laidByText := true, laidKinds := [.data, .data, .data, .data, .sentinel, .sentinel, .data, .pinned], laidTests := true, laidLooks := .later }
def FnExactParseScoreCardSaid : Prop := Claim7.holds Tryd.pinned (.plain (OpenSpec.ofChange fnExactParseScoreSpec)) fnExactParseScoreCard

/-- THE SECOND FORM's CARD OF 'laws.FnExactPitchName'. -/
def fnExactPitchNameUptoCard : Claim7 := { stood := { row := fnExactPitchNameUptoRow, standIns := [], harness := (true, "dd1cd28526acd1d14c88692bbd7c3662c7aafbddab50a6746285d35ab48b1661"), looks := true }, kinds := [], alts := [], laidByText := true, laidKinds := [.data, .data, .data, .data], laidTests := true, laidLooks := .later }
def FnExactPitchNameUptoCardSaid : Prop := Claim7.holds Tryd.pinned (.plain (OpenSpec.upto fnExactPitchNameSpec)) fnExactPitchNameUptoCard

/-- THE SECOND FORM's CARD OF 'laws.FnExactScoreText'. -/
def fnExactScoreTextUptoCard : Claim7 := { stood := { row := fnExactScoreTextUptoRow, standIns := [], harness := (true, "dd1cd28526acd1d14c88692bbd7c3662c7aafbddab50a6746285d35ab48b1661"), looks := true }, kinds := [], alts := [], laidByText := true, laidKinds := [.data, .data, .data, .data], laidTests := true, laidLooks := .later }
def FnExactScoreTextUptoCardSaid : Prop := Claim7.holds Tryd.pinned (.plain (OpenSpec.upto fnExactScoreTextSpec)) fnExactScoreTextUptoCard

/-- THE SECOND FORM's CARD OF 'laws.FnExactParseScore'. -/
def fnExactParseScoreUptoCard : Claim7 := { stood := { row := fnExactParseScoreUptoRow, standIns := [], harness := (true, "dd1cd28526acd1d14c88692bbd7c3662c7aafbddab50a6746285d35ab48b1661"), looks := true }, kinds := [], alts := [], laidByText := true, laidKinds := [.data, .data, .data, .data, .sentinel, .sentinel, .data, .pinned], laidTests := true, laidLooks := .later }
def FnExactParseScoreUptoCardSaid : Prop := Claim7.holds Tryd.pinned (.plain (OpenSpec.upto fnExactParseScoreSpec)) fnExactParseScoreUptoCard
end Rows
end Go.Proofs.YtkgnkdebognneaaDoor
