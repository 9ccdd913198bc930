/-
  DERIVED. GIVEN WITH THE SEED: THE CARDS: each row of YtfcinddpnikloaaDoorRows.lean that lists a variable, with what it lists TIED to the program's text (the seventh form; the later family's looks); each row that meets fmt, with fmt's text TOLD by the authors' own Lean function (tested against real Go, not proved from fmt's source: count such statements apart). THE CARD IS WHAT COUNTS. Prove the row's statement (the work); the ties are given (YtfcinddpnikloaaDoorTie.lean); close each card by the builder's one call (the guide's Derived/Test/ToyasCard.lean, 'card_holds'). Laid BY PROGRAM, IN A SANDBOX (cutbox-door.mjs). By AI agents, Wed Nov 11 2026. No macro, syntax, notation, axiom, sorry.
-/
import Derived.Test.YtfcinddpnikloaaDoorRows
import GoSem.ClaimSeven
namespace Go.Proofs.YtfcinddpnikloaaDoor
namespace Rows

/-- THE TIED CARD OF 'laws.FnExactScoreText'. -/
def fnExactScoreTextCard : Claim7 := { stood := { row := fnExactScoreTextRow, standIns := [], harness := (true, "7e097c47e1844b9641eb52c10607fef3aa236785a1b98a94015e7fb6c6b3fa40"), looks := false }, kinds := [], alts := [], laidByText := true, laidKinds := [.data, .data, .data, .data], laidTests := true, laidLooks := .later }
def FnExactScoreTextCardSaid : Prop := Claim7.holds Tryd.pinned (.plain (OpenSpec.ofChange fnExactScoreTextSpec)) fnExactScoreTextCard

/-- THE TIED CARD OF 'laws.FnExactVoiceText'. -/
def fnExactVoiceTextCard : Claim7 := { stood := { row := fnExactVoiceTextRow, standIns := [], harness := (true, "7e097c47e1844b9641eb52c10607fef3aa236785a1b98a94015e7fb6c6b3fa40"), looks := false }, kinds := [], alts := [], laidByText := true, laidKinds := [.data, .data, .data, .data], laidTests := true, laidLooks := .later }
def FnExactVoiceTextCardSaid : Prop := Claim7.holds Tryd.pinned (.plain (OpenSpec.ofChange fnExactVoiceTextSpec)) fnExactVoiceTextCard

/-- THE SECOND FORM's CARD OF 'laws.FnExactScoreText'. -/
def fnExactScoreTextUptoCard : Claim7 := { stood := { row := fnExactScoreTextUptoRow, standIns := [], harness := (true, "7e097c47e1844b9641eb52c10607fef3aa236785a1b98a94015e7fb6c6b3fa40"), looks := false }, kinds := [], alts := [], laidByText := true, laidKinds := [.data, .data, .data, .data], laidTests := true, laidLooks := .later }
def FnExactScoreTextUptoCardSaid : Prop := Claim7.holds Tryd.pinned (.plain (OpenSpec.upto fnExactScoreTextSpec)) fnExactScoreTextUptoCard

/-- THE SECOND FORM's CARD OF 'laws.FnExactVoiceText'. -/
def fnExactVoiceTextUptoCard : Claim7 := { stood := { row := fnExactVoiceTextUptoRow, standIns := [], harness := (true, "7e097c47e1844b9641eb52c10607fef3aa236785a1b98a94015e7fb6c6b3fa40"), looks := false }, kinds := [], alts := [], laidByText := true, laidKinds := [.data, .data, .data, .data], laidTests := true, laidLooks := .later }
def FnExactVoiceTextUptoCardSaid : Prop := Claim7.holds Tryd.pinned (.plain (OpenSpec.upto fnExactVoiceTextSpec)) fnExactVoiceTextUptoCard
end Rows
end Go.Proofs.YtfcinddpnikloaaDoor
