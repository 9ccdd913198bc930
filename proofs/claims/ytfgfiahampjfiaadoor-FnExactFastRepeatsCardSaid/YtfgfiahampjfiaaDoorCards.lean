/-
  DERIVED. GIVEN WITH THE SEED: THE CARDS: each row of YtfgfiahampjfiaaDoorRows.lean that lists a variable, with what it lists TIED to the program's text (the seventh form; the later family's looks); each row that meets fmt, with fmt's text TOLD by the authors' own Lean function (tested against real Go, not proved from fmt's source: count such statements apart). THE CARD IS WHAT COUNTS. Prove the row's statement (the work); the ties are given (YtfgfiahampjfiaaDoorTie.lean); close each card by the builder's one call (the guide's Derived/Test/ToyasCard.lean, 'card_holds'). Laid BY PROGRAM, IN A SANDBOX (cutbox-door.mjs). By AI agents, Wed Nov 11 2026. No macro, syntax, notation, axiom, sorry.
-/
import Derived.Test.YtfgfiahampjfiaaDoorRows
import GoSem.ClaimSeven
namespace Go.Proofs.YtfgfiahampjfiaaDoor
namespace Rows

/-- THE TIED CARD OF 'laws.FnExactIsInstrument'. -/
def fnExactIsInstrumentCard : Claim7 := { stood := { row := fnExactIsInstrumentRow, standIns := [], harness := (true, "2b28dc07608126eb294b792047fe77efa507881eeb9bcdf5b5e874314fc18c3d"), looks := true }, kinds := [], alts := [], laidByText := true, laidKinds := [.data], laidTests := true, laidLooks := .later }
def FnExactIsInstrumentCardSaid : Prop := Claim7.holds Tryd.pinned (.plain (OpenSpec.ofChange fnExactIsInstrumentSpec)) fnExactIsInstrumentCard

/-- THE TIED CARD OF 'laws.FnExactTrackOf'. -/
def fnExactTrackOfCard : Claim7 := { stood := { row := fnExactTrackOfRow, standIns := [], harness := (true, "2b28dc07608126eb294b792047fe77efa507881eeb9bcdf5b5e874314fc18c3d"), looks := true }, kinds := [], alts := [], laidByText := true, laidKinds := [.data], laidTests := true, laidLooks := .later }
def FnExactTrackOfCardSaid : Prop := Claim7.holds Tryd.pinned (.plain (OpenSpec.ofChange fnExactTrackOfSpec)) fnExactTrackOfCard

/-- THE TIED CARD OF 'laws.FnExactPitchOf'. -/
def fnExactPitchOfCard : Claim7 := { stood := { row := fnExactPitchOfRow, standIns := [], harness := (true, "2b28dc07608126eb294b792047fe77efa507881eeb9bcdf5b5e874314fc18c3d"), looks := true }, kinds := [], alts := [], laidByText := true, laidKinds := [.data], laidTests := true, laidLooks := .later }
def FnExactPitchOfCardSaid : Prop := Claim7.holds Tryd.pinned (.plain (OpenSpec.ofChange fnExactPitchOfSpec)) fnExactPitchOfCard

/-- THE TIED CARD OF 'laws.FnExactMissingPitches'. -/
def fnExactMissingPitchesCard : Claim7 := { stood := { row := fnExactMissingPitchesRow, standIns := [], harness := (true, "2b28dc07608126eb294b792047fe77efa507881eeb9bcdf5b5e874314fc18c3d"), looks := true }, kinds := [], alts := [], laidByText := true, laidKinds := [.data], laidTests := true, laidLooks := .later }
def FnExactMissingPitchesCardSaid : Prop := Claim7.holds Tryd.pinned (.plain (OpenSpec.ofChange fnExactMissingPitchesSpec)) fnExactMissingPitchesCard

/-- THE TIED CARD OF 'laws.FnExactFastRepeats'. -/
def fnExactFastRepeatsCard : Claim7 := { stood := { row := fnExactFastRepeatsRow, standIns := [], harness := (true, "2b28dc07608126eb294b792047fe77efa507881eeb9bcdf5b5e874314fc18c3d"), looks := true }, kinds := [], alts := [], laidByText := true, laidKinds := [.data], laidTests := true, laidLooks := .later }
def FnExactFastRepeatsCardSaid : Prop := Claim7.holds Tryd.pinned (.plain (OpenSpec.ofChange fnExactFastRepeatsSpec)) fnExactFastRepeatsCard

/-- THE TIED CARD OF 'laws.FnExactCanPlay'. -/
def fnExactCanPlayCard : Claim7 := { stood := { row := fnExactCanPlayRow, standIns := [], harness := (true, "2b28dc07608126eb294b792047fe77efa507881eeb9bcdf5b5e874314fc18c3d"), looks := true }, kinds := [], alts := [], laidByText := true, laidKinds := [.data], laidTests := true, laidLooks := .later }
def FnExactCanPlayCardSaid : Prop := Claim7.holds Tryd.pinned (.plain (OpenSpec.ofChange fnExactCanPlaySpec)) fnExactCanPlayCard

/-- THE TIED CARD OF 'laws.FnExactPlayablePart'. -/
def fnExactPlayablePartCard : Claim7 := { stood := { row := fnExactPlayablePartRow, standIns := [], harness := (true, "2b28dc07608126eb294b792047fe77efa507881eeb9bcdf5b5e874314fc18c3d"), looks := true }, kinds := [], alts := [], laidByText := true, laidKinds := [.data], laidTests := true, laidLooks := .later }
def FnExactPlayablePartCardSaid : Prop := Claim7.holds Tryd.pinned (.plain (OpenSpec.ofChange fnExactPlayablePartSpec)) fnExactPlayablePartCard

/-- THE TIED CARD OF 'laws.FnExactAddPitch'. -/
def fnExactAddPitchCard : Claim7 := { stood := { row := fnExactAddPitchRow, standIns := [], harness := (true, "2b28dc07608126eb294b792047fe77efa507881eeb9bcdf5b5e874314fc18c3d"), looks := true }, kinds := [], alts := [], laidByText := true, laidKinds := [.data], laidTests := true, laidLooks := .later }
def FnExactAddPitchCardSaid : Prop := Claim7.holds Tryd.pinned (.plain (OpenSpec.ofChange fnExactAddPitchSpec)) fnExactAddPitchCard

/-- THE TIED CARD OF 'laws.FnExactCommonPitches'. -/
def fnExactCommonPitchesCard : Claim7 := { stood := { row := fnExactCommonPitchesRow, standIns := [], harness := (true, "2b28dc07608126eb294b792047fe77efa507881eeb9bcdf5b5e874314fc18c3d"), looks := true }, kinds := [], alts := [], laidByText := true, laidKinds := [.data], laidTests := true, laidLooks := .later }
def FnExactCommonPitchesCardSaid : Prop := Claim7.holds Tryd.pinned (.plain (OpenSpec.ofChange fnExactCommonPitchesSpec)) fnExactCommonPitchesCard

/-- THE TIED CARD OF 'laws.FnExactInstrumentText'. -/
def fnExactInstrumentTextCard : Claim7 := { stood := { row := fnExactInstrumentTextRow, standIns := [], harness := (true, "2b28dc07608126eb294b792047fe77efa507881eeb9bcdf5b5e874314fc18c3d"), looks := true }, kinds := [], alts := [], laidByText := true, laidKinds := [.data, .data, .data, .data, .data], laidTests := true, laidLooks := .later }
def FnExactInstrumentTextCardSaid : Prop := Claim7.holds Tryd.pinned (.plain (OpenSpec.ofChange fnExactInstrumentTextSpec)) fnExactInstrumentTextCard

/-- THE TIED CARD OF 'laws.FnExactParseInstrument'. -/
def fnExactParseInstrumentCard : Claim7 := { stood := { row := fnExactParseInstrumentRow, standIns := [], harness := (true, "2b28dc07608126eb294b792047fe77efa507881eeb9bcdf5b5e874314fc18c3d"), looks := true }, kinds := [], alts := [], laidByText := true, laidKinds := [.data, .data, .data, .sentinel, .sentinel, .data, .data], laidTests := true, laidLooks := .later }
def FnExactParseInstrumentCardSaid : Prop := Claim7.holds Tryd.pinned (.plain (OpenSpec.ofChange fnExactParseInstrumentSpec)) fnExactParseInstrumentCard

/-- THE TIED CARD OF 'laws.FnExactScoreText'. -/
def fnExactScoreTextCard : Claim7 := { stood := { row := fnExactScoreTextRow, standIns := [], harness := (true, "2b28dc07608126eb294b792047fe77efa507881eeb9bcdf5b5e874314fc18c3d"), looks := true }, kinds := [], alts := [], laidByText := true, laidKinds := [.data, .data, .data, .data], laidTests := true, laidLooks := .later }
def FnExactScoreTextCardSaid : Prop := Claim7.holds Tryd.pinned (.plain (OpenSpec.ofChange fnExactScoreTextSpec)) fnExactScoreTextCard

/-- THE TIED CARD OF 'laws.FnExactParseScore'. -/
def fnExactParseScoreCard : Claim7 := { stood := { row := fnExactParseScoreRow, standIns := [], harness := (true, "2b28dc07608126eb294b792047fe77efa507881eeb9bcdf5b5e874314fc18c3d"), looks := true }, kinds := [], alts := [], laidByText := true, laidKinds := [.data, .data, .data, .data, .sentinel, .sentinel, .data, .pinned], laidTests := true, laidLooks := .later }
def FnExactParseScoreCardSaid : Prop := Claim7.holds Tryd.pinned (.plain (OpenSpec.ofChange fnExactParseScoreSpec)) fnExactParseScoreCard

/-- THE SECOND FORM's CARD OF 'laws.FnExactIsInstrument'. -/
def fnExactIsInstrumentUptoCard : Claim7 := { stood := { row := fnExactIsInstrumentUptoRow, standIns := [], harness := (true, "2b28dc07608126eb294b792047fe77efa507881eeb9bcdf5b5e874314fc18c3d"), looks := true }, kinds := [], alts := [], laidByText := true, laidKinds := [.data], laidTests := true, laidLooks := .later }
def FnExactIsInstrumentUptoCardSaid : Prop := Claim7.holds Tryd.pinned (.plain (OpenSpec.upto fnExactIsInstrumentSpec)) fnExactIsInstrumentUptoCard

/-- THE SECOND FORM's CARD OF 'laws.FnExactTrackOf'. -/
def fnExactTrackOfUptoCard : Claim7 := { stood := { row := fnExactTrackOfUptoRow, standIns := [], harness := (true, "2b28dc07608126eb294b792047fe77efa507881eeb9bcdf5b5e874314fc18c3d"), looks := true }, kinds := [], alts := [], laidByText := true, laidKinds := [.data], laidTests := true, laidLooks := .later }
def FnExactTrackOfUptoCardSaid : Prop := Claim7.holds Tryd.pinned (.plain (OpenSpec.upto fnExactTrackOfSpec)) fnExactTrackOfUptoCard

/-- THE SECOND FORM's CARD OF 'laws.FnExactPitchOf'. -/
def fnExactPitchOfUptoCard : Claim7 := { stood := { row := fnExactPitchOfUptoRow, standIns := [], harness := (true, "2b28dc07608126eb294b792047fe77efa507881eeb9bcdf5b5e874314fc18c3d"), looks := true }, kinds := [], alts := [], laidByText := true, laidKinds := [.data], laidTests := true, laidLooks := .later }
def FnExactPitchOfUptoCardSaid : Prop := Claim7.holds Tryd.pinned (.plain (OpenSpec.upto fnExactPitchOfSpec)) fnExactPitchOfUptoCard

/-- THE SECOND FORM's CARD OF 'laws.FnExactMissingPitches'. -/
def fnExactMissingPitchesUptoCard : Claim7 := { stood := { row := fnExactMissingPitchesUptoRow, standIns := [], harness := (true, "2b28dc07608126eb294b792047fe77efa507881eeb9bcdf5b5e874314fc18c3d"), looks := true }, kinds := [], alts := [], laidByText := true, laidKinds := [.data], laidTests := true, laidLooks := .later }
def FnExactMissingPitchesUptoCardSaid : Prop := Claim7.holds Tryd.pinned (.plain (OpenSpec.upto fnExactMissingPitchesSpec)) fnExactMissingPitchesUptoCard

/-- THE SECOND FORM's CARD OF 'laws.FnExactFastRepeats'. -/
def fnExactFastRepeatsUptoCard : Claim7 := { stood := { row := fnExactFastRepeatsUptoRow, standIns := [], harness := (true, "2b28dc07608126eb294b792047fe77efa507881eeb9bcdf5b5e874314fc18c3d"), looks := true }, kinds := [], alts := [], laidByText := true, laidKinds := [.data], laidTests := true, laidLooks := .later }
def FnExactFastRepeatsUptoCardSaid : Prop := Claim7.holds Tryd.pinned (.plain (OpenSpec.upto fnExactFastRepeatsSpec)) fnExactFastRepeatsUptoCard

/-- THE SECOND FORM's CARD OF 'laws.FnExactCanPlay'. -/
def fnExactCanPlayUptoCard : Claim7 := { stood := { row := fnExactCanPlayUptoRow, standIns := [], harness := (true, "2b28dc07608126eb294b792047fe77efa507881eeb9bcdf5b5e874314fc18c3d"), looks := true }, kinds := [], alts := [], laidByText := true, laidKinds := [.data], laidTests := true, laidLooks := .later }
def FnExactCanPlayUptoCardSaid : Prop := Claim7.holds Tryd.pinned (.plain (OpenSpec.upto fnExactCanPlaySpec)) fnExactCanPlayUptoCard

/-- THE SECOND FORM's CARD OF 'laws.FnExactPlayablePart'. -/
def fnExactPlayablePartUptoCard : Claim7 := { stood := { row := fnExactPlayablePartUptoRow, standIns := [], harness := (true, "2b28dc07608126eb294b792047fe77efa507881eeb9bcdf5b5e874314fc18c3d"), looks := true }, kinds := [], alts := [], laidByText := true, laidKinds := [.data], laidTests := true, laidLooks := .later }
def FnExactPlayablePartUptoCardSaid : Prop := Claim7.holds Tryd.pinned (.plain (OpenSpec.upto fnExactPlayablePartSpec)) fnExactPlayablePartUptoCard

/-- THE SECOND FORM's CARD OF 'laws.FnExactAddPitch'. -/
def fnExactAddPitchUptoCard : Claim7 := { stood := { row := fnExactAddPitchUptoRow, standIns := [], harness := (true, "2b28dc07608126eb294b792047fe77efa507881eeb9bcdf5b5e874314fc18c3d"), looks := true }, kinds := [], alts := [], laidByText := true, laidKinds := [.data], laidTests := true, laidLooks := .later }
def FnExactAddPitchUptoCardSaid : Prop := Claim7.holds Tryd.pinned (.plain (OpenSpec.upto fnExactAddPitchSpec)) fnExactAddPitchUptoCard

/-- THE SECOND FORM's CARD OF 'laws.FnExactCommonPitches'. -/
def fnExactCommonPitchesUptoCard : Claim7 := { stood := { row := fnExactCommonPitchesUptoRow, standIns := [], harness := (true, "2b28dc07608126eb294b792047fe77efa507881eeb9bcdf5b5e874314fc18c3d"), looks := true }, kinds := [], alts := [], laidByText := true, laidKinds := [.data], laidTests := true, laidLooks := .later }
def FnExactCommonPitchesUptoCardSaid : Prop := Claim7.holds Tryd.pinned (.plain (OpenSpec.upto fnExactCommonPitchesSpec)) fnExactCommonPitchesUptoCard

/-- THE SECOND FORM's CARD OF 'laws.FnExactInstrumentText'. -/
def fnExactInstrumentTextUptoCard : Claim7 := { stood := { row := fnExactInstrumentTextUptoRow, standIns := [], harness := (true, "2b28dc07608126eb294b792047fe77efa507881eeb9bcdf5b5e874314fc18c3d"), looks := true }, kinds := [], alts := [], laidByText := true, laidKinds := [.data, .data, .data, .data, .data], laidTests := true, laidLooks := .later }
def FnExactInstrumentTextUptoCardSaid : Prop := Claim7.holds Tryd.pinned (.plain (OpenSpec.upto fnExactInstrumentTextSpec)) fnExactInstrumentTextUptoCard

/-- THE SECOND FORM's CARD OF 'laws.FnExactParseInstrument'. -/
def fnExactParseInstrumentUptoCard : Claim7 := { stood := { row := fnExactParseInstrumentUptoRow, standIns := [], harness := (true, "2b28dc07608126eb294b792047fe77efa507881eeb9bcdf5b5e874314fc18c3d"), looks := true }, kinds := [], alts := [], laidByText := true, laidKinds := [.data, .data, .data, .sentinel, .sentinel, .data, .data], laidTests := true, laidLooks := .later }
def FnExactParseInstrumentUptoCardSaid : Prop := Claim7.holds Tryd.pinned (.plain (OpenSpec.upto fnExactParseInstrumentSpec)) fnExactParseInstrumentUptoCard

/-- THE SECOND FORM's CARD OF 'laws.FnExactScoreText'. -/
def fnExactScoreTextUptoCard : Claim7 := { stood := { row := fnExactScoreTextUptoRow, standIns := [], harness := (true, "2b28dc07608126eb294b792047fe77efa507881eeb9bcdf5b5e874314fc18c3d"), looks := true }, kinds := [], alts := [], laidByText := true, laidKinds := [.data, .data, .data, .data], laidTests := true, laidLooks := .later }
def FnExactScoreTextUptoCardSaid : Prop := Claim7.holds Tryd.pinned (.plain (OpenSpec.upto fnExactScoreTextSpec)) fnExactScoreTextUptoCard

/-- THE SECOND FORM's CARD OF 'laws.FnExactParseScore'. -/
def fnExactParseScoreUptoCard : Claim7 := { stood := { row := fnExactParseScoreUptoRow, standIns := [], harness := (true, "2b28dc07608126eb294b792047fe77efa507881eeb9bcdf5b5e874314fc18c3d"), looks := true }, kinds := [], alts := [], laidByText := true, laidKinds := [.data, .data, .data, .data, .sentinel, .sentinel, .data, .pinned], laidTests := true, laidLooks := .later }
def FnExactParseScoreUptoCardSaid : Prop := Claim7.holds Tryd.pinned (.plain (OpenSpec.upto fnExactParseScoreSpec)) fnExactParseScoreUptoCard
end Rows
end Go.Proofs.YtfgfiahampjfiaaDoor
