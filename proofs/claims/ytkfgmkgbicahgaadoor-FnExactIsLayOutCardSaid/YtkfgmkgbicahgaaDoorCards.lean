/-
  DERIVED. GIVEN WITH THE SEED: THE CARDS: each row of YtkfgmkgbicahgaaDoorRows.lean that lists a variable, with what it lists TIED to the program's text (the seventh form; the later family's looks); each row that meets fmt, with fmt's text TOLD by the authors' own Lean function (tested against real Go, not proved from fmt's source: count such statements apart). THE CARD IS WHAT COUNTS. Prove the row's statement (the work); the ties are given (YtkfgmkgbicahgaaDoorTie.lean); close each card by the builder's one call (the guide's Derived/Test/ToyasCard.lean, 'card_holds'). Laid BY PROGRAM, IN A SANDBOX (cutbox-door.mjs). By AI agents, Wed Nov 11 2026. No macro, syntax, notation, axiom, sorry.
-/
import Derived.Test.YtkfgmkgbicahgaaDoorRows
import GoSem.ClaimSeven
namespace Go.Proofs.YtkfgmkgbicahgaaDoor
namespace Rows

/-- THE TIED CARD OF 'laws.FnExactHoleFor'. -/
def fnExactHoleForCard : Claim7 := { stood := { row := fnExactHoleForRow, standIns := [], harness := (true, "2a82603f114b95fa64762f6d595c3c3bc4a4984b840d54b7d23c7cc08adbd785"), looks := false }, kinds := [], alts := [], laidByText := true, laidKinds := [.data], laidTests := true, laidLooks := .later }
def FnExactHoleForCardSaid : Prop := Claim7.holds Tryd.pinned (.plain (OpenSpec.ofChange fnExactHoleForSpec)) fnExactHoleForCard

/-- THE TIED CARD OF 'laws.FnExactNoteFor'. -/
def fnExactNoteForCard : Claim7 := { stood := { row := fnExactNoteForRow, standIns := [], harness := (true, "2a82603f114b95fa64762f6d595c3c3bc4a4984b840d54b7d23c7cc08adbd785"), looks := false }, kinds := [], alts := [], laidByText := true, laidKinds := [.data], laidTests := true, laidLooks := .later }
def FnExactNoteForCardSaid : Prop := Claim7.holds Tryd.pinned (.plain (OpenSpec.ofChange fnExactNoteForSpec)) fnExactNoteForCard

/-- THE TIED CARD OF 'laws.FnExactLayOut'. -/
def fnExactLayOutCard : Claim7 := { stood := { row := fnExactLayOutRow, standIns := [], harness := (true, "2a82603f114b95fa64762f6d595c3c3bc4a4984b840d54b7d23c7cc08adbd785"), looks := false }, kinds := [], alts := [], laidByText := true, laidKinds := [.data], laidTests := true, laidLooks := .later }
def FnExactLayOutCardSaid : Prop := Claim7.holds Tryd.pinned (.plain (OpenSpec.ofChange fnExactLayOutSpec)) fnExactLayOutCard

/-- THE TIED CARD OF 'laws.FnExactReadBack'. -/
def fnExactReadBackCard : Claim7 := { stood := { row := fnExactReadBackRow, standIns := [], harness := (true, "2a82603f114b95fa64762f6d595c3c3bc4a4984b840d54b7d23c7cc08adbd785"), looks := false }, kinds := [], alts := [], laidByText := true, laidKinds := [.data], laidTests := true, laidLooks := .later }
def FnExactReadBackCardSaid : Prop := Claim7.holds Tryd.pinned (.plain (OpenSpec.ofChange fnExactReadBackSpec)) fnExactReadBackCard

/-- THE TIED CARD OF 'laws.FnExactIsLayOut'. -/
def fnExactIsLayOutCard : Claim7 := { stood := { row := fnExactIsLayOutRow, standIns := [], harness := (true, "2a82603f114b95fa64762f6d595c3c3bc4a4984b840d54b7d23c7cc08adbd785"), looks := false }, kinds := [], alts := [], laidByText := true, laidKinds := [.data], laidTests := true, laidLooks := .later }
def FnExactIsLayOutCardSaid : Prop := Claim7.holds Tryd.pinned (.plain (OpenSpec.ofChange fnExactIsLayOutSpec)) fnExactIsLayOutCard

/-- THE TIED CARD OF 'laws.FnExactSpareTracks'. -/
def fnExactSpareTracksCard : Claim7 := { stood := { row := fnExactSpareTracksRow, standIns := [], harness := (true, "2a82603f114b95fa64762f6d595c3c3bc4a4984b840d54b7d23c7cc08adbd785"), looks := false }, kinds := [], alts := [], laidByText := true, laidKinds := [.data], laidTests := true, laidLooks := .later }
def FnExactSpareTracksCardSaid : Prop := Claim7.holds Tryd.pinned (.plain (OpenSpec.ofChange fnExactSpareTracksSpec)) fnExactSpareTracksCard

/-- THE SECOND FORM's CARD OF 'laws.FnExactHoleFor'. -/
def fnExactHoleForUptoCard : Claim7 := { stood := { row := fnExactHoleForUptoRow, standIns := [], harness := (true, "2a82603f114b95fa64762f6d595c3c3bc4a4984b840d54b7d23c7cc08adbd785"), looks := false }, kinds := [], alts := [], laidByText := true, laidKinds := [.data], laidTests := true, laidLooks := .later }
def FnExactHoleForUptoCardSaid : Prop := Claim7.holds Tryd.pinned (.plain (OpenSpec.upto fnExactHoleForSpec)) fnExactHoleForUptoCard

/-- THE SECOND FORM's CARD OF 'laws.FnExactNoteFor'. -/
def fnExactNoteForUptoCard : Claim7 := { stood := { row := fnExactNoteForUptoRow, standIns := [], harness := (true, "2a82603f114b95fa64762f6d595c3c3bc4a4984b840d54b7d23c7cc08adbd785"), looks := false }, kinds := [], alts := [], laidByText := true, laidKinds := [.data], laidTests := true, laidLooks := .later }
def FnExactNoteForUptoCardSaid : Prop := Claim7.holds Tryd.pinned (.plain (OpenSpec.upto fnExactNoteForSpec)) fnExactNoteForUptoCard

/-- THE SECOND FORM's CARD OF 'laws.FnExactLayOut'. -/
def fnExactLayOutUptoCard : Claim7 := { stood := { row := fnExactLayOutUptoRow, standIns := [], harness := (true, "2a82603f114b95fa64762f6d595c3c3bc4a4984b840d54b7d23c7cc08adbd785"), looks := false }, kinds := [], alts := [], laidByText := true, laidKinds := [.data], laidTests := true, laidLooks := .later }
def FnExactLayOutUptoCardSaid : Prop := Claim7.holds Tryd.pinned (.plain (OpenSpec.upto fnExactLayOutSpec)) fnExactLayOutUptoCard

/-- THE SECOND FORM's CARD OF 'laws.FnExactReadBack'. -/
def fnExactReadBackUptoCard : Claim7 := { stood := { row := fnExactReadBackUptoRow, standIns := [], harness := (true, "2a82603f114b95fa64762f6d595c3c3bc4a4984b840d54b7d23c7cc08adbd785"), looks := false }, kinds := [], alts := [], laidByText := true, laidKinds := [.data], laidTests := true, laidLooks := .later }
def FnExactReadBackUptoCardSaid : Prop := Claim7.holds Tryd.pinned (.plain (OpenSpec.upto fnExactReadBackSpec)) fnExactReadBackUptoCard

/-- THE SECOND FORM's CARD OF 'laws.FnExactIsLayOut'. -/
def fnExactIsLayOutUptoCard : Claim7 := { stood := { row := fnExactIsLayOutUptoRow, standIns := [], harness := (true, "2a82603f114b95fa64762f6d595c3c3bc4a4984b840d54b7d23c7cc08adbd785"), looks := false }, kinds := [], alts := [], laidByText := true, laidKinds := [.data], laidTests := true, laidLooks := .later }
def FnExactIsLayOutUptoCardSaid : Prop := Claim7.holds Tryd.pinned (.plain (OpenSpec.upto fnExactIsLayOutSpec)) fnExactIsLayOutUptoCard

/-- THE SECOND FORM's CARD OF 'laws.FnExactSpareTracks'. -/
def fnExactSpareTracksUptoCard : Claim7 := { stood := { row := fnExactSpareTracksUptoRow, standIns := [], harness := (true, "2a82603f114b95fa64762f6d595c3c3bc4a4984b840d54b7d23c7cc08adbd785"), looks := false }, kinds := [], alts := [], laidByText := true, laidKinds := [.data], laidTests := true, laidLooks := .later }
def FnExactSpareTracksUptoCardSaid : Prop := Claim7.holds Tryd.pinned (.plain (OpenSpec.upto fnExactSpareTracksSpec)) fnExactSpareTracksUptoCard
end Rows
end Go.Proofs.YtkfgmkgbicahgaaDoor
