/-
  DERIVED. GIVEN WITH THE SEED: THE CARDS: each row of YtogklldofhcohaaDoorRows.lean that lists a variable, with what it lists TIED to the program's text (the seventh form; the later family's looks); each row that meets fmt, with fmt's text TOLD by the authors' own Lean function (tested against real Go, not proved from fmt's source: count such statements apart). THE CARD IS WHAT COUNTS. Prove the row's statement (the work); the ties are given (YtogklldofhcohaaDoorTie.lean); close each card by the builder's one call (the guide's Derived/Test/ToyasCard.lean, 'card_holds'). Laid BY PROGRAM, IN A SANDBOX (cutbox-door.mjs). By AI agents, Wed Nov 11 2026. No macro, syntax, notation, axiom, sorry.
-/
import Derived.Test.YtogklldofhcohaaDoorRows
import GoSem.ClaimSeven
namespace Go.Proofs.YtogklldofhcohaaDoor
namespace Rows

/-- THE TIED CARD OF 'laws.FnExactFoldScore'. -/
def fnExactFoldScoreCard : Claim7 := { stood := { row := fnExactFoldScoreRow, standIns := [], harness := (true, "7bb9d07a788c61259ae2b9f369bd4a47880bb6d362a48ee9cfeb4d011f0f20fa"), looks := false }, kinds := [], alts := [], laidByText := true, laidKinds := [.data], laidTests := true, laidLooks := .later }
def FnExactFoldScoreCardSaid : Prop := Claim7.holds Tryd.pinned (.plain (OpenSpec.ofChange fnExactFoldScoreSpec)) fnExactFoldScoreCard

/-- THE TIED CARD OF 'laws.FnExactBestFold'. -/
def fnExactBestFoldCard : Claim7 := { stood := { row := fnExactBestFoldRow, standIns := [], harness := (true, "7bb9d07a788c61259ae2b9f369bd4a47880bb6d362a48ee9cfeb4d011f0f20fa"), looks := false }, kinds := [], alts := [], laidByText := true, laidKinds := [.data], laidTests := true, laidLooks := .later }
def FnExactBestFoldCardSaid : Prop := Claim7.holds Tryd.pinned (.plain (OpenSpec.ofChange fnExactBestFoldSpec)) fnExactBestFoldCard

/-- THE SECOND FORM's CARD OF 'laws.FnExactFoldScore'. -/
def fnExactFoldScoreUptoCard : Claim7 := { stood := { row := fnExactFoldScoreUptoRow, standIns := [], harness := (true, "7bb9d07a788c61259ae2b9f369bd4a47880bb6d362a48ee9cfeb4d011f0f20fa"), looks := false }, kinds := [], alts := [], laidByText := true, laidKinds := [.data], laidTests := true, laidLooks := .later }
def FnExactFoldScoreUptoCardSaid : Prop := Claim7.holds Tryd.pinned (.plain (OpenSpec.upto fnExactFoldScoreSpec)) fnExactFoldScoreUptoCard

/-- THE SECOND FORM's CARD OF 'laws.FnExactBestFold'. -/
def fnExactBestFoldUptoCard : Claim7 := { stood := { row := fnExactBestFoldUptoRow, standIns := [], harness := (true, "7bb9d07a788c61259ae2b9f369bd4a47880bb6d362a48ee9cfeb4d011f0f20fa"), looks := false }, kinds := [], alts := [], laidByText := true, laidKinds := [.data], laidTests := true, laidLooks := .later }
def FnExactBestFoldUptoCardSaid : Prop := Claim7.holds Tryd.pinned (.plain (OpenSpec.upto fnExactBestFoldSpec)) fnExactBestFoldUptoCard
end Rows
end Go.Proofs.YtogklldofhcohaaDoor
