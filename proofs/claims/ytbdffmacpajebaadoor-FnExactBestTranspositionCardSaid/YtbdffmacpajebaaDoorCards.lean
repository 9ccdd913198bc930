/-
  DERIVED. GIVEN WITH THE SEED: THE CARDS: each row of YtbdffmacpajebaaDoorRows.lean that lists a variable, with what it lists TIED to the program's text (the seventh form; the later family's looks); each row that meets fmt, with fmt's text TOLD by the authors' own Lean function (tested against real Go, not proved from fmt's source: count such statements apart). THE CARD IS WHAT COUNTS. Prove the row's statement (the work); the ties are given (YtbdffmacpajebaaDoorTie.lean); close each card by the builder's one call (the guide's Derived/Test/ToyasCard.lean, 'card_holds'). Laid BY PROGRAM, IN A SANDBOX (cutbox-door.mjs). By AI agents, Wed Nov 11 2026. No macro, syntax, notation, axiom, sorry.
-/
import Derived.Test.YtbdffmacpajebaaDoorRows
import GoSem.ClaimSeven
namespace Go.Proofs.YtbdffmacpajebaaDoor
namespace Rows

/-- THE TIED CARD OF 'laws.FnExactNearestPitch'. -/
def fnExactNearestPitchCard : Claim7 := { stood := { row := fnExactNearestPitchRow, standIns := [], harness := (true, "fee51e9aaec4c6c8ba5d1e7168f7b2bbfc02e85210a92df9ee2a2afbb7efa052"), looks := false }, kinds := [], alts := [], laidByText := true, laidKinds := [.data], laidTests := true, laidLooks := .later }
def FnExactNearestPitchCardSaid : Prop := Claim7.holds Tryd.pinned (.plain (OpenSpec.ofChange fnExactNearestPitchSpec)) fnExactNearestPitchCard

/-- THE TIED CARD OF 'laws.FnExactFoldPitch'. -/
def fnExactFoldPitchCard : Claim7 := { stood := { row := fnExactFoldPitchRow, standIns := [], harness := (true, "fee51e9aaec4c6c8ba5d1e7168f7b2bbfc02e85210a92df9ee2a2afbb7efa052"), looks := false }, kinds := [], alts := [], laidByText := true, laidKinds := [.data], laidTests := true, laidLooks := .later }
def FnExactFoldPitchCardSaid : Prop := Claim7.holds Tryd.pinned (.plain (OpenSpec.ofChange fnExactFoldPitchSpec)) fnExactFoldPitchCard

/-- THE TIED CARD OF 'laws.FnExactTransposeLoss'. -/
def fnExactTransposeLossCard : Claim7 := { stood := { row := fnExactTransposeLossRow, standIns := [], harness := (true, "fee51e9aaec4c6c8ba5d1e7168f7b2bbfc02e85210a92df9ee2a2afbb7efa052"), looks := false }, kinds := [], alts := [], laidByText := true, laidKinds := [.data], laidTests := true, laidLooks := .later }
def FnExactTransposeLossCardSaid : Prop := Claim7.holds Tryd.pinned (.plain (OpenSpec.ofChange fnExactTransposeLossSpec)) fnExactTransposeLossCard

/-- THE TIED CARD OF 'laws.FnExactLossTable'. -/
def fnExactLossTableCard : Claim7 := { stood := { row := fnExactLossTableRow, standIns := [], harness := (true, "fee51e9aaec4c6c8ba5d1e7168f7b2bbfc02e85210a92df9ee2a2afbb7efa052"), looks := false }, kinds := [], alts := [], laidByText := true, laidKinds := [.data], laidTests := true, laidLooks := .later }
def FnExactLossTableCardSaid : Prop := Claim7.holds Tryd.pinned (.plain (OpenSpec.ofChange fnExactLossTableSpec)) fnExactLossTableCard

/-- THE TIED CARD OF 'laws.FnExactFullTranspositions'. -/
def fnExactFullTranspositionsCard : Claim7 := { stood := { row := fnExactFullTranspositionsRow, standIns := [], harness := (true, "fee51e9aaec4c6c8ba5d1e7168f7b2bbfc02e85210a92df9ee2a2afbb7efa052"), looks := false }, kinds := [], alts := [], laidByText := true, laidKinds := [.data], laidTests := true, laidLooks := .later }
def FnExactFullTranspositionsCardSaid : Prop := Claim7.holds Tryd.pinned (.plain (OpenSpec.ofChange fnExactFullTranspositionsSpec)) fnExactFullTranspositionsCard

/-- THE TIED CARD OF 'laws.FnExactBestTransposition'. -/
def fnExactBestTranspositionCard : Claim7 := { stood := { row := fnExactBestTranspositionRow, standIns := [], harness := (true, "fee51e9aaec4c6c8ba5d1e7168f7b2bbfc02e85210a92df9ee2a2afbb7efa052"), looks := false }, kinds := [], alts := [], laidByText := true, laidKinds := [.data], laidTests := true, laidLooks := .later }
def FnExactBestTranspositionCardSaid : Prop := Claim7.holds Tryd.pinned (.plain (OpenSpec.ofChange fnExactBestTranspositionSpec)) fnExactBestTranspositionCard

/-- THE TIED CARD OF 'laws.FnExactPlayableClasses'. -/
def fnExactPlayableClassesCard : Claim7 := { stood := { row := fnExactPlayableClassesRow, standIns := [], harness := (true, "fee51e9aaec4c6c8ba5d1e7168f7b2bbfc02e85210a92df9ee2a2afbb7efa052"), looks := false }, kinds := [], alts := [], laidByText := true, laidKinds := [.data], laidTests := true, laidLooks := .later }
def FnExactPlayableClassesCardSaid : Prop := Claim7.holds Tryd.pinned (.plain (OpenSpec.ofChange fnExactPlayableClassesSpec)) fnExactPlayableClassesCard

/-- THE SECOND FORM's CARD OF 'laws.FnExactNearestPitch'. -/
def fnExactNearestPitchUptoCard : Claim7 := { stood := { row := fnExactNearestPitchUptoRow, standIns := [], harness := (true, "fee51e9aaec4c6c8ba5d1e7168f7b2bbfc02e85210a92df9ee2a2afbb7efa052"), looks := false }, kinds := [], alts := [], laidByText := true, laidKinds := [.data], laidTests := true, laidLooks := .later }
def FnExactNearestPitchUptoCardSaid : Prop := Claim7.holds Tryd.pinned (.plain (OpenSpec.upto fnExactNearestPitchSpec)) fnExactNearestPitchUptoCard

/-- THE SECOND FORM's CARD OF 'laws.FnExactFoldPitch'. -/
def fnExactFoldPitchUptoCard : Claim7 := { stood := { row := fnExactFoldPitchUptoRow, standIns := [], harness := (true, "fee51e9aaec4c6c8ba5d1e7168f7b2bbfc02e85210a92df9ee2a2afbb7efa052"), looks := false }, kinds := [], alts := [], laidByText := true, laidKinds := [.data], laidTests := true, laidLooks := .later }
def FnExactFoldPitchUptoCardSaid : Prop := Claim7.holds Tryd.pinned (.plain (OpenSpec.upto fnExactFoldPitchSpec)) fnExactFoldPitchUptoCard

/-- THE SECOND FORM's CARD OF 'laws.FnExactTransposeLoss'. -/
def fnExactTransposeLossUptoCard : Claim7 := { stood := { row := fnExactTransposeLossUptoRow, standIns := [], harness := (true, "fee51e9aaec4c6c8ba5d1e7168f7b2bbfc02e85210a92df9ee2a2afbb7efa052"), looks := false }, kinds := [], alts := [], laidByText := true, laidKinds := [.data], laidTests := true, laidLooks := .later }
def FnExactTransposeLossUptoCardSaid : Prop := Claim7.holds Tryd.pinned (.plain (OpenSpec.upto fnExactTransposeLossSpec)) fnExactTransposeLossUptoCard

/-- THE SECOND FORM's CARD OF 'laws.FnExactLossTable'. -/
def fnExactLossTableUptoCard : Claim7 := { stood := { row := fnExactLossTableUptoRow, standIns := [], harness := (true, "fee51e9aaec4c6c8ba5d1e7168f7b2bbfc02e85210a92df9ee2a2afbb7efa052"), looks := false }, kinds := [], alts := [], laidByText := true, laidKinds := [.data], laidTests := true, laidLooks := .later }
def FnExactLossTableUptoCardSaid : Prop := Claim7.holds Tryd.pinned (.plain (OpenSpec.upto fnExactLossTableSpec)) fnExactLossTableUptoCard

/-- THE SECOND FORM's CARD OF 'laws.FnExactFullTranspositions'. -/
def fnExactFullTranspositionsUptoCard : Claim7 := { stood := { row := fnExactFullTranspositionsUptoRow, standIns := [], harness := (true, "fee51e9aaec4c6c8ba5d1e7168f7b2bbfc02e85210a92df9ee2a2afbb7efa052"), looks := false }, kinds := [], alts := [], laidByText := true, laidKinds := [.data], laidTests := true, laidLooks := .later }
def FnExactFullTranspositionsUptoCardSaid : Prop := Claim7.holds Tryd.pinned (.plain (OpenSpec.upto fnExactFullTranspositionsSpec)) fnExactFullTranspositionsUptoCard

/-- THE SECOND FORM's CARD OF 'laws.FnExactBestTransposition'. -/
def fnExactBestTranspositionUptoCard : Claim7 := { stood := { row := fnExactBestTranspositionUptoRow, standIns := [], harness := (true, "fee51e9aaec4c6c8ba5d1e7168f7b2bbfc02e85210a92df9ee2a2afbb7efa052"), looks := false }, kinds := [], alts := [], laidByText := true, laidKinds := [.data], laidTests := true, laidLooks := .later }
def FnExactBestTranspositionUptoCardSaid : Prop := Claim7.holds Tryd.pinned (.plain (OpenSpec.upto fnExactBestTranspositionSpec)) fnExactBestTranspositionUptoCard

/-- THE SECOND FORM's CARD OF 'laws.FnExactPlayableClasses'. -/
def fnExactPlayableClassesUptoCard : Claim7 := { stood := { row := fnExactPlayableClassesUptoRow, standIns := [], harness := (true, "fee51e9aaec4c6c8ba5d1e7168f7b2bbfc02e85210a92df9ee2a2afbb7efa052"), looks := false }, kinds := [], alts := [], laidByText := true, laidKinds := [.data], laidTests := true, laidLooks := .later }
def FnExactPlayableClassesUptoCardSaid : Prop := Claim7.holds Tryd.pinned (.plain (OpenSpec.upto fnExactPlayableClassesSpec)) fnExactPlayableClassesUptoCard
end Rows
end Go.Proofs.YtbdffmacpajebaaDoor
