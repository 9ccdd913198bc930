/- The form of numbers of a call's own. -/
import Derived.Test.YtkfgmkgbicahgaaDoorIntP
namespace Go.Proofs.YtkfgmkgbicahgaaDoor
open Go.RowKit
theorem OwnI.form2 {w : World} {base t : Nat} {v : Value} {l : List Int} (h : OwnI w base t v l) : ∃ A c, v = .slice A l.length c ∧ RI w A l := by
  obtain ⟨A, c, h1, h2, _⟩ := h.form
  exact ⟨A, c, h1, h2⟩
end Go.Proofs.YtkfgmkgbicahgaaDoor
