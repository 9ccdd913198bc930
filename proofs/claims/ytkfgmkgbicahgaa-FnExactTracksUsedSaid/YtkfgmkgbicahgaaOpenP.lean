/- The cells of an int, for arguments that are opened. -/
import Derived.Test.YtkfgmkgbicahgaaLaw
namespace Go.Proofs.Ytkfgmkgbicahgaa
open Go.RowKit
theorem Try.cellsInt : Try.prog.cellsOf 3 = 1 := by kernel_rfl
end Go.Proofs.Ytkfgmkgbicahgaa
