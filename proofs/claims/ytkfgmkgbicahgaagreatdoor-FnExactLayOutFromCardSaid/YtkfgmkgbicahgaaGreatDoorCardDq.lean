/- Facts of the whole program that every row and every tied card asks for, one by one (in one theorem the kernel runs out of memory). -/
import Derived.Test.YtkfgmkgbicahgaaGreatDoorCards
import Derived.Test.YtkfgmkgbicahgaaGreatDoorTie
import Derived.ProofKit
import Derived.JoinedOf
namespace Go.Proofs.YtkfgmkgbicahgaaGreatDoor
open Go.ChangeShapes Go.WideShapes Go.ChangeAt Go.RowKit
set_option maxRecDepth 100000
theorem kMain : Tryz.pinned.checked.prog.mainIs = some (Rows.fnExactLayOutFromCard.stood.harness.1, Rows.fnExactLayOutFromCard.stood.harness.2.toList) := by kernel_rfl
end Go.Proofs.YtkfgmkgbicahgaaGreatDoor
