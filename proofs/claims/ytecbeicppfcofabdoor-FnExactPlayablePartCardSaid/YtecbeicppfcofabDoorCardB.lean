/- Facts of the whole program that every row and every tied card asks for, one by one (in one theorem the kernel runs out of memory). -/
import Derived.Test.YtecbeicppfcofabDoorCards
import Derived.Test.YtecbeicppfcofabDoorTie
import Derived.ProofKit
import Derived.JoinedOf
namespace Go.Proofs.YtecbeicppfcofabDoor
open Go.ChangeShapes Go.WideShapes Go.ChangeAt Go.RowKit
set_option maxRecDepth 100000
theorem kLifts : (Rows.fnExactPlayablePartRow.lifted == Tryd.pinned.checked.prog.liftsFinal) = true := by kernel_rfl
end Go.Proofs.YtecbeicppfcofabDoor
