/- Facts of the whole program that every row and every tied card asks for, one by one (in one theorem the kernel runs out of memory). -/
import Derived.Test.YtfgfiahampjfiaaDoorCards
import Derived.Test.YtfgfiahampjfiaaDoorTie
import Derived.ProofKit
import Derived.JoinedOf
namespace Go.Proofs.YtfgfiahampjfiaaDoor
open Go.ChangeShapes Go.WideShapes Go.ChangeAt Go.RowKit
set_option maxRecDepth 100000
theorem kLifts : (Rows.fnExactIsInstrumentRow.lifted == Tryd.pinned.checked.prog.liftsFinal) = true := by kernel_rfl
end Go.Proofs.YtfgfiahampjfiaaDoor
