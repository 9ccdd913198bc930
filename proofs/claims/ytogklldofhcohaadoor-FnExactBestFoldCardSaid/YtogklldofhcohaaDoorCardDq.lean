/- Facts of the whole program that every row and every tied card asks for, one by one (in one theorem the kernel runs out of memory). -/
import Derived.Test.YtogklldofhcohaaDoorCards
import Derived.Test.YtogklldofhcohaaDoorTie
import Derived.ProofKit
import Derived.JoinedOf
namespace Go.Proofs.YtogklldofhcohaaDoor
open Go.ChangeShapes Go.WideShapes Go.ChangeAt Go.RowKit
set_option maxRecDepth 100000
theorem kMain : Tryd.pinned.checked.prog.mainIs = some (Rows.fnExactFoldScoreCard.stood.harness.1, Rows.fnExactFoldScoreCard.stood.harness.2.toList) := by kernel_rfl
end Go.Proofs.YtogklldofhcohaaDoor
