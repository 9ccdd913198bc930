/- Facts of the whole program that every row and every tied card asks for, one by one (in one theorem the kernel runs out of memory). -/
import Derived.Test.YtogklldofhcohaaDoorCardAq
import Derived.Test.YtogklldofhcohaaDoorCardBq
import Derived.Test.YtogklldofhcohaaDoorCardCq
import Derived.Test.YtogklldofhcohaaDoorCardDq
import Derived.ProofKit
import Derived.JoinedOf
namespace Go.Proofs.YtogklldofhcohaaDoor
open Go.ChangeShapes Go.WideShapes Go.ChangeAt Go.RowKit
set_option maxRecDepth 100000
theorem kLooks : false = Tryd.pinned.checked.prog.looks [] := by kernel_rfl
theorem kLaid : laidOutB Tryd.pinned.checked.prog = true := by kernel_rfl
theorem kMaps : mapsRowed Tryd.pinned.checked.prog = true := by kernel_rfl
theorem kStops : (Tryd.pinned.checked.prog.stops == []) = true := by kernel_rfl
theorem kKnobs : (Tryd.pinned.checked.prog.stopKnobs == []) = true := by kernel_rfl
theorem kKeys : (Rows.fnExactFoldScoreRow.plainKeys == Tryd.pinned.checked.prog.plainKeys) = true := by kernel_rfl
theorem kHeard : Tryd.pinned.checked.prog.stopsHeard = true := by kernel_rfl
theorem tt {a b : Bool} (ha : a = true) (hb : b = true) : (a && b) = true := by rw [ha, hb]; rfl
end Go.Proofs.YtogklldofhcohaaDoor
