/- Facts of the whole program that every row and every tied card asks for, one by one (in one theorem the kernel runs out of memory). -/
import Derived.Test.YtkfgmkgbicahgaaGreatDoorCardAq
import Derived.Test.YtkfgmkgbicahgaaGreatDoorCardBq
import Derived.Test.YtkfgmkgbicahgaaGreatDoorCardCq
import Derived.Test.YtkfgmkgbicahgaaGreatDoorCardDq
import Derived.ProofKit
import Derived.JoinedOf
namespace Go.Proofs.YtkfgmkgbicahgaaGreatDoor
open Go.ChangeShapes Go.WideShapes Go.ChangeAt Go.RowKit
set_option maxRecDepth 100000
theorem kLooks : true = Tryz.pinned.checked.prog.looks [] := by kernel_rfl
theorem kLaid : laidOutB Tryz.pinned.checked.prog = true := by kernel_rfl
theorem kMaps : mapsRowed Tryz.pinned.checked.prog = true := by kernel_rfl
theorem kStops : (Tryz.pinned.checked.prog.stops == []) = true := by kernel_rfl
theorem kKnobs : (Tryz.pinned.checked.prog.stopKnobs == []) = true := by kernel_rfl
theorem kKeys : (Rows.fnExactLayOutFromRow.plainKeys == Tryz.pinned.checked.prog.plainKeys) = true := by kernel_rfl
theorem kHeard : Tryz.pinned.checked.prog.stopsHeard = true := by kernel_rfl
theorem tt {a b : Bool} (ha : a = true) (hb : b = true) : (a && b) = true := by rw [ha, hb]; rfl
end Go.Proofs.YtkfgmkgbicahgaaGreatDoor
