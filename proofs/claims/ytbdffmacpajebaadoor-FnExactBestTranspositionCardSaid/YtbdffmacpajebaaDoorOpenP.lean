/- The cells of an int, for arguments that are opened. -/
import Derived.Test.YtbdffmacpajebaaDoorLawV
namespace Go.Proofs.YtbdffmacpajebaaDoor
open Go.RowKit
theorem Tryd.cellsInt : Tryd.prog.cellsOf 3 = 1 := by kernel_rfl
end Go.Proofs.YtbdffmacpajebaaDoor
