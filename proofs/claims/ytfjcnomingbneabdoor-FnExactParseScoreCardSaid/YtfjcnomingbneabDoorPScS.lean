/- The model's ParseScore. -/
import Derived.Test.YtfjcnomingbneabDoorPScM
namespace Go.Proofs.YtfjcnomingbneabDoor
open Go.RowKit Go.Sort
set_option linter.unusedVariables false
set_option linter.unusedSimpArgs false

set_option maxRecDepth 100000 in
set_option maxHeartbeats 1000000 in
theorem specParse_any (s : List UInt8) (w : World) (hs : s.length ≤ 1048576) :
    Calls Tryd.prog 5 #[.string (bs s)] w fun e w' => ScOf s w.heap.size w' e ∧ RowKit.Below w.heap.size w w' := by
  go_enter Tryd.func5, Tryd.ntmps5
  go_wp2_with fail
  refine (ntParse_any s w hs).mono ?_
  rintro e w1 ⟨hI, hb1⟩
  rcases hI with ⟨l, v, hg, hi, rfl, ho⟩ | ⟨hno, rfl⟩
  · have HG := Lib.hid hg
    have HI := Lib.hid hi
    have HO := Lib.hid ho
    clear hg hi ho
    go_wp2
    go_ret2
    exact ⟨.inl ⟨l, _, HG.out, HI.out, rfl, HO.out⟩, hb1⟩
  · have HNO := Lib.hid hno
    clear hno
    go_wp2
    go_ret2
    exact ⟨.inr ⟨HNO.out, rfl⟩, hb1⟩
end Go.Proofs.YtfjcnomingbneabDoor
