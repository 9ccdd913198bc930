/- CommonPitches: the model's and the program's functions have one answer, in memory of their own. -/
import Derived.Test.YtecbeicppfcofabDoorInsF
import Derived.Test.YtecbeicppfcofabDoorPut
namespace Go.Proofs.YtecbeicppfcofabDoor
open Go.RowKit Go.Sort
set_option linter.unusedVariables false
set_option linter.unusedSimpArgs false

/-- A call returned numbers of its own, or nil and false; below the heap's old size nothing has turned. -/
def RetI (B : World) (l : List Int) (ok : Bool) (e : Ending) (w' : World) : Prop :=
  ∃ v, e = .returned (.tuple #[v, .bool ok]) ∧ OwnI w' B.heap.size 3 v (if ok = true then l else []) ∧ Below B.heap.size B w'
/-- The numbers of a list that another one has. -/
def comL (m : List Int) (l : List Int) : List Int := l.filter (hasB m)
theorem comL_snoc (m l : List Int) (k : Nat) (x : Int) (h : l[k]? = some x) : comL m (l.take (k + 1)) = comL m (l.take k) ++ (if hasB m x = true then [x] else []) := by
  unfold comL
  rw [List.take_add_one, h, List.filter_append]
  congr 1
  simp [List.filter_cons]
theorem comL_length (m l : List Int) : (comL m l).length ≤ l.length := List.length_filter_le _ _
theorem trk_has (m : List Int) (x : Int) : hasB m x = decide (0 ≤ trk x m) := hasB_trk m x

end Go.Proofs.YtecbeicppfcofabDoor
