/- What a call that returns numbers of its own and a bool has returned. -/
import Derived.Test.YtbdffmacpajebaaDoorIntS
namespace Go.Proofs.YtbdffmacpajebaaDoor
open Go.RowKit

/-- A call returned numbers of its own, or nil and false; below the heap's old size nothing has turned. -/
def RetI (B : World) (l : List Int) (ok : Bool) (e : Ending) (w' : World) : Prop :=
  ∃ v, e = .returned (.tuple #[v, .bool ok]) ∧ OwnI w' B.heap.size 3 v (if ok = true then l else []) ∧ Below B.heap.size B w'
end Go.Proofs.YtbdffmacpajebaaDoor
