/- What a call that returns holes of its own and a bool has returned. -/
import Derived.Test.YtjjohenpapfabaaRows3
import Derived.Test.YtjjohenpapfabaaGood
namespace Go.Proofs.Ytjjohenpapfabaa
open Go.RowKit
set_option linter.unusedVariables false

/-- A call returned a sheet of its own, or nil and false; below the heap's old size nothing has turned. -/
def RetScore (B : World) (l : List Nt) (ok : Bool) (e : Ending) (w' : World) : Prop :=
  ∃ v, e = .returned (.tuple #[v, .bool ok]) ∧ Own w' B.heap.size 34 v (if ok = true then l else []) ∧ Below B.heap.size B w'
theorem RetScore.mono {B B' : World} {l : List Nt} {ok : Bool} {e : Ending} {w' : World} (h : RetScore B' l ok e w') (hb : Below B.heap.size B B') : RetScore B l ok e w' := by
  obtain ⟨v, he, ho, hbl⟩ := h
  refine ⟨v, he, ?_, hb.trans (hbl.mono hb.size)⟩
  exact ho.mono hb.size
end Go.Proofs.Ytjjohenpapfabaa
