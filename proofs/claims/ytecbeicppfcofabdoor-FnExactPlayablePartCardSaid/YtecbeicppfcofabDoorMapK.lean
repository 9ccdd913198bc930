/- A map of the call's own, int to int: the laws of its keys. -/
import Derived.Test.YtecbeicppfcofabDoorSmall
import Derived.OwnWalk
import Derived.Maps.OwnSet
import Derived.Maps.OwnOps
namespace Go.Proofs.YtecbeicppfcofabDoor
open Go.RowKit Go.Maps
set_option linter.unusedVariables false

theorem mapLaw : Keyed Tryd.prog 3 := int_keyed Tryd.underlying3
theorem zeroInt (w : World) : (zeroValue 3).run Tryd.prog w = .ok (.int .i64 0) w := by kernel_rfl
theorem wf64 (z : Int) (h : -4000000000 ≤ z) (h' : z ≤ 4000000000) : (Lit.int .i64 z).wf = true := WalkArith.wf_i64 (by omega)
theorem keyI (p : Int) (h : -1000000 ≤ p) (h' : p ≤ 1000000) : keyOf Tryd.prog 3 (.int .i64 p) = some (.int .i64 p) := keyOf_int_mk Tryd.underlying3 (wf64 p (by omega) (by omega))
theorem ownsMap_below {w w' : World} {b n : Nat} {D : DataW Unit} (h : w.ownsMap Tryd.prog 3 (plainElem Tryd.prog 3) b n D) (hb : Below w.heap.size w w') : w'.ownsMap Tryd.prog 3 (plainElem Tryd.prog 3) b n D :=
  h.kept (row := none) ⟨hb.os, hb.tape, hb.output, hb.size, fun k hk _ => hb.block k hk⟩ (by simp)
end Go.Proofs.YtecbeicppfcofabDoor
