/- Contracts of the small functions over two notes: equality, order, meeting. -/
import Derived.Test.YtkfgmkgbicahgaaDoorHSmall
import Derived.StillTailTactics
import Derived.Deep.RegionWith
import Derived.Handy
import Derived.Test.YtkfgmkgbicahgaaDoorTwo
namespace Go.Proofs.YtkfgmkgbicahgaaDoor.H
open Go.RowKit
set_option linter.unusedVariables false

/-- Behind a hole there is no web ahead of a further one of its track. -/
def meetB (p s n p' s' n' : Int) : Bool := (p == p') && decide (s ≤ n')
set_option maxHeartbeats 400000 in
theorem ntBefore_any (p s n p' s' n' : Int) (w : World) :
    Calls Tryd.prog 92 #[.agg #[.int .i64 p, .int .i64 s, .int .i64 n], .agg #[.int .i64 p', .int .i64 s', .int .i64 n']] w fun e w' => e = .returned (.bool (befB p s p' s')) ∧ Below w.heap.size w w' := by
  go_enter Tryd.func92, Tryd.ntmps92
  go_wp2
  all_goals (go_ret; exact ⟨ret_bool (by first | (simp [befB, *]; done) | (simp_all [befB]; done) | (rw [Bool.eq_iff_iff]; simp [befB]; omega)), ((Below.refl _ _).alloc (Nat.le_refl _) _).alloc (by simp) _⟩)

end Go.Proofs.YtkfgmkgbicahgaaDoor.H
