/- Contracts of the laws' own functions over one event and two: copying, equality. -/
import Derived.Test.YtfjcnomingbneabDoorTwo
namespace Go.Proofs.YtfjcnomingbneabDoor
open Go.RowKit
set_option linter.unusedVariables false

set_option maxHeartbeats 400000 in
theorem eqEvent_any (p s n p' s' n' : Int) (w : World) :
    Calls Tryd.prog 27 #[.agg #[.int .i64 p, .int .i64 s, .int .i64 n], .agg #[.int .i64 p', .int .i64 s', .int .i64 n']] w fun e w' => e = .returned (.bool (eqB p s n p' s' n')) ∧ Below w.heap.size w w' := by
  go_enter Tryd.func27, Tryd.ntmps27
  go_wp2
  all_goals (go_ret; exact ⟨ret_bool (by first | (simp [eqB, *]; done) | (simp_all [eqB]; done) | (rw [Bool.eq_iff_iff]; simp [eqB]; omega)), ((Below.refl _ _).alloc (Nat.le_refl _) _).alloc (by simp) _⟩)

end Go.Proofs.YtfjcnomingbneabDoor
