/- Contracts of the laws' own functions over one struct and two: copying, equality. -/
import Derived.Test.YtkefphfjpkmceaaDoorSmall
import Derived.StillTailTactics
import Derived.Deep.RegionWith
import Derived.Handy
namespace Go.Proofs.YtkefphfjpkmceaaDoor
open Go.RowKit
set_option linter.unusedVariables false

/-- Two rows are equal. -/
def eqBChange (p s p' s' : Int) : Bool := ((p == p') && (s == s'))

set_option maxHeartbeats 400000 in
theorem toChange_any (p s : Int) (w : World) :
    Calls Tryd.prog 14 #[.agg #[.int .i64 p, .int .i64 s]] w fun e w' => e = .returned (.agg #[.int .i64 p, .int .i64 s]) ∧ Below w.heap.size w w' := by
  go_enter Tryd.func14, Tryd.ntmps14
  go_wp2
  exact bodyPost_ret (v := .agg #[.int .i64 p, .int .i64 s]) (by simp [results, Tryd.results14, go_sem]) rfl ⟨rfl, (((Below.refl _ _).alloc (Nat.le_refl _) _).alloc (by simp) _).alloc (by simp; omega) _⟩

set_option maxHeartbeats 400000 in
theorem eqChange_any (p s p' s' : Int) (w : World) :
    Calls Tryd.prog 18 #[.agg #[.int .i64 p, .int .i64 s], .agg #[.int .i64 p', .int .i64 s']] w fun e w' => e = .returned (.bool (eqBChange p s p' s')) ∧ Below w.heap.size w w' := by
  go_enter Tryd.func18, Tryd.ntmps18
  go_wp2
  all_goals (go_ret; exact ⟨ret_bool (by first | (simp [eqBChange, *]; done) | (simp_all [eqBChange]; done) | (rw [Bool.eq_iff_iff]; simp [eqBChange]; omega)), ((Below.refl _ _).alloc (Nat.le_refl _) _).alloc (by simp) _⟩)

end Go.Proofs.YtkefphfjpkmceaaDoor
