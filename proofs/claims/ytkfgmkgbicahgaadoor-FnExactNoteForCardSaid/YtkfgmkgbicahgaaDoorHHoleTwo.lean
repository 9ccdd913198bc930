/- Contracts of the laws' own functions over one struct and two: copying, equality. -/
import Derived.Test.YtkfgmkgbicahgaaDoorHSmall
import Derived.StillTailTactics
import Derived.Deep.RegionWith
import Derived.Handy
namespace Go.Proofs.YtkfgmkgbicahgaaDoor.H
open Go.RowKit
set_option linter.unusedVariables false

/-- Two rows are equal. -/
def eqBHole (p s t p' s' t' : Int) : Bool := ((p == p') && ((s == s') && (t == t')))

set_option maxHeartbeats 400000 in
theorem toHole_any (p s t : Int) (w : World) :
    Calls Tryd.prog 17 #[.agg #[.int .i64 p, .int .i64 s, .int .i64 t]] w fun e w' => e = .returned (.agg #[.int .i64 p, .int .i64 s, .int .i64 t]) ∧ Below w.heap.size w w' := by
  go_enter Tryd.func17, Tryd.ntmps17
  go_wp2
  exact bodyPost_ret (v := .agg #[.int .i64 p, .int .i64 s, .int .i64 t]) (by simp [results, Tryd.results17, go_sem]) rfl ⟨rfl, (((Below.refl _ _).alloc (Nat.le_refl _) _).alloc (by simp) _).alloc (by simp; omega) _⟩

set_option maxHeartbeats 400000 in
theorem eqHole_any (p s t p' s' t' : Int) (w : World) :
    Calls Tryd.prog 14 #[.agg #[.int .i64 p, .int .i64 s, .int .i64 t], .agg #[.int .i64 p', .int .i64 s', .int .i64 t']] w fun e w' => e = .returned (.bool (eqBHole p s t p' s' t')) ∧ Below w.heap.size w w' := by
  go_enter Tryd.func14, Tryd.ntmps14
  go_wp2
  all_goals (go_ret; exact ⟨ret_bool (by first | (simp [eqBHole, *]; done) | (simp_all [eqBHole]; done) | (rw [Bool.eq_iff_iff]; simp [eqBHole]; omega)), ((Below.refl _ _).alloc (Nat.le_refl _) _).alloc (by simp) _⟩)

end Go.Proofs.YtkfgmkgbicahgaaDoor.H
