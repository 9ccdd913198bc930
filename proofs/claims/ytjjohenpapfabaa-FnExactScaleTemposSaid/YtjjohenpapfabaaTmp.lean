/- Contracts: which changes are tempos, of the model and of the program. -/
import Derived.Test.YtjjohenpapfabaaTmpP
import Derived.Test.YtjjohenpapfabaaChangeSlc
namespace Go.Proofs.Ytjjohenpapfabaa
open Go.RowKit
set_option linter.unusedVariables false
set_option linter.unusedSimpArgs false

set_option maxHeartbeats 400000 in
theorem isTimedStep_any (n : Int) (w : World) :
    Calls Try.prog 94 #[.int .i64 n] w fun e w' => e = .returned (.bool (inR n 0 2000)) ∧ w = w' := by
  go_enter Try.func94, Try.ntmps94
  go_wp2_with (go_at_call 58; refine (inRange_any _ _ _ _).mono ?_; rintro e w' ⟨rfl, rfl⟩)
  go_ret; exact ⟨rfl, rfl⟩

set_option maxHeartbeats 400000 in
theorem isChange_any (s n : Int) (w : World) :
    Calls Try.prog 83 #[.agg #[.int .i64 s, .int .i64 n]] w fun e w' => e = .returned (.bool (chB (s, n))) ∧ Below w.heap.size w w' := by
  go_enter Try.func83, Try.ntmps83
  go_wp2_with (first
    | (go_at_call 94; refine (isTimedStep_any _ _).mono ?_; rintro e w' ⟨rfl, rfl⟩)
    | (go_at_call 58; refine (inRange_any _ _ _ _).mono ?_; rintro e w' ⟨rfl, rfl⟩))
  all_goals (go_ret; exact ⟨ret_bool (by simp [chB, *]), (Below.refl _ _).alloc (Nat.le_refl _) _⟩)

set_option maxHeartbeats 400000 in
theorem teChange_any (s n : Int) (w : World) :
    Calls Try.prog 82 #[.agg #[.int .i64 s, .int .i64 n]] w fun e w' => e = .returned (.bool (chB (s, n))) ∧ Below w.heap.size w w' := by
  go_enter Try.func82, Try.ntmps82
  go_wp2_with (go_at_call 54; refine (l1In_any _ _ _ _).mono ?_; rintro e w' ⟨rfl, rfl⟩)
  all_goals (go_ret; exact ⟨ret_bool (by simp [chB, *]), (Below.refl _ _).alloc (Nat.le_refl _) _⟩)

end Go.Proofs.Ytjjohenpapfabaa
