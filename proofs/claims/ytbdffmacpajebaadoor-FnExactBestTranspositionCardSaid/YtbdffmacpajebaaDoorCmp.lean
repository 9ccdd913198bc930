/- The contract of compareNotes. -/
import Derived.Test.YtbdffmacpajebaaDoorTwo
namespace Go.Proofs.YtbdffmacpajebaaDoor
open Go.RowKit
set_option linter.unusedVariables false

theorem cmpCompare_same (x y : Int) (w : World) :
    Calls Tryd.prog 76 #[.int .i64 x, .int .i64 y] w fun e w' => e = .returned (.int .i64 (cmpZ x y)) ∧ w' = w :=
  (cmpCompare_any x y w).mono fun _ _ ⟨h, k⟩ => ⟨h, k.symm⟩

set_option maxRecDepth 100000 in
set_option maxHeartbeats 1000000 in
theorem compareNotes_any (p s n p' s' n' : Int) (w : World) :
    Calls Tryd.prog 66 #[.agg #[.int .i64 p, .int .i64 s, .int .i64 n], .agg #[.int .i64 p', .int .i64 s', .int .i64 n']] w
      fun e w' => e = .returned (.int .i64 (cmpN p s p' s')) ∧ Below w.heap.size w w' := by
  go_enter Tryd.func66, Tryd.ntmps66
  go_wp2_with fail
  refine wp_region_still_tail 10 (by kernel_rfl) (by kernel_rfl) ?_
  change wpStill _ _ (World.drew _) (fun a' => wpList _ _ _ _ a' (World.drew _)) _ _
  simp only [List.take_succ_cons, List.take_zero, List.drop_succ_cons, List.drop_zero]
  repeat still_step
  still_call (cmpCompare_same _ _ _)
  repeat still_step
  still_call (cmpCompare_same _ _ _)
  repeat still_step
  try refine wpStill_nil ?_
  go_wp2_with (go_at_call 75; refine (cmpOr_any _ (cmpZ s s') (cmpZ p p') _ (by go_simp) (by go_simp)).mono ?_; rintro e w1 ⟨rfl, rfl⟩)
  go_ret
  exact ⟨rfl, by first | exact ((((Below.refl _ _).alloc (Nat.le_refl _) _).alloc (by simp) _).drew).alloc (by simp; omega) _ | exact ((((Below.refl _ _).alloc (Nat.le_refl _) _).alloc (by simp) _).alloc (by simp; omega) _).drew⟩
end Go.Proofs.YtbdffmacpajebaaDoor
