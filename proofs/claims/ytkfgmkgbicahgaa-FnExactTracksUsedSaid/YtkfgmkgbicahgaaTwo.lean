/- Contracts of the small functions over two notes: equality, order, meeting. -/
import Derived.Test.YtkfgmkgbicahgaaSmall
import Derived.StillTailTactics
import Derived.Deep.RegionWith
import Derived.Handy
namespace Go.Proofs.Ytkfgmkgbicahgaa
open Go.RowKit
set_option linter.unusedVariables false

/-- The first of two notes (start, pitch) comes before the second one. -/
def befB (p s p' s' : Int) : Bool := decide (s < s') || ((s == s') && decide (p < p'))
/-- Behind a hole there is no web ahead of a further one of its track. -/
def meetB (p s n p' s' n' : Int) : Bool := (p == p') && decide (s ≤ n')
/-- -1, 0, 1 as two notes stand to each other. -/
def cmpZ (x y : Int) : Int := if x < y then -1 else if y < x then 1 else 0
def orZ (a b : Int) : Int := if a = 0 then b else a
def cmpN (p s p' s' : Int) : Int := orZ (cmpZ s s') (cmpZ p p')

set_option maxHeartbeats 400000 in
theorem ntBefore_any (p s n p' s' n' : Int) (w : World) :
    Calls Try.prog 30 #[.agg #[.int .i64 p, .int .i64 s, .int .i64 n], .agg #[.int .i64 p', .int .i64 s', .int .i64 n']] w fun e w' => e = .returned (.bool (befB p s p' s')) ∧ Below w.heap.size w w' := by
  go_enter Try.func30, Try.ntmps30
  go_wp2
  all_goals (go_ret; exact ⟨ret_bool (by first | (simp [befB, *]; done) | (simp_all [befB]; done) | (rw [Bool.eq_iff_iff]; simp [befB]; omega)), ((Below.refl _ _).alloc (Nat.le_refl _) _).alloc (by simp) _⟩)

set_option maxHeartbeats 400000 in
theorem cmpCompare_any (x y : Int) (w : World) :
    Calls Try.prog 37 #[.int .i64 x, .int .i64 y] w fun e w' => e = .returned (.int .i64 (cmpZ x y)) ∧ w = w' := by
  go_enter Try.func37, Try.ntmps37
  go_wp2
  all_goals (go_ret; exact ⟨ret_int (by unfold cmpZ; (repeat' split) <;> omega), rfl⟩)

set_option maxHeartbeats 400000 in
theorem cmpOr_any (g : Nat) (x y : Int) (w : World) (hx : w.cell? ⟨g, 0, none⟩ = some (.int .i64 x)) (hy : w.cell? ⟨g, 1, none⟩ = some (.int .i64 y)) :
    Calls Try.prog 36 #[.slice (some ⟨g, 0, none⟩) 2 2] w fun e w' => e = .returned (.int .i64 (orZ x y)) ∧ w = w' := by
  go_enter Try.func36, Try.ntmps36
  go_wp2
  go_rounds 3
  all_goals (go_ret; exact ⟨ret_int (by simp_all [orZ]), rfl⟩)

end Go.Proofs.Ytkfgmkgbicahgaa
