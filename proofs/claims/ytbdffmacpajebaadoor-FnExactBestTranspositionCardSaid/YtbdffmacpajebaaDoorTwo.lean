/- Contracts of the small functions over two notes: equality, order, meeting. -/
import Derived.Test.YtbdffmacpajebaaDoorSmall
import Derived.StillTailTactics
import Derived.Deep.RegionWith
import Derived.Handy
namespace Go.Proofs.YtbdffmacpajebaaDoor
open Go.RowKit
set_option linter.unusedVariables false

/-- Two notes are equal. -/
def eqB (p s n p' s' n' : Int) : Bool := (p == p') && ((s == s') && (n == n'))
/-- The first of two notes (start, pitch) comes before the second one. -/
def befB (p s p' s' : Int) : Bool := decide (s < s') || ((s == s') && decide (p < p'))
/-- Two notes of one pitch sound in one step. -/
def meetB (p s n p' s' n' : Int) : Bool := (p == p') && (decide (s < s' + n') && decide (s' < s + n))
/-- -1, 0, 1 as two notes stand to each other. -/
def cmpZ (x y : Int) : Int := if x < y then -1 else if y < x then 1 else 0
def orZ (a b : Int) : Int := if a = 0 then b else a
def cmpN (p s p' s' : Int) : Int := orZ (cmpZ s s') (cmpZ p p')

set_option maxHeartbeats 400000 in
theorem toNote_any (p s n : Int) (w : World) :
    Calls Tryd.prog 44 #[.agg #[.int .i64 p, .int .i64 s, .int .i64 n]] w fun e w' => e = .returned (.agg #[.int .i64 p, .int .i64 s, .int .i64 n]) ∧ Below w.heap.size w w' := by
  go_enter Tryd.func44, Tryd.ntmps44
  go_wp2
  exact bodyPost_ret (v := .agg #[.int .i64 p, .int .i64 s, .int .i64 n]) (by simp [results, Tryd.results44, go_sem]) rfl ⟨rfl, (((Below.refl _ _).alloc (Nat.le_refl _) _).alloc (by simp) _).alloc (by simp; omega) _⟩

set_option maxHeartbeats 400000 in
theorem eqNote_any (p s n p' s' n' : Int) (w : World) :
    Calls Tryd.prog 50 #[.agg #[.int .i64 p, .int .i64 s, .int .i64 n], .agg #[.int .i64 p', .int .i64 s', .int .i64 n']] w fun e w' => e = .returned (.bool (eqB p s n p' s' n')) ∧ Below w.heap.size w w' := by
  go_enter Tryd.func50, Tryd.ntmps50
  go_wp2
  all_goals (go_ret; exact ⟨ret_bool (by first | (simp [eqB, *]; done) | (simp_all [eqB]; done) | (rw [Bool.eq_iff_iff]; simp [eqB]; omega)), ((Below.refl _ _).alloc (Nat.le_refl _) _).alloc (by simp) _⟩)

set_option maxHeartbeats 400000 in
theorem ntBefore_any (p s n p' s' n' : Int) (w : World) :
    Calls Tryd.prog 73 #[.agg #[.int .i64 p, .int .i64 s, .int .i64 n], .agg #[.int .i64 p', .int .i64 s', .int .i64 n']] w fun e w' => e = .returned (.bool (befB p s p' s')) ∧ Below w.heap.size w w' := by
  go_enter Tryd.func73, Tryd.ntmps73
  go_wp2
  all_goals (go_ret; exact ⟨ret_bool (by first | (simp [befB, *]; done) | (simp_all [befB]; done) | (rw [Bool.eq_iff_iff]; simp [befB]; omega)), ((Below.refl _ _).alloc (Nat.le_refl _) _).alloc (by simp) _⟩)

set_option maxHeartbeats 400000 in
theorem ntMeet_any (p s n p' s' n' : Int) (w : World) (h1 : 0 ≤ s) (h2 : s ≤ 999) (h3 : 0 ≤ n) (h4 : n ≤ 99) (h1' : 0 ≤ s') (h2' : s' ≤ 999) (h3' : 0 ≤ n') (h4' : n' ≤ 99) :
    Calls Tryd.prog 74 #[.agg #[.int .i64 p, .int .i64 s, .int .i64 n], .agg #[.int .i64 p', .int .i64 s', .int .i64 n']] w fun e w' => e = .returned (.bool (meetB p s n p' s' n')) ∧ Below w.heap.size w w' := by
  go_enter Tryd.func74, Tryd.ntmps74
  go_wp2
  all_goals (go_ret; exact ⟨ret_bool (by first | (simp [meetB, *]; done) | (simp_all [meetB]; done) | (rw [Bool.eq_iff_iff]; simp [meetB]; omega)), ((Below.refl _ _).alloc (Nat.le_refl _) _).alloc (by simp) _⟩)

set_option maxHeartbeats 400000 in
theorem endOfNote_any (p s n : Int) (w : World) (h1 : 0 ≤ s) (h2 : s ≤ 999) (h3 : 0 ≤ n) (h4 : n ≤ 99) :
    Calls Tryd.prog 67 #[.agg #[.int .i64 p, .int .i64 s, .int .i64 n]] w fun e w' => e = .returned (.int .i64 (s + n)) ∧ Below w.heap.size w w' := by
  go_enter Tryd.func67, Tryd.ntmps67
  go_wp2
  go_ret
  exact ⟨rfl, (Below.refl _ _).alloc (Nat.le_refl _) _⟩

set_option maxHeartbeats 400000 in
theorem cmpCompare_any (x y : Int) (w : World) :
    Calls Tryd.prog 76 #[.int .i64 x, .int .i64 y] w fun e w' => e = .returned (.int .i64 (cmpZ x y)) ∧ w = w' := by
  go_enter Tryd.func76, Tryd.ntmps76
  go_wp2
  all_goals (go_ret; exact ⟨ret_int (by unfold cmpZ; (repeat' split) <;> omega), rfl⟩)

set_option maxHeartbeats 400000 in
theorem cmpOr_any (g : Nat) (x y : Int) (w : World) (hx : w.cell? ⟨g, 0, none⟩ = some (.int .i64 x)) (hy : w.cell? ⟨g, 1, none⟩ = some (.int .i64 y)) :
    Calls Tryd.prog 75 #[.slice (some ⟨g, 0, none⟩) 2 2] w fun e w' => e = .returned (.int .i64 (orZ x y)) ∧ w = w' := by
  go_enter Tryd.func75, Tryd.ntmps75
  go_wp2
  go_rounds 3
  all_goals (go_ret; exact ⟨ret_int (by simp_all [orZ]), rfl⟩)

end Go.Proofs.YtbdffmacpajebaaDoor
