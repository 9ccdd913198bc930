/- Contracts of the small functions over one hole: validity, copying, order. -/
import Derived.Test.YtkfgmkgbicahgaaDoorProg
import Derived.WalkKit
import Derived.WalkSpells
import Derived.WalkLawsBesides
import Derived.Lib.Hide
import Derived.Deep.QuietTactic
import Derived.BigQuiet
import Derived.Test.YtkfgmkgbicahgaaDoorSmall
namespace Go.Proofs.YtkfgmkgbicahgaaDoor.H
open Go.RowKit
set_option linter.unusedVariables false

/-- A hole is valid. -/
def noteB (p s n : Int) : Bool := inR p 0 19 && (inR s 0 1999 && inR n (s + 1) 2000)
theorem noteB_iff (p s n : Int) : noteB p s n = true ↔ 0 ≤ p ∧ p ≤ 19 ∧ 0 ≤ s ∧ s < n ∧ n ≤ 2000 := by
  simp [noteB, inR]; omega
set_option maxHeartbeats 400000 in
theorem isTrack_any (n : Int) (w : World) :
    Calls Tryd.prog 75 #[.int .i64 n] w fun e w' => e = .returned (.bool (inR n 0 19)) ∧ w = w' := by
  go_enter Tryd.func75, Tryd.ntmps75
  go_wp2_with (go_at_call 74; refine (inRange_any _ _ _ _).mono ?_; rintro e w' ⟨rfl, rfl⟩)
  go_ret; exact ⟨rfl, rfl⟩

set_option maxHeartbeats 400000 in
theorem implIsNote_any (p s n : Int) (w : World) :
    Calls Tryd.prog 50 #[.agg #[.int .i64 p, .int .i64 s, .int .i64 n]] w fun e w' => e = .returned (.bool (noteB p s n)) ∧ Below w.heap.size w w' := by
  cases hp : inR p 0 19 <;>
  · go_enter Tryd.func50, Tryd.ntmps50
    go_wp2_with (go_at_call 75; refine (isTrack_any _ _).mono ?_; rintro e w' ⟨rfl, rfl⟩)
    all_goals (go_ret; exact ⟨ret_bool (by first | (simp [noteB, *]; done) | (simp [noteB, inR, *] at *; omega) | (rw [Bool.eq_iff_iff, noteB_iff]; simp [inR] at *; omega)), (Below.refl _ _).alloc (Nat.le_refl _) _⟩)

set_option maxHeartbeats 400000 in
theorem ntNote_any (p s n : Int) (w : World) :
    Calls Tryd.prog 51 #[.agg #[.int .i64 p, .int .i64 s, .int .i64 n]] w fun e w' => e = .returned (.bool (noteB p s n)) ∧ Below w.heap.size w w' := by
  cases hp : inR p 0 19 with
  | false =>
    go_enter Tryd.func51, Tryd.ntmps51
    go_wp2_with (go_at_call 67; refine (l1In_any _ _ _ _).mono ?_; rintro e w' ⟨rfl, rfl⟩)
    go_ret; exact ⟨ret_bool (by simp [noteB, *]), (Below.refl _ _).alloc (Nat.le_refl _) _⟩
  | true =>
    cases hs : inR s 0 1999 with
    | false =>
      go_enter Tryd.func51, Tryd.ntmps51
      go_wp2_with (go_at_call 67; refine (l1In_any _ _ _ _).mono ?_; rintro e w' ⟨rfl, rfl⟩)
      go_ret; exact ⟨ret_bool (by simp [noteB, *]), (Below.refl _ _).alloc (Nat.le_refl _) _⟩
    | true =>
      have h1 : 0 ≤ s ∧ s ≤ 1999 := by simpa [inR] using hs
      obtain ⟨h1, h2⟩ := h1
      go_enter Tryd.func51, Tryd.ntmps51
      go_wp2_with (go_at_call 67; refine (l1In_any _ _ _ _).mono ?_; rintro e w' ⟨rfl, rfl⟩)
      go_ret; exact ⟨ret_bool (by simp [noteB, *]), (Below.refl _ _).alloc (Nat.le_refl _) _⟩

end Go.Proofs.YtkfgmkgbicahgaaDoor.H
