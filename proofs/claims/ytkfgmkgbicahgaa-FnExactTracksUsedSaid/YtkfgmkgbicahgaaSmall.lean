/- Contracts of the small functions over one hole: validity, copying, order. -/
import Derived.Test.YtkfgmkgbicahgaaProg
import Derived.WalkKit
import Derived.WalkSpells
import Derived.WalkLawsBesides
import Derived.Lib.Hide
import Derived.Deep.QuietTactic
import Derived.BigQuiet
namespace Go.Proofs.Ytkfgmkgbicahgaa
open Go.RowKit
set_option linter.unusedVariables false

/-- A number lies in a range. -/
def inR (n lo hi : Int) : Bool := decide (lo ≤ n) && decide (n ≤ hi)
/-- A hole is valid. -/
def noteB (p s n : Int) : Bool := inR p 0 19 && (inR s 0 1999 && inR n (s + 1) 2000)
theorem noteB_iff (p s n : Int) : noteB p s n = true ↔ 0 ≤ p ∧ p ≤ 19 ∧ 0 ≤ s ∧ s < n ∧ n ≤ 2000 := by
  simp [noteB, inR]; omega
theorem inR_false {n lo hi : Int} (h : n < lo ∨ hi < n) : inR n lo hi = false := by
  unfold inR; rw [Bool.and_eq_false_iff]; simp; omega
theorem inR_true {n lo hi : Int} (h : lo ≤ n) (k : n ≤ hi) : inR n lo hi = true := by simp [inR, h, k]

theorem ret_bool {a b : Bool} (h : a = b) : Ending.returned (.bool a) = .returned (.bool b) := by rw [h]
theorem ret_int {k : IntKind} {a b : Int} (h : a = b) : Ending.returned (.int k a) = .returned (.int k b) := by rw [h]
theorem bcell {W w1 : World} (hb : Below W.heap.size W w1) : (∀ b o, b < W.heap.size → w1.cell? ⟨b, o, none⟩ = W.cell? ⟨b, o, none⟩) ∧ (∀ b o, b < W.heap.size → w1.frozen? ⟨b, o, none⟩ = W.frozen? ⟨b, o, none⟩) :=
  ⟨fun b o h => hb.cell (p := ⟨b, o, none⟩) h, fun b o h => hb.frozen (p := ⟨b, o, none⟩) h⟩

set_option maxHeartbeats 400000 in
theorem inRange_any (n lo hi : Int) (w : World) :
    Calls Try.prog 28 #[.int .i64 n, .int .i64 lo, .int .i64 hi] w fun e w' => e = .returned (.bool (inR n lo hi)) ∧ w = w' := by
  go_enter Try.func28, Try.ntmps28
  go_wp2
  · go_ret; exact ⟨ret_bool (by simp [inR, *]), rfl⟩
  · go_ret; exact ⟨ret_bool (by rw [inR_false (by omega)]), rfl⟩

set_option maxHeartbeats 400000 in
theorem l1In_any (n lo hi : Int) (w : World) :
    Calls Try.prog 26 #[.int .i64 n, .int .i64 lo, .int .i64 hi] w fun e w' => e = .returned (.bool (inR n lo hi)) ∧ w = w' := by
  go_enter Try.func26, Try.ntmps26
  go_wp2
  · go_ret; exact ⟨ret_bool (by simp [inR, *]), rfl⟩
  · go_ret; exact ⟨ret_bool (by rw [inR_false (by omega)]), rfl⟩

set_option maxHeartbeats 400000 in
theorem isTrack_any (n : Int) (w : World) :
    Calls Try.prog 27 #[.int .i64 n] w fun e w' => e = .returned (.bool (inR n 0 19)) ∧ w = w' := by
  go_enter Try.func27, Try.ntmps27
  go_wp2_with (go_at_call 28; refine (inRange_any _ _ _ _).mono ?_; rintro e w' ⟨rfl, rfl⟩)
  go_ret; exact ⟨rfl, rfl⟩

set_option maxHeartbeats 400000 in
theorem implIsNote_any (p s n : Int) (w : World) :
    Calls Try.prog 32 #[.agg #[.int .i64 p, .int .i64 s, .int .i64 n]] w fun e w' => e = .returned (.bool (noteB p s n)) ∧ Below w.heap.size w w' := by
  cases hp : inR p 0 19 <;>
  · go_enter Try.func32, Try.ntmps32
    go_wp2_with (go_at_call 27; refine (isTrack_any _ _).mono ?_; rintro e w' ⟨rfl, rfl⟩)
    all_goals (go_ret; exact ⟨ret_bool (by first | (simp [noteB, *]; done) | (simp [noteB, inR, *] at *; omega) | (rw [Bool.eq_iff_iff, noteB_iff]; simp [inR] at *; omega)), (Below.refl _ _).alloc (Nat.le_refl _) _⟩)

set_option maxHeartbeats 400000 in
theorem ntNote_any (p s n : Int) (w : World) :
    Calls Try.prog 29 #[.agg #[.int .i64 p, .int .i64 s, .int .i64 n]] w fun e w' => e = .returned (.bool (noteB p s n)) ∧ Below w.heap.size w w' := by
  cases hp : inR p 0 19 with
  | false =>
    go_enter Try.func29, Try.ntmps29
    go_wp2_with (go_at_call 26; refine (l1In_any _ _ _ _).mono ?_; rintro e w' ⟨rfl, rfl⟩)
    go_ret; exact ⟨ret_bool (by simp [noteB, *]), (Below.refl _ _).alloc (Nat.le_refl _) _⟩
  | true =>
    cases hs : inR s 0 1999 with
    | false =>
      go_enter Try.func29, Try.ntmps29
      go_wp2_with (go_at_call 26; refine (l1In_any _ _ _ _).mono ?_; rintro e w' ⟨rfl, rfl⟩)
      go_ret; exact ⟨ret_bool (by simp [noteB, *]), (Below.refl _ _).alloc (Nat.le_refl _) _⟩
    | true =>
      have h1 : 0 ≤ s ∧ s ≤ 1999 := by simpa [inR] using hs
      obtain ⟨h1, h2⟩ := h1
      go_enter Try.func29, Try.ntmps29
      go_wp2_with (go_at_call 26; refine (l1In_any _ _ _ _).mono ?_; rintro e w' ⟨rfl, rfl⟩)
      go_ret; exact ⟨ret_bool (by simp [noteB, *]), (Below.refl _ _).alloc (Nat.le_refl _) _⟩

end Go.Proofs.Ytkfgmkgbicahgaa
