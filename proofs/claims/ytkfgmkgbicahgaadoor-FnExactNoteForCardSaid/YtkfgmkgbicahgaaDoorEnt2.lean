/- What the laws of HoleFor and NoteFor begin with. -/
import Derived.Test.YtkfgmkgbicahgaaDoorLayM
namespace Go.Proofs.YtkfgmkgbicahgaaDoor
open Go.RowKit
set_option linter.unusedVariables false

theorem entry2 (w : World) (A : Option Addr) (n c : Nat) (r p s k : Int) (t0 t1 : TypeId) (W : World) (hW : W = (w.alloc (.cells #[.slice A n c, .int .i64 r] t0)).alloc (.cells #[.int .i64 p, .int .i64 s, .int .i64 k] t1)) :
    Box W w.heap.size A n c r ∧ Res3 W (w.heap.size + 1) p s k ∧ Below w.heap.size w W ∧ W.heap.size = w.heap.size + 2 := by
  subst hW
  have a1 := Box.new w A n c r t0
  have z1 : (w.alloc (.cells #[.slice A n c, .int .i64 r] t0)).heap.size = w.heap.size + 1 := by simp
  have b1 : Below w.heap.size w (w.alloc (.cells #[.slice A n c, .int .i64 r] t0)) := (Below.refl _ _).alloc (Nat.le_refl _) _
  generalize w.alloc (.cells #[.slice A n c, .int .i64 r] t0) = W1 at *
  have a2 := Res3.new W1 p s k t1
  rw [z1] at a2
  have z2 : (W1.alloc (.cells #[.int .i64 p, .int .i64 s, .int .i64 k] t1)).heap.size = w.heap.size + 2 := by simp; omega
  have b2 : Below W1.heap.size W1 (W1.alloc (.cells #[.int .i64 p, .int .i64 s, .int .i64 k] t1)) := (Below.refl _ _).alloc (Nat.le_refl _) _
  exact ⟨a1.below b2, a2, b1.trans (b2.mono b1.size), z2⟩
theorem Res3.ofAlloc {u v : World} {t : TypeId} (h : Below (u.alloc (.cells #[.int .i64 0, .int .i64 0, .int .i64 0] t)).heap.size (u.alloc (.cells #[.int .i64 0, .int .i64 0, .int .i64 0] t)) v) : Res3 v u.heap.size 0 0 0 := (Res3.new u 0 0 0 t).below h
end Go.Proofs.YtkfgmkgbicahgaaDoor
