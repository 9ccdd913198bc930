/- Proved: for every instrument and every number, FoldPitch of the program answers as the model's, and neither the argument nor anything that was there before the call has turned; the table of limits is tied to the program's own text. No condition. -/
import Derived.Test.YtbdffmacpajebaaDoorNearS
import Derived.Test.YtbdffmacpajebaaDoorInsO
namespace Go.Proofs.YtbdffmacpajebaaDoor
open Go.ChangeShapes Go.WideShapes Go.ChangeAt Go.RowKit
set_option linter.unusedVariables false
set_option linter.unusedSimpArgs false

-- the form of the answer stands below
set_option maxRecDepth 100000 in
set_option maxHeartbeats 4000000 in
theorem foldLaw_walk (A : Option Addr) (l : List Int) (c : Nat) (r : Int) (p : Int) (w : World) (hlc : l.length ≤ c) (hcm : c ≤ maxLen) (hA : RI w A l) (hL : Lim w) :
    Calls Tryd.prog 4 #[.agg #[.slice A l.length c, .int .i64 r], .int .i64 p] w fun e w' => e = .returned (.bool true) ∧ Below w.heap.size w w' := by
  unfold maxLen at hcm
  obtain ⟨va, vb, hR⟩ := near12R_form l r p
  have HR := Lib.hid hR
  clear hR
  have hb0 : Below w.heap.size w (w.alloc (.cells #[.slice A l.length c, .int .i64 r] 24)) := (Below.refl w.heap.size w).alloc (Nat.le_refl _) _
  have hx0 : Box (w.alloc (.cells #[.slice A l.length c, .int .i64 r] 24)) w.heap.size A l.length c r := Box.new w A l.length c r 24
  have hA0 := hA.below hb0
  have hL0 := hL.below hb0
  by_cases hbig : l.length ≤ 1048576
  · go_enter Tryd.func4, Tryd.ntmps4
    go_wp2_with fail
    generalize (w.alloc (.cells #[.slice A l.length c, .int .i64 r] 24)) = W at *
    refine (szIns_any _ _ _ _ _ _ (by omega) (by omega) (by omega)).mono ?_
    rintro e w1 ⟨rfl, hb1⟩
    rw [if_neg (by omega)]
    have hleft : ¬ ((1048576 : Int) - l.length < 0) := by omega
    have hB1 := hb0.trans (hb1.mono hb0.size)
    have hx1 := hx0.below hb1
    have hA1 := hA0.below hb1
    have hL1 := hL0.below hb1
    clear hx0 hA0 hL0 hA hL
    obtain ⟨x10, x11, hz1⟩ := id hx1
    go_wp2_with fail
    refine (toIns_any _ _ _ _ _ hbig hA1).mono ?_
    rintro e w2 ⟨g2, hg2, rfl, ho2, hb2⟩
    clear x10 x11 hz1
    have hB2 := hB1.trans (hb2.mono hB1.size)
    have hx2 := hx1.below hb2
    have hA2 := hA1.below hb2
    have hL2 := hL1.below hb2
    go_wp2_with fail
    refine (specFold_any _ _ _ _ _ _ hbig ho2.ra).mono ?_
    rintro e w3 ⟨rfl, hb3⟩
    rw [HR.out]
    have hB3 := hB2.trans (hb3.mono hB2.size)
    have hx3 := hx2.below hb3
    have hA3 := hA2.below hb3
    have hL3 := hL2.below hb3
    clear hx1 hA1 hL1 hx2 hA2 hL2 ho2 hb1 hb2 hb3 hB1 hB2
    obtain ⟨x30, x31, hz3⟩ := id hx3
    go_wp2_with fail
    refine (toIns_any _ _ _ _ _ hbig hA3).mono ?_
    rintro e w4 ⟨g4, hg4, rfl, ho4, hb4⟩
    clear x30 x31 hz3
    have hB4 := hB3.trans (hb4.mono hB3.size)
    have hx4 := hx3.below hb4
    have hA4 := hA3.below hb4
    have hL4 := hL3.below hb4
    have ho4 := ho4.mono hB3.size
    clear hx3 hA3 hL3 hb4 hg4
    go_wp2_with fail
    have hbx : Below w4.heap.size w4 (w4.alloc (.cells #[.slice (some ⟨g4, 0, none⟩) l.length l.length, .int .i64 r] 28)) := (Below.refl _ _).alloc (Nat.le_refl _) _
    have hB5 := hB4.trans (hbx.mono hB4.size)
    have hx5 := hx4.below hbx
    have hA5 := hA4.below hbx
    have hL5 := hL4.below hbx
    have ho5 := ho4.below hbx (Nat.le_refl _)
    have hX5 : Box (w4.alloc (.cells #[.slice (some ⟨g4, 0, none⟩) l.length l.length, .int .i64 r] 28)) w4.heap.size (some ⟨g4, 0, none⟩) l.length l.length r := Box.new _ _ _ _ _ _
    generalize w4.alloc (.cells #[.slice (some ⟨g4, 0, none⟩) l.length l.length, .int .i64 r] 28) = W5 at *
    refine (implFold_any _ _ _ _ _ _ hbig ho5.ra hL5).mono ?_
    rintro e w6 ⟨rfl, hb6⟩
    rw [HR.out]
    have hB6 := hB5.trans (hb6.mono hB5.size)
    have hx6 := hx5.below hb6
    have hA6 := hA5.below hb6
    have hX6 := hX5.below hb6
    have ho6 := ho5.below hb6 (Nat.le_refl _)
    clear hx5 hA5 hL5 hX5 ho5 hb6 hB5 hx4 hA4 hL4 ho4 hB4 hbx hb0 hB3
    obtain ⟨x60, x61, hz6⟩ := id hx6
    obtain ⟨X60, X61, hZ6⟩ := id hX6
    go_wp2_with fail
    have hA6d : RI w6.drew A l := hA6
    have ho6d : OwnI w6.drew w.heap.size 3 (.slice (some ⟨g4, 0, none⟩) l.length l.length) l := ho6
    have X60d : w6.drew.cell? ⟨w4.heap.size, 0, none⟩ = some (.slice (some ⟨g4, 0, none⟩) l.length l.length) := X60
    have X61d : w6.drew.cell? ⟨w4.heap.size, 1, none⟩ = some (.int .i64 r) := X61
    have hZ6d : w4.heap.size < w6.drew.heap.size := hZ6
    go_region_with (first
      | (go_at_call 12; refine (toIns_any _ _ _ _ _ hbig hA6d).mono ?_; rintro e w7 ⟨g7, hg7, rfl, ho7, hb7⟩; have X70 := (hb7.cell (p := ⟨w4.heap.size, 0, none⟩) hZ6d).trans X60d; have X71 := (hb7.cell (p := ⟨w4.heap.size, 1, none⟩) hZ6d).trans X61d; have ho67 := ho6d.below hb7 (Nat.le_refl _))
      | (go_at_call 14; refine (eqIns_any _ _ _ _ _ _ _ _ _ (by omega) (by omega) ho67.ra ho7.ra).mono ?_; rintro e w8 ⟨rfl, hb8⟩))
    all_goals
      go_wp2
      go_ret
      exact ⟨rfl, (hB6.drew.trans (hb7.mono hB6.size)).trans (hb8.mono (Nat.le_trans hB6.size hb7.size))⟩
  · go_enter Tryd.func4, Tryd.ntmps4
    go_wp2_with fail
    generalize (w.alloc (.cells #[.slice A l.length c, .int .i64 r] 24)) = W at *
    refine (szIns_any _ _ _ _ _ _ (by omega) (by omega) (by omega)).mono ?_
    rintro e w1 ⟨rfl, hb1⟩
    have hleft : (1048576 : Int) - l.length < 0 := by omega
    rw [if_pos (by omega)]
    go_wp2
    go_ret
    exact ⟨rfl, hb0.trans (hb1.mono hb0.size)⟩

end Go.Proofs.YtbdffmacpajebaaDoor
