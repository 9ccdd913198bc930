/- Contracts: a drawn step of a piece. -/
import Derived.Test.YtakmlgkcinjecaaLasts
namespace Go.Proofs.Ytakmlgkcinjecaa
open Go.RowKit
set_option linter.unusedVariables false
set_option linter.unusedSimpArgs false

set_option maxRecDepth 100000 in
set_option maxHeartbeats 2000000 in
theorem pieceStep_any (b k base : Nat) (w : World) (hC : Cur w base b k) (hk : k ≤ 800000000) (hbase : base ≤ w.heap.size) :
    Calls Try.prog 32 #[.pointer (some ⟨b, 0, none⟩)] w fun e w' => ∃ x : Int, -1 ≤ x ∧ x ≤ 2001 ∧ e = .returned (.int .i64 x) ∧ Cur w' base b (k + 8) ∧ w.grownBy w' (some b) := by
  have HC := Lib.hid hC
  clear hC
  go_enter Try.func32, Try.ntmps32
  go_wp2_with fail
  refine (pick_any b k base _ _ HC.out (by omega) (by omega)).mono ?_
  rintro e w1 ⟨y, hy0, hy1, rfl, hC1, hg1⟩
  have HC1 := Lib.hid hC1
  have HG1 := Lib.hid hg1
  clear hC1 hg1
  go_wp2_with fail
  refine (pick_any b (k + 2) base _ _ HC1.out (by omega) (by omega)).mono ?_
  rintro e w2 ⟨z, hz0, hz1, rfl, hC2, hg2⟩
  have hg2 := HG1.out.trans hg2
  have HC2 := Lib.hid (fun o => hC2.kept (Nat.le_trans hbase hg2.size) ((RowKit.Below.refl _ w2).alloc (Nat.le_refl _) o))
  have HG2 := Lib.hid (fun o => grown_alloc hg2 o)
  have hbl : b < w2.heap.size := by obtain ⟨_, _, _, _, _, a0, _⟩ := hC2.here; exact World.block_lt_of_cell? w2 _ a0
  have HBL := Lib.hid hbl
  clear hC2 hg2 hbl
  go_wp2_with fail
  refine (among_any b (k + 4) base _ 2 2 _ (HC2.out _) (by omega) (by omega) (by omega) (fun x => -1 ≤ x ∧ x ≤ 2001) ?_).mono ?_
  · intro j hj
    refine ⟨w2.heap.size, 0, [2001, -1].getD j 0, rfl, by simp, fun h => by have := HBL.out; omega, ?_, ?_⟩
    · rw [Nat.zero_add, World.cell?_alloc_new]
      match j, hj with
      | 0, _ | 1, _ => rfl
    · match j, hj with
      | 0, _ | 1, _ => simp
  · rintro e w3 ⟨u, ⟨hu0, hu1⟩, rfl, hC3, hg3⟩
    have hg3 := (HG2.out _).trans hg3
    have HC3 := Lib.hid (fun o => hC3.kept (Nat.le_trans hbase hg3.size) ((RowKit.Below.refl _ w3).alloc (Nat.le_refl _) o))
    have HG3 := Lib.hid (fun o => grown_alloc hg3 o)
    have hbl : b < w3.heap.size := by obtain ⟨_, _, _, _, _, a0, _⟩ := hC3.here; exact World.block_lt_of_cell? w3 _ a0
    have HBL := Lib.hid hbl
    clear hC3 hg3 hbl
    go_wp2_with fail
    refine (among_any b (k + 6) base _ 7 7 _ (HC3.out _) (by omega) (by omega) (by omega) (fun x => -1 ≤ x ∧ x ≤ 2001) ?_).mono ?_
    · intro j hj
      refine ⟨w3.heap.size, 0, [0, 1, 7, y, z, 2000, u].getD j 0, rfl, by simp, fun h => by have := HBL.out; omega, ?_, ?_⟩
      · rw [Nat.zero_add, World.cell?_alloc_new]
        match j, hj with
        | 0, _ | 1, _ | 2, _ | 3, _ | 4, _ | 5, _ | 6, _ => rfl
      · match j, hj with
        | 0, _ | 1, _ | 2, _ | 3, _ | 4, _ | 5, _ | 6, _ => simp <;> omega
    · rintro e w4 ⟨x, ⟨hx0, hx1⟩, rfl, hC4, hg4⟩
      have HC4 := Lib.hid hC4
      have HG4 := Lib.hid ((HG3.out _).trans hg4)
      clear hC4 hg4
      go_wp2
      go_ret
      exact ⟨x, hx0, hx1, rfl, HC4.out, HG4.out⟩
end Go.Proofs.Ytakmlgkcinjecaa
