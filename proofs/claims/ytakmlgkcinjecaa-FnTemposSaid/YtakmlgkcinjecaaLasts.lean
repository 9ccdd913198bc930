/- Contracts: how long a drawn step lasts. -/
import Derived.Test.YtakmlgkcinjecaaPick
namespace Go.Proofs.Ytakmlgkcinjecaa
open Go.RowKit
set_option linter.unusedVariables false
set_option linter.unusedSimpArgs false

theorem Cur.kept {w w' : World} {base b k : Nat} (h : Cur w base b k) (hbase : base ≤ w.heap.size) (hb : RowKit.Below w.heap.size w w') : Cur w' base b k := by
  obtain ⟨h1, ⟨A, n, c, i, s, a0, a1, a2, a3, a4, a5, a6, a7, a8⟩, h3⟩ := h
  have hlt : b < w.heap.size := World.block_lt_of_cell? w _ a0
  refine ⟨h1, ⟨A, n, c, i, s, (hb.cell hlt).trans a0, (hb.cell hlt).trans a1, (hb.cell hlt).trans a2, a3, a4, a5, a6, a7, fun j hj => ?_⟩, fun j => (hb.frozen (p := ⟨b, j, none⟩) hlt).trans (h3 j)⟩
  obtain ⟨g, o, x, e, hg, hx, hx0⟩ := a8 j hj
  exact ⟨g, o, x, e, hg, (hb.cell (p := ⟨g, o + j, none⟩) (Nat.lt_of_lt_of_le hg hbase)).trans hx, hx0⟩
theorem grown_alloc {w w' : World} {b : Nat} (h : w.grownBy w' (some b)) (o : Obj) : w.grownBy (w'.alloc o) (some b) :=
  h.trans ⟨rfl, rfl, rfl, by simp, fun k hk _ => Lib.alloc_old w' o k hk⟩

set_option maxRecDepth 100000 in
set_option maxHeartbeats 2000000 in
theorem lasts_any (b k base : Nat) (w : World) (hC : Cur w base b k) (hk : k ≤ 800000000) (hbase : base ≤ w.heap.size) :
    Calls Try.prog 34 #[.pointer (some ⟨b, 0, none⟩)] w fun e w' => ∃ x : Int, 1000 ≤ x ∧ x ≤ 1000000 ∧ e = .returned (.int .i64 x) ∧ Cur w' base b (k + 4) ∧ w.grownBy w' (some b) := by
  have HC := Lib.hid hC
  clear hC
  go_enter Try.func34, Try.ntmps34
  go_wp2_with fail
  refine (pick_any b k base _ _ HC.out (by omega) (by omega)).mono ?_
  rintro e w1 ⟨y, hy0, hy1, rfl, hC1, hg1⟩
  have HC1 := Lib.hid (fun o => hC1.kept (Nat.le_trans hbase hg1.size) ((RowKit.Below.refl _ w1).alloc (Nat.le_refl _) o))
  have HG1 := Lib.hid (fun o => grown_alloc hg1 o)
  have hbl : b < w1.heap.size := by obtain ⟨_, _, _, _, _, a0, _⟩ := hC1.here; exact World.block_lt_of_cell? w1 _ a0
  have HBL := Lib.hid hbl
  clear hC1 hg1 hbl
  go_wp2_with fail
  refine (among_any b (k + 2) base _ 6 6 _ (HC1.out _) (by omega) (by omega) (by omega) (fun x => 1000 ≤ x ∧ x ≤ 1000000) ?_).mono ?_
  · intro j hj
    refine ⟨w1.heap.size, 0, [1000, 50000, 100000, 250000, 1000000, 1000 + y].getD j 0, rfl, by simp, fun h => by have := HBL.out; omega, ?_, ?_⟩
    · rw [Nat.zero_add, World.cell?_alloc_new]
      match j, hj with
      | 0, _ | 1, _ | 2, _ | 3, _ | 4, _ | 5, _ => rfl
    · match j, hj with
      | 0, _ | 1, _ | 2, _ | 3, _ | 4, _ | 5, _ => simp <;> omega
  · rintro e w2 ⟨x, ⟨hx0, hx1⟩, rfl, hC2, hg2⟩
    have HC2 := Lib.hid hC2
    have HG2 := Lib.hid ((HG1.out _).trans hg2)
    clear hC2 hg2
    go_wp2
    go_ret
    exact ⟨x, hx0, hx1, rfl, HC2.out, HG2.out⟩
end Go.Proofs.Ytakmlgkcinjecaa
