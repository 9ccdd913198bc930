/- Contracts: drawn tempos. -/
import Derived.Test.YtakmlgkcinjecaaStepD
import Derived.Test.YtakmlgkcinjecaaChangeApp
import Derived.Deep.RegionHeld3
namespace Go.Proofs.Ytakmlgkcinjecaa
open Go.RowKit
set_option linter.unusedVariables false
set_option linter.unusedSimpArgs false

theorem grown_own {w w1 w2 : World} {b : Nat} {row : Option Nat} (h1 : w.grownBy w1 (some b)) (h2 : w1.grownBy w2 row) (hrow : ∀ j, row = some j → w.heap.size ≤ j) : w.grownBy w2 (some b) := by
  obtain ⟨a1, a2, a3, a4, a5⟩ := h1
  obtain ⟨c1, c2, c3, c4, c5⟩ := h2
  refine ⟨c1.trans a1, c2.trans a2, c3.trans a3, Nat.le_trans a4 c4, fun k hk hne => ?_⟩
  rw [c5 k (Nat.lt_of_lt_of_le hk a4) (fun h => by have := hrow k h.symm; omega)]
  exact a5 k hk hne
theorem cell_block {w w' : World} {g : Nat} (h : w'.heap[g]? = w.heap[g]?) (o : Nat) : w'.cell? ⟨g, o, none⟩ = w.cell? ⟨g, o, none⟩ := by simp [World.cell?, h]
theorem frozen_block {w w' : World} {g : Nat} (h : w'.heap[g]? = w.heap[g]?) (o : Nat) : w'.frozen? ⟨g, o, none⟩ = w.frozen? ⟨g, o, none⟩ := by simp [World.frozen?, h]
theorem cur_grown {w w' : World} {base b k : Nat} {row : Option Nat} (h : Cur w base b k) (hbase : base ≤ w.heap.size) (hg : w.grownBy w' row) (hrow : ∀ j, row = some j → base ≤ j ∧ j ≠ b) : Cur w' base b k := by
  obtain ⟨h1, ⟨A, n, c, i, s, a0, a1, a2, a3, a4, a5, a6, a7, a8⟩, h3⟩ := h
  obtain ⟨_, _, _, _, c5⟩ := hg
  have hlt : b < w.heap.size := World.block_lt_of_cell? w _ a0
  have eb := c5 b hlt (fun h => (hrow b h.symm).2 rfl)
  refine ⟨h1, ⟨A, n, c, i, s, (cell_block eb 0).trans a0, (cell_block eb 1).trans a1, (cell_block eb 2).trans a2, a3, a4, a5, a6, a7, fun j hj => ?_⟩, fun j => (frozen_block eb j).trans (h3 j)⟩
  obtain ⟨g, o, x, e, hg, hx, hx0⟩ := a8 j hj
  have eg := c5 g (by omega) (fun h => by have := (hrow g h.symm).1; omega)
  exact ⟨g, o, x, e, hg, (cell_block eg _).trans hx, hx0⟩
theorem Cur.lt {w : World} {base b k : Nat} (h : Cur w base b k) : b < w.heap.size := by
  obtain ⟨_, _, _, _, _, a0, _⟩ := h.here; exact World.block_lt_of_cell? w _ a0

theorem cell_grown {w w' : World} {b g : Nat} (h : w.grownBy w' (some b)) (hg : g < w.heap.size) (hne : g ≠ b) (o : Nat) : w'.cell? ⟨g, o, none⟩ = w.cell? ⟨g, o, none⟩ := by
  obtain ⟨_, _, _, _, c5⟩ := h
  exact cell_block (c5 g hg (fun h => hne (by simpa using h))) o

theorem undrew {w w' : World} {r : Option Nat} (h : w.drew.grownBy w' r) : w.grownBy w' r := by
  obtain ⟨a1, a2, a3, a4, a5⟩ := h
  exact ⟨a1, a2, a3, a4, a5⟩
theorem todrew {w w' : World} {r : Option Nat} (h : w.grownBy w' r) : w.grownBy w'.drew r := by
  obtain ⟨a1, a2, a3, a4, a5⟩ := h
  exact ⟨a1, a2, a3, a4, a5⟩
theorem alloc_un {w w' : World} {b : Nat} {o : Obj} (h : (w.alloc o).grownBy w' (some b)) : w.grownBy w' (some b) :=
  (grown_alloc (World.grownBy.refl w (some b)) o).trans h
theorem among_two {w : World} {b : Nat} {x z : Int} {t : TypeId} {P : Int → Prop} (hb : b < w.heap.size) (hx : P x) (hz : P z) : ∀ j, j < 2 → ∃ g o y, (some ⟨w.heap.size, 0, none⟩ : Option Addr) = some ⟨g, o, none⟩ ∧ g < (w.alloc (.cells #[.int .i64 x, .int .i64 z] t)).heap.size ∧ g ≠ b ∧ (w.alloc (.cells #[.int .i64 x, .int .i64 z] t)).cell? ⟨g, o + j, none⟩ = some (.int .i64 y) ∧ P y := by
  intro j hj
  refine ⟨w.heap.size, 0, [x, z].getD j 0, rfl, by simp, fun h => by omega, ?_, ?_⟩
  · rw [Nat.zero_add, World.cell?_alloc_new]
    match j, hj with
    | 0, _ | 1, _ => rfl
  · match j, hj with
    | 0, _ => exact hx
    | 1, _ => exact hz
theorem cur_alloc {w : World} {base b k : Nat} (h : Cur w base b k) (hbase : base ≤ w.heap.size) (o : Obj) : Cur (w.alloc o) base b k := h.kept hbase ((RowKit.Below.refl _ w).alloc (Nat.le_refl _) o)

/-- Drawn changes have steps and lengths that are bounded. -/
def ChB (L : List Nt2) : Prop := 1 ≤ L.length ∧ L.length ≤ 20 ∧ ∀ x ∈ L, 0 ≤ x.1 ∧ x.1 ≤ 41 * (L.length : Int) ∧ 0 ≤ x.2 ∧ x.2 ≤ 1000000
theorem ChB.snoc {L : List Nt2} {p q : Int} (h : ChB L) (hl : L.length < 20) (h1 : 0 ≤ p) (h2 : p ≤ 41 * (L.length : Int) + 41) (h3 : 0 ≤ q) (h4 : q ≤ 1000000) : ChB (L ++ [(p, q)]) := by
  obtain ⟨a, b, c⟩ := h
  refine ⟨by simp, by simp; omega, fun x hx => ?_⟩
  rcases List.mem_append.1 hx with h | h
  · have := c x h
    simp only [List.length_append, List.length_cons, List.length_nil]
    omega
  · obtain rfl : x = (p, q) := by simpa using h
    simp only [List.length_append, List.length_cons, List.length_nil]
    omega

end Go.Proofs.Ytakmlgkcinjecaa
