/- slices.Sort and slices.Compact at numbers of the call's own. -/
import Derived.Test.YtbdffmacpajebaaDoorRetI
import Derived.Test.YtbdffmacpajebaaDoorShS
import Derived.Sort.OwnSortedInts
namespace Go.Proofs.YtbdffmacpajebaaDoor
open Go.RowKit Go.Sort
set_option linter.unusedVariables false
set_option linter.unusedSimpArgs false

/-- The sort of a row of the call's own. -/
theorem sortI_any (v : Value) (zs : List Int) (base : Nat) (w : World) (hl : zs.length ≤ 1000000) (hv : OwnI w base 3 v zs) :
    Calls Tryd.prog 55 #[v] w fun e w' => e = .returned (.tuple #[]) ∧ OwnI w' base 3 v (zs.mergeSort fun x y => decide (x ≤ y)) ∧ w.grownBy w' v.ownBlock := by
  have hv0 := hv
  rcases hv.2 with ⟨rfl, h0⟩ | ⟨g, cap, cur, rfl, hg, hh, hnc, hm, hs, ht⟩
  · obtain rfl : zs = [] := List.eq_nil_of_length_eq_zero h0
    refine (Tryd.slices_Sort_int_none none 0 w).mono ?_
    rintro e w' ⟨rfl, rfl⟩
    exact ⟨rfl, by simpa using hv0, World.grownBy.refl _ _⟩
  · have ht' : cur.toList.take zs.length = zs.map (Value.int .i64) := by have h := ht; rw [Nat.mul_one] at h; exact h
    refine (Tryd.slices_Sort_int g 0 cap zs w (holds_of_blockI hh ht') (hv0.lt _ rfl).2 (by omega)).mono ?_
    rintro e w' ⟨rfl, n, os, rfl⟩
    refine ⟨rfl, ?_, grownBy_sortedI _⟩
    have h := ownsRow_sortedI (n := n) (os := os) (base := base) (cap := cap) (ss := zs) (ts := zs.mergeSort fun x y => decide (x ≤ y)) (by simp) hg hh hnc hm hs
    unfold OwnI
    rw [List.length_mergeSort]
    exact h

/-- The front of a row of the call's own. -/
theorem OwnI.front {w : World} {base g n cap t : Nat} {a b : List Int} (h : OwnI w base t (.slice (some ⟨g, 0, none⟩) n cap) (a ++ b)) : OwnI w base t (.slice (some ⟨g, 0, none⟩) a.length cap) a := by
  rcases h.2 with ⟨hv, _⟩ | ⟨g', cap', cur, hv, hg, hh, hnc, hm, hs, ht⟩
  · cases hv
  · injection hv with e1 e2 e3
    simp only [Option.some.injEq, Addr.mk.injEq, and_true] at e1
    subst e1 e3
    refine ⟨by simp [ci], .inr ⟨g, cap, cur, rfl, hg, hh, by simp at hnc; omega, hm, hs, ?_⟩⟩
    have : cur.toList.take (a.length * 1) = (cur.toList.take ((a ++ b).length * 1)).take (a.length * 1) := by rw [List.take_take]; congr 1; simp
    rw [this, ht, ci_append, Nat.mul_one, ← ci_length a, List.take_left]

theorem compact_length (zs : List Int) : (Lib.compact zs).length ≤ zs.length := by
  unfold Lib.compact Lib.compactUpTo
  rw [List.length_map]
  exact Nat.le_trans (List.length_filter_le _ _) (by simp)

theorem compactI_any (v : Value) (zs : List Int) (base : Nat) (w : World) (hl : zs.length ≤ 1000000) (hv : OwnI w base 3 v zs) :
    Calls Tryd.prog 56 #[v] w fun e w' => ∃ v', e = .returned v' ∧ OwnI w' base 3 v' (Lib.compact zs) ∧ w.grownBy w' v.ownBlock := by
  have hv0 := hv
  rcases hv.2 with ⟨rfl, h0⟩ | ⟨g, cap, cur, rfl, hg, hh, hnc, hm, hs, ht⟩
  · obtain rfl : zs = [] := List.eq_nil_of_length_eq_zero h0
    refine (Tryd.slices_Compact_int_empty none 0 w).mono ?_
    rintro e w' ⟨rfl, rfl⟩
    exact ⟨_, rfl, by simpa [Lib.compact, Lib.compactUpTo] using hv0, World.grownBy.refl _ _⟩
  · have ht' : cur.toList.take zs.length = zs.map (Value.int .i64) := by have h := ht; rw [Nat.mul_one] at h; exact h
    refine (Tryd.slices_Compact_int g 0 cap zs w (holds_of_blockI hh ht') (by omega) hnc).mono ?_
    rintro e w' ⟨rfl, q, rfl⟩
    have hc := compact_length zs
    have h := ownsRow_sortedI (n := q) (os := #[]) (base := base) (cap := cap) (ss := zs) (ts := Lib.compact zs ++ List.replicate (zs.length - (Lib.compact zs).length) 0) (by simp; omega) hg hh hnc hm hs
    have hgr := grownBy_sortedI (w := w) (g := g) (n := q) (os := #[]) (Lib.compact zs ++ List.replicate (zs.length - (Lib.compact zs).length) 0).toArray
    rw [grow_empty] at h hgr
    refine ⟨_, rfl, ?_, hgr⟩
    refine OwnI.front (n := zs.length) (b := List.replicate (zs.length - (Lib.compact zs).length) 0) ?_
    have e : (Lib.compact zs ++ List.replicate (zs.length - (Lib.compact zs).length) (0 : Int)).length = zs.length := by simp; omega
    unfold OwnI
    rw [e]
    exact h

end Go.Proofs.YtbdffmacpajebaaDoor
