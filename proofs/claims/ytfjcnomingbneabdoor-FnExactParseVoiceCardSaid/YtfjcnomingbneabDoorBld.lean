/- The tables that the parsers read; strconv.Itoa, as they use it. -/
import Derived.Test.YtfjcnomingbneabDoorShA
import Derived.Test.YtfjcnomingbneabDoorText
import Derived.Test.YtfjcnomingbneabDoorPitch
import Derived.Lib.SmallJoins
import Derived.Lib.ItoaMem
import Derived.Lib.LaidTab
namespace Go.Proofs.YtfjcnomingbneabDoor
open Go.RowKit Go.Sort
set_option linter.unusedVariables false

/-- The tables that the texts read, where they lie. -/
structure Tabs (w : World) : Prop where
  names : ∀ r, r < 12 → w.cell? ⟨0, r, none⟩ = some (.string ⟨(nameOf r).toArray⟩)
  pow : Lib.TabIs Tryd.prog w "internal/strconv.uint64pow10" .u64 Lib.pow10Tab

theorem gPow : Tryd.prog.globalNamed "internal/strconv.uint64pow10" = some 6 := by kernel_rfl
theorem tPow : (Tryd.prog.globals[6]?).map (·.type) = some 125 := by kernel_rfl
theorem datum_pow {H : Type} : (Rows.laid_internal_strconv_uint64pow10 : DataW H) = Lib.tabData .u64 Lib.pow10Tab := rfl

theorem pow_of_reads {W : World} (h : Lib.VarReads Tryd.prog W "internal/strconv.uint64pow10" Rows.laid_internal_strconv_uint64pow10) : Lib.TabIs Tryd.prog W "internal/strconv.uint64pow10" .u64 Lib.pow10Tab := by
  obtain ⟨g, t, cs, fuel, p, hg, ht, hv, hd⟩ := h
  obtain rfl := Option.some.inj (gPow.symm.trans hg)
  obtain rfl := Option.some.inj (tPow.symm.trans ht)
  unfold Lib.TabIs
  rw [datum_pow] at hd
  rw [hv, ← Lib.cells_of_tab Tryd.underlying125 Tryd.underlying100 (by kernel_rfl) (by kernel_rfl) hd]

theorem Tabs.below {w w' : World} (h : Tabs w) (hb : Below w.heap.size w w') : Tabs w' where
  names r hr := (hb.cell (p := ⟨0, r, none⟩) (World.block_lt_of_cell? w _ (h.names r hr))).trans (h.names r hr)
  pow := Go.Joins.tab_stays gPow h.pow hb (Nat.le_refl _)

theorem itoa_k (z : Int) (w : World) (h0 : 0 ≤ z) (h1 : z ≤ 999) (hT : Lib.TabIs Tryd.prog w "internal/strconv.uint64pow10" .u64 Lib.pow10Tab) :
    Calls Tryd.prog 50 #[.int .i64 z] w fun e w' => e = .returned (.string (bs (dec z))) ∧ Below w.heap.size w w' := by
  refine (Tryd.strconv_Itoa z (by omega) (by omega) w hT).mono ?_
  rintro e w' ⟨rfl, k, os, rfl⟩
  refine ⟨?_, ?_⟩
  · obtain ⟨u, rfl⟩ : ∃ u : Nat, z = u := ⟨z.toNat, by omega⟩
    rw [Lib.itoa_nonneg]
    simp [dec, bs]
  · exact ((Below.refl _ w).trans ⟨rfl, rfl, rfl, by simp [grow], fun i hi => by simp [grow, Array.getElem?_append, hi]⟩)
end Go.Proofs.YtfjcnomingbneabDoor
