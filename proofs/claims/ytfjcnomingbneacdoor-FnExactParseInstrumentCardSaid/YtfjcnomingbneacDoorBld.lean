/- strings.Builder and strconv.Itoa, as the texts use them. -/
import Derived.Test.YtfjcnomingbneacDoorShl
import Derived.Test.YtfjcnomingbneacDoorWs
import Derived.Test.YtfjcnomingbneacDoorText
import Derived.Test.YtfjcnomingbneacDoorPitch
import Derived.Shelf.Strings.BuilderK
import Derived.Lib.SmallJoins
import Derived.Lib.ItoaMem
import Derived.Lib.LaidTab
namespace Go.Proofs.YtfjcnomingbneacDoor
open Go.RowKit Go.Sort
set_option linter.unusedVariables false

/-- The builder in block b holds the text t. -/
def Bd (b : Nat) (t : List UInt8) (w : World) : Prop := Lib.IsBuilderF 43 5 b b (Lib.byteCells t) w

theorem Bd.below {b : Nat} {t : List UInt8} {w w' : World} (h : Bd b t w) (hb : Below w.heap.size w w') : Bd b t w' := by
  have key : ∀ p, Lib.BuilderAtF 43 5 b b p (Lib.byteCells t) w → Lib.BuilderAtF 43 5 b b p (Lib.byteCells t) w' := by
    rintro p ⟨h1, v, h2, h3, h4⟩
    refine ⟨h1, v, ?_, h3.kept (row := none) ⟨hb.os, hb.tape, hb.output, hb.size, fun k hk _ => hb.block k hk⟩ ?_, h4⟩
    · rw [hb.block b (Array.getElem?_eq_some_iff.1 h2).1]; exact h2
    · cases hv : v.ownBlock with
      | none => exact .inl rfl
      | some k => exact .inr (by simp)
  exact h.elim (fun x => .inl (key _ x)) (fun x => .inr (key _ x))

theorem Bd.fresh (w : World) : Bd w.heap.size [] (w.alloc (.cells #[.pointer none, .slice none 0 0] 43)) :=
  Lib.IsBuilderF.of (Lib.fresh_isBuilder 43 5 w)

theorem Bd.lt {b : Nat} {t : List UInt8} {w : World} (h : Bd b t w) : b < w.heap.size := by
  rcases h with ⟨_, v, h2, _⟩ | ⟨_, v, h2, _⟩ <;> exact (Array.getElem?_eq_some_iff.1 h2).1

theorem writeString_k (b : Nat) (t : List UInt8) (s : List UInt8) (w : World) (h : Bd b t w) (hlen : t.length + s.length ≤ 140737488355328) :
    Calls Tryd.prog 20 #[.pointer (some ⟨b, 0, none⟩), .string (bs s)] w fun e w' => e = .returned (.tuple #[.int .i64 s.length, .nilIface]) ∧ Bd b (t ++ s) w' ∧ Below b w w' := by
  have hl := h.lt
  refine (Any.Builder_WriteString_k Tryd.lays166 Tryd.Builder_Extra_166 b b (Lib.byteCells t) (bs s) w h (by rw [bs_size]; simpa [Lib.byteCells] using hlen) (by omega)).mono ?_
  rintro e w' ⟨rfl, h1, h2, h3⟩
  refine ⟨by rw [bs_size], .inr ?_, h2⟩
  have : Lib.byteCells (t ++ s) = Lib.byteCells t ++ Lib.strCells (bs s) := by simp [Lib.byteCells, Lib.strCells, bs]
  rw [this]
  exact h1

theorem string_k (b : Nat) (t : List UInt8) (w : World) (h : Bd b t w) :
    Calls Tryd.prog 22 #[.pointer (some ⟨b, 0, none⟩)] w fun e w' => e = .returned (.string (bs t)) ∧ Below b w w' := by
  have hl := h.lt
  refine (Tryd.Builder_String_any_k b b t w h (by omega)).mono ?_
  rintro e w' ⟨rfl, _, h2, _⟩
  exact ⟨rfl, h2⟩

/-- The tables that the texts read, where they lie. -/
structure Tabs (w : World) : Prop where
  names : ∀ r, r < 12 → w.cell? ⟨0, r, none⟩ = some (.string ⟨(nameOf r).toArray⟩)
  pow : Lib.TabIs Tryd.prog w "internal/strconv.uint64pow10" .u64 Lib.pow10Tab

theorem gPow : Tryd.prog.globalNamed "internal/strconv.uint64pow10" = some 2 := by kernel_rfl
theorem tPow : (Tryd.prog.globals[2]?).map (·.type) = some 93 := by kernel_rfl
theorem datum_pow {H : Type} : (Rows.laid_internal_strconv_uint64pow10 : DataW H) = Lib.tabData .u64 Lib.pow10Tab := rfl

theorem pow_of_reads {W : World} (h : Lib.VarReads Tryd.prog W "internal/strconv.uint64pow10" Rows.laid_internal_strconv_uint64pow10) : Lib.TabIs Tryd.prog W "internal/strconv.uint64pow10" .u64 Lib.pow10Tab := by
  obtain ⟨g, t, cs, fuel, p, hg, ht, hv, hd⟩ := h
  obtain rfl := Option.some.inj (gPow.symm.trans hg)
  obtain rfl := Option.some.inj (tPow.symm.trans ht)
  unfold Lib.TabIs
  rw [datum_pow] at hd
  rw [hv, ← Lib.cells_of_tab Tryd.underlying93 Tryd.underlying80 (by kernel_rfl) (by kernel_rfl) hd]

theorem Tabs.below {w w' : World} (h : Tabs w) (hb : Below w.heap.size w w') : Tabs w' where
  names r hr := (hb.cell (p := ⟨0, r, none⟩) (World.block_lt_of_cell? w _ (h.names r hr))).trans (h.names r hr)
  pow := Go.Joins.tab_stays gPow h.pow hb (Nat.le_refl _)

theorem itoa_k (z : Int) (w : World) (h0 : 0 ≤ z) (h1 : z ≤ 999) (hT : Lib.TabIs Tryd.prog w "internal/strconv.uint64pow10" .u64 Lib.pow10Tab) :
    Calls Tryd.prog 21 #[.int .i64 z] w fun e w' => e = .returned (.string (bs (dec z))) ∧ Below w.heap.size w w' := by
  refine (Tryd.strconv_Itoa z (by omega) (by omega) w hT).mono ?_
  rintro e w' ⟨rfl, k, os, rfl⟩
  refine ⟨?_, ?_⟩
  · obtain ⟨u, rfl⟩ : ∃ u : Nat, z = u := ⟨z.toNat, by omega⟩
    rw [Lib.itoa_nonneg]
    simp [dec, bs]
  · exact ((Below.refl _ w).trans ⟨rfl, rfl, rfl, by simp [grow], fun i hi => by simp [grow, Array.getElem?_append, hi]⟩)
end Go.Proofs.YtfjcnomingbneacDoor
