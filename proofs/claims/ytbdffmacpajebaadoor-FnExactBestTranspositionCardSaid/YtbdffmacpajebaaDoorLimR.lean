/- The table of limits, from the rows' own condition; an argument that is an instrument, opened to plain numbers. -/
import Derived.Test.YtbdffmacpajebaaDoorInsF
import Derived.Test.YtbdffmacpajebaaDoorInsL
import Derived.Test.YtbdffmacpajebaaDoorLawV
import Derived.LaidMore
import Derived.OpenShut
import Derived.ChangeVars
import Derived.Lib.LaidU8
import Derived.Stop.Joined
import Derived.ProofKit
import Derived.Lib.SmallJoins
import Derived.Deep.Slices
import Derived.Deep.Fields
import Derived.ChangeSame
namespace Go.Proofs.YtbdffmacpajebaaDoor
open Go.ChangeShapes Go.WideShapes Go.ChangeAt Go.RowKit Go.Sort Go.Deep
set_option linter.unusedVariables false

theorem gLim : Tryd.prog.globalNamed "loop.example/g00949/impl.instrumentLimits" = some 0 := by kernel_rfl
theorem tLim : (Tryd.prog.globals[0]?).map (·.type) = some 88 := by kernel_rfl
theorem cLim : Tryd.prog.cellsOf 87 = 2 := by kernel_rfl
theorem cIntV : Tryd.prog.cellsOf 3 = 1 := by kernel_rfl
theorem datum_lim {H : Type} : (Rows.laid_loop_example_g00949_impl_instrumentLimits : DataW H) = .agg [.agg [.lit (.int .i64 1), .lit (.int .i64 20)], .agg [.lit (.int .i64 1), .lit (.int .i64 20)]] := rfl

theorem four_of {α : Type} {l : List α} (h : l.length = 4) : ∃ a b c d, l = [a, b, c, d] := by
  match l, h with
  | [a, b, c, d], _ => exact ⟨a, b, c, d, rfl⟩
theorem two_of {α : Type} {l : List α} (h : l.length = 2) : ∃ a b, l = [a, b] := by
  match l, h with
  | [a, b], _ => exact ⟨a, b, rfl⟩

set_option maxRecDepth 100000 in
theorem lim_of_reads {W : World} (h : Lib.VarReads Tryd.prog W "loop.example/g00949/impl.instrumentLimits" Rows.laid_loop_example_g00949_impl_instrumentLimits) : Lim W := by
  obtain ⟨g, t, cs, fuel, p, hg, ht, hv, hd⟩ := h
  obtain rfl := Option.some.inj (gLim.symm.trans hg)
  obtain rfl := Option.some.inj (tLim.symm.trans ht)
  have hc := fun r => World.var?_cell hg hv r
  generalize hD : (Rows.laid_loop_example_g00949_impl_instrumentLimits : DataW Unit) = D at hd
  rw [datum_lim] at hD
  obtain ⟨xs, m1, rfl, hx1, hlen, hn, hel⟩ := DataW.trod_array Tryd.underlying88 hd
  subst hD
  have h4 : cs.toList.length = 4 := hlen.trans (by kernel_rfl)
  obtain ⟨c0, c1, c2, c3, hcs⟩ := four_of h4
  obtain ⟨x0, x1, rfl⟩ := two_of hn
  have h0 := hel 0 (by omega)
  have h1 := hel 1 (by omega)
  rw [cLim, hcs] at h0 h1
  obtain ⟨y0, y1, n, e1, e2, e3, e4⟩ := trod_struct2 Tryd.underlying87 (h0.trans rfl)
  obtain ⟨z0, z1, n', k1, k2, k3, k4⟩ := trod_struct2 Tryd.underlying87 (h1.trans rfl)
  simp only [cIntV] at e3 e4 k3 k4
  obtain ⟨a0, p0, q0, _⟩ := DataW.trod_int Tryd.underlying3 (e3.trans rfl)
  obtain ⟨a1, p1, q1, _⟩ := DataW.trod_int Tryd.underlying3 (e4.trans rfl)
  obtain ⟨a2, p2, q2, _⟩ := DataW.trod_int Tryd.underlying3 (k3.trans rfl)
  obtain ⟨a3, p3, q3, _⟩ := DataW.trod_int Tryd.underlying3 (k4.trans rfl)
  simp at p0 p1 p2 p3
  simp only [Prod.mk.injEq, DataW.agg.injEq, List.map_cons, List.map_nil, List.cons.injEq, and_true] at hx1
  rw [e1, k1] at hx1
  simp only [DataW.agg.injEq, List.cons.injEq, and_true] at hx1
  rw [q0, q1, q2, q3] at hx1
  simp at hx1
  obtain ⟨⟨⟨rfl, rfl⟩, rfl, rfl⟩, _⟩ := hx1
  have hr : ∀ r v, [c0, c1, c2, c3][r]? = some v → W.cell? ⟨0, r, none⟩ = some v := fun r v h => by
    rw [hc r, ← Array.getElem?_toList, hcs]; exact h
  have w0 := hr 0 _ rfl
  refine ⟨hr 0 _ ?_, hr 1 _ ?_, hr 2 _ ?_, hr 3 _ ?_, World.block_lt_of_cell? W _ w0⟩
  · rw [p0]; rfl
  · rw [p1]; rfl
  · rw [p2]; rfl
  · rw [p3]; rfl
end Go.Proofs.YtbdffmacpajebaaDoor
