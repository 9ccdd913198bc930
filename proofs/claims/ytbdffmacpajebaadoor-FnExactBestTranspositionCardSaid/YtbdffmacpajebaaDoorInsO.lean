/- An argument that is an instrument, opened to plain numbers. -/
import Derived.Test.YtbdffmacpajebaaDoorLimR
import Derived.ChangeSlices
namespace Go.Proofs.YtbdffmacpajebaaDoor
open Go.ChangeShapes Go.WideShapes Go.ChangeAt Go.RowKit Go.Sort Go.Deep Go.Joins
set_option linter.unusedVariables false

section
variable {H : Type} {enc : TypeId × Value → H} {w : World} {base : Nat} {spare : Nat → Bool} {held : Bool}
theorem open_ints_RI {fuel : Nat} {v : Value} {x : DataW H × List MemPlace} (h : DataW.trod enc Tryd.prog w base spare held fuel 22 [v] = some x) :
    ∃ (A : Option Addr) (l : List Int) (c : Nat), v = .slice A l.length c ∧ l.length ≤ c ∧ c ≤ maxLen ∧ RI w A l := by
  rcases open_ints Tryd.underlying22 Tryd.underlying3 (by kernel_rfl) h with ⟨hcs, hx⟩ | ⟨a, len, cap, zs, hcs, hb, hl, hm, hlen, hx, hc, hwf⟩
  · simp only [List.cons.injEq, and_true] at hcs
    subst hcs
    exact ⟨none, [], 0, rfl, Nat.le_refl _, Nat.zero_le _, fun k x hx => by simp at hx⟩
  · simp only [List.cons.injEq, and_true] at hcs
    subst hcs
    have hle : len ≤ zs.length := by rw [hlen]; split <;> omega
    have hL : (zs.take len).length = len := by simp; omega
    refine ⟨some a, zs.take len, cap, by rw [hL], by rw [hL]; exact hl, hm, fun k x hkx => ?_⟩
    have hkl : k < len := by have := (List.getElem?_eq_some_iff.1 hkx).1; omega
    rw [List.getElem?_take, if_pos hkl] at hkx
    have h0 := hc k (by omega)
    rw [List.getD_eq_getElem?_getD, hkx] at h0
    obtain ⟨b, off, spot⟩ := a
    have hspot : spot = none := by
      have hz := hc 0 (by omega)
      simpa [Addr.add] using World.cell?_spot hz
    subst hspot
    rw [Go.WideShapes.add_plain] at h0
    exact ⟨b, off, rfl, World.block_lt_of_cell? w _ h0, h0⟩
set_option maxRecDepth 1000000 in
theorem open_ins {v : Value} {d : DataW H} {ps : List MemPlace} {r : Reach} {b0 : Nat} (hv : Value.okWide Tryd.prog w r b0 24 v) (h : DataW.Trod enc Tryd.prog w base spare held 24 v d ps) :
    ∃ (A : Option Addr) (l : List Int) (c : Nat) (q : Int), v = .agg #[.slice A l.length c, .int .i64 q] ∧ l.length ≤ c ∧ c ≤ maxLen ∧ RI w A l := by
  obtain ⟨v0, v1, y0, y1, n, rfl, _, _, h0, h1⟩ := open_agg2 Tryd.underlying24 (by kernel_rfl) (by kernel_rfl) hv h
  obtain ⟨A, l, c, rfl, a, b, hr⟩ := open_ints_RI h0
  obtain ⟨q, e0, _, _⟩ := DataW.trod_int Tryd.underlying3 (h1.trans rfl)
  simp at e0
  subst e0
  exact ⟨A, l, c, q, rfl, a, b, hr⟩
end
end Go.Proofs.YtbdffmacpajebaaDoor
