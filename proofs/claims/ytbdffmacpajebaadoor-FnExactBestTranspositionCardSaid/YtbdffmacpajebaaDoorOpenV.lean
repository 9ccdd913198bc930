/- An argument that is a slice of notes, opened to plain notes. -/
import Derived.Test.YtbdffmacpajebaaDoorLawV
import Derived.Test.YtbdffmacpajebaaDoorOpenP
import Derived.Test.YtbdffmacpajebaaDoorSlc
import Derived.Deep.Slices
import Derived.Deep.Fields
import Derived.ChangeSame
import Derived.OpenShut
namespace Go.Proofs.YtbdffmacpajebaaDoor
open Go.ChangeShapes Go.WideShapes Go.RowKit Go.Deep
set_option linter.unusedVariables false

theorem Tryd.cellsNoteL : Tryd.prog.cellsOf 60 = 3 := by kernel_rfl

theorem three {α : Type} {l : List α} (h : l.length = 3) : ∃ a b c, l = [a, b, c] := by
  match l, h with
  | [a, b, c], _ => exact ⟨a, b, c, rfl⟩

section
variable {H : Type} {enc : TypeId × Value → H} {w : World} {base : Nat} {spare : Nat → Bool} {held : Bool}

theorem note_cells {fuel : Nat} {cs : List Value} {x : DataW H × List MemPlace} (h : DataW.trod enc Tryd.prog w base spare held fuel 60 cs = some x) :
    ∃ p s n : Int, cs = [.int .i64 p, .int .i64 s, .int .i64 n] := by
  obtain ⟨ys, m, _, _, hlen, hyl, hf⟩ := DataW.trod_struct Tryd.underlying60 h
  rw [Tryd.cellsNoteL] at hlen
  obtain ⟨a, b, c, rfl⟩ := three hlen
  have f0 := hf 0 _ rfl
  have f1 := hf 1 _ rfl
  have f2 := hf 2 _ rfl
  simp [Tryd.cellsInt] at f0 f1 f2
  obtain ⟨y0, y1, y2, rfl⟩ := three (l := ys) hyl
  obtain ⟨p, e0, _, _⟩ := DataW.trod_int Tryd.underlying3 (f0.trans rfl)
  obtain ⟨s, e1, _, _⟩ := DataW.trod_int Tryd.underlying3 (f1.trans rfl)
  obtain ⟨n, e2, _, _⟩ := DataW.trod_int Tryd.underlying3 (f2.trans rfl)
  simp at e0 e1 e2
  exact ⟨p, s, n, by rw [e0, e1, e2]⟩

theorem open_notes {v : Value} {d : DataW H} {ps : List MemPlace} (hv : ∃ a n c, v = .slice a n c) (h : DataW.Trod enc Tryd.prog w base spare held 32 v d ps) (hw : ∀ p ∈ ps, p.block < w.heap.size) :
    ∃ (A : Option Addr) (l : List Nt) (c : Nat), v = .slice A l.length c ∧ l.length ≤ c ∧ c ≤ maxLen ∧ RA w A l := by
  obtain ⟨a0, n0, c0, rfl⟩ := hv
  obtain ⟨fuel, hf⟩ := h
  rcases open_slice Tryd.underlying32 hf with ⟨hcs, hx⟩ | ⟨a, len, cap, m, n, D, Pl, hcs, hb, hl, hm, hmm, hx, hi⟩
  · simp [Value.cells] at hcs
    obtain ⟨rfl, rfl, rfl⟩ := hcs
    exact ⟨none, [], 0, rfl, Nat.le_refl _, Nat.zero_le _, fun k x hx => by simp at hx⟩
  · simp [Value.cells] at hcs
    obtain ⟨rfl, rfl, rfl⟩ := hcs
    rw [Tryd.cellsNoteL] at hi
    have hle : n0 ≤ m := by rw [hmm]; split <;> omega
    have hex : ∀ i, i < n0 → ∃ x : Nt, w.cell? (a.add (i * 3)) = some (.int .i64 x.1) ∧ w.cell? (a.add (i * 3 + 1)) = some (.int .i64 x.2.1) ∧ w.cell? (a.add (i * 3 + 2)) = some (.int .i64 x.2.2) := by
      intro i hin
      obtain ⟨cs', hc, ht⟩ := hi i (by omega)
      obtain ⟨p, s, n, rfl⟩ := note_cells ht
      obtain ⟨_, _, hat⟩ := World.cells?_some hc
      refine ⟨(p, s, n), ?_, ?_, ?_⟩
      · have := hat 0 (by omega); rw [Go.Deep.add_add] at this; simpa using this
      · have := hat 1 (by omega); rw [Go.Deep.add_add] at this; simpa using this
      · have := hat 2 (by omega); rw [Go.Deep.add_add] at this; simpa using this
    have hlist : ∀ k, k ≤ n0 → ∃ l : List Nt, l.length = k ∧ ∀ i x, l[i]? = some x → w.cell? (a.add (i * 3)) = some (.int .i64 x.1) ∧ w.cell? (a.add (i * 3 + 1)) = some (.int .i64 x.2.1) ∧ w.cell? (a.add (i * 3 + 2)) = some (.int .i64 x.2.2) := by
      intro k
      induction k with
      | zero => exact fun _ => ⟨[], rfl, fun i x hx => by simp at hx⟩
      | succ k ih =>
        intro hk
        obtain ⟨l, hll, hc⟩ := ih (by omega)
        obtain ⟨x, hx⟩ := hex k (by omega)
        refine ⟨l ++ [x], by simp [hll], fun i y hy => ?_⟩
        rcases Nat.lt_or_ge i l.length with hil | hil
        · rw [List.getElem?_append_left hil] at hy; exact hc i y hy
        · rw [List.getElem?_append_right hil] at hy
          have : i - l.length = 0 := by
            have := (List.getElem?_eq_some_iff.1 hy).1
            simp at this; omega
          rw [this] at hy
          simp at hy
          subst hy
          obtain rfl : i = k := by omega
          exact hx
    obtain ⟨l, hll, hc⟩ := hlist n0 (Nat.le_refl _)
    subst hll
    refine ⟨some a, l, c0, rfl, hl, hm, fun k x hkx => ?_⟩
    obtain ⟨h0, h1, h2⟩ := hc k x hkx
    obtain ⟨b, off, spot⟩ := a
    have hspot : spot = none := by
      have hk : 0 < l.length := by have := (List.getElem?_eq_some_iff.1 hkx).1; omega
      have hz : l[0]? = some l[0] := List.getElem?_eq_getElem hk
      simpa [Addr.add] using World.cell?_spot (hc 0 _ hz).1
    subst hspot
    rw [Go.WideShapes.add_plain] at h0 h1 h2
    exact ⟨b, off, rfl, World.block_lt_of_cell? w _ h0, h0, h1, h2⟩
end
end Go.Proofs.YtbdffmacpajebaaDoor
