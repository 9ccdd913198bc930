/- Plain rows read in a world: their cells, parts, single rows; a slice of the call's own cut short. Nothing of the program. -/
import Derived.Test.YtfjcnomingbneaaDoorPlain
import Derived.Maps.AppendAt
import Derived.OwnWalk
namespace Go.Proofs.YtfjcnomingbneaaDoor
open Go.RowKit
set_option linter.unusedVariables false
set_option linter.unusedSimpArgs false

theorem RA.cells {w : World} {A : Option Addr} {l : List Nt} (h : RA w A l) (j : Nat) (u : Value) (hu : (cl l)[j]? = some u) : ∃ ad, A = some ad ∧ w.cell? (ad.add j) = some u := by
  have hj := (List.getElem?_eq_some_iff.1 hu).1
  rw [cl_length] at hj
  have hx : l[j / 3]? = some (l[j / 3]'(by omega)) := List.getElem?_eq_getElem _
  generalize l[j / 3]'(by omega) = x at hx
  obtain ⟨g, o, rfl, _, h0, h1, h2⟩ := h _ _ hx
  obtain ⟨c0, c1, c2⟩ := cl_get l _ x hx
  refine ⟨_, rfl, ?_⟩
  rw [Addr.add_lit]
  have hr : j % 3 = 0 ∨ j % 3 = 1 ∨ j % 3 = 2 := by omega
  rcases hr with hr | hr | hr
  · have e : j / 3 * 3 = j := by omega
    rw [e] at c0
    rw [c0] at hu
    rw [← hu]
    have e2 : o + j / 3 * 3 = o + j := by omega
    rw [e2] at h0
    exact h0
  · have e : j / 3 * 3 + 1 = j := by omega
    rw [e] at c1
    rw [c1] at hu
    rw [← hu]
    have e2 : o + j / 3 * 3 + 1 = o + j := by omega
    rw [e2] at h1
    exact h1
  · have e : j / 3 * 3 + 2 = j := by omega
    rw [e] at c2
    rw [c2] at hu
    rw [← hu]
    have e2 : o + j / 3 * 3 + 2 = o + j := by omega
    rw [e2] at h2
    exact h2

theorem RA.take {w : World} {A : Option Addr} {l : List Nt} (h : RA w A l) (k : Nat) : RA w A (l.take k) := by
  intro i x hx
  rw [List.getElem?_take] at hx
  split at hx
  · exact h i x hx
  · cases hx
theorem RA.at {w : World} {g o : Nat} {l : List Nt} (h : RA w (some ⟨g, o, none⟩) l) (k : Nat) (x : Nt) (hx : l[k]? = some x) : g < w.heap.size ∧ w.cell? ⟨g, o + k * 3, none⟩ = some (.int .i64 x.1) ∧ w.cell? ⟨g, o + k * 3 + 1, none⟩ = some (.int .i64 x.2.1) ∧ w.cell? ⟨g, o + k * 3 + 2, none⟩ = some (.int .i64 x.2.2) := by
  obtain ⟨g', o', hgo, hg, h0, h1, h2⟩ := h k x hx
  simp only [Option.some.injEq, Addr.mk.injEq, and_true] at hgo
  obtain ⟨rfl, rfl⟩ := hgo
  exact ⟨hg, h0, h1, h2⟩
theorem RA.dropO {w : World} {g o k c : Nat} {A : Option Addr} {l : List Nt} (h : RA w (some ⟨g, o, none⟩) l) (hlc : l.length ≤ c) (hA : ¬ c = k → A = some ⟨g, o + k * 3, none⟩) : RA w A (l.drop k) := by
  intro i x hx
  rw [List.getElem?_drop] at hx
  have := (List.getElem?_eq_some_iff.1 hx).1
  obtain ⟨hg, h0, h1, h2⟩ := h.at _ x hx
  refine ⟨g, _, hA (by omega), hg, ?_, ?_, ?_⟩
  · rw [show o + k * 3 + i * 3 = o + (k + i) * 3 from by omega]; exact h0
  · rw [show o + k * 3 + i * 3 + 1 = o + (k + i) * 3 + 1 from by omega]; exact h1
  · rw [show o + k * 3 + i * 3 + 2 = o + (k + i) * 3 + 2 from by omega]; exact h2
theorem RA.drop {w : World} {g k c : Nat} {A : Option Addr} {l : List Nt} (h : RA w (some ⟨g, 0, none⟩) l) (hlc : l.length ≤ c) (hA : ¬ c = k → A = some ⟨g, 0 + k * 3, none⟩) : RA w A (l.drop k) := RA.dropO h hlc hA
theorem RA.nil (w : World) (A : Option Addr) : RA w A [] := fun k x h => by simp at h
theorem RA.one {w : World} {b : Nat} {p s n : Int} {t : TypeId} {fr : Nat × Nat} (h : w.heap[b]? = some (.cells #[.int .i64 p, .int .i64 s, .int .i64 n] t fr)) : RA w (some ⟨b, 0, none⟩) [(p, s, n)] := by
  intro i x hx
  cases i with
  | succ i => simp at hx
  | zero =>
    simp at hx
    subst hx
    refine ⟨b, 0, rfl, (Array.getElem?_eq_some_iff.1 h).1, ?_, ?_, ?_⟩
    · rw [cell_of_row w b _ _ _ _ h]; rfl
    · rw [cell_of_row w b _ _ _ _ h]; rfl
    · rw [cell_of_row w b _ _ _ _ h]; rfl

theorem Own.empty {w : World} {base b : Nat} {t : TypeId} (h : w.heap[b]? = some (.cells #[] t (0, 0))) (hb : base ≤ b) : Own w base t (.slice (some ⟨b, 0, none⟩) 0 0) [] :=
  ⟨by simp [cl_nil], .inr ⟨b, 0, #[], rfl, hb, h, Nat.le_refl _, Nat.zero_le _, rfl, by simp [cl_nil]⟩⟩
theorem Own.mono {w : World} {base base' t : Nat} {v : Value} {l : List Nt} (h : Own w base t v l) (hb : base' ≤ base) : Own w base' t v l :=
  ⟨h.1, h.2.imp id fun ⟨g, cap, cur, a, b, c⟩ => ⟨g, cap, cur, a, Nat.le_trans hb b, c⟩⟩
theorem Own.alloc {w : World} {base t : Nat} {v : Value} {l : List Nt} (h : Own w base t v l) (o : Obj) : Own (w.alloc o) base t v l := h.below ((Below.refl _ _).alloc (Nat.le_refl _) o) (Nat.le_refl _)

theorem cl_one (l : List Nt) : ∀ u ∈ cl l, u.oneCell' = true := by
  induction l with
  | nil => simp [cl_nil]
  | cons x l ih =>
    intro u hu
    rw [cl_cons] at hu
    rcases List.mem_cons.1 hu with rfl | hu
    · rfl
    rcases List.mem_cons.1 hu with rfl | hu
    · rfl
    rcases List.mem_cons.1 hu with rfl | hu
    · rfl
    exact ih u hu
theorem cl_take (l : List Nt) (k : Nat) (hk : k ≤ l.length) : (cl l).take (k * 3) = cl (l.take k) := by
  have h : cl l = cl (l.take k) ++ cl (l.drop k) := by rw [← cl_append, List.take_append_drop]
  rw [h, List.take_left']
  rw [cl_length, List.length_take]
  omega
/-- A slice of the call's own, cut short: it holds the first k rows and keeps its room. -/
theorem Own.cut {w : World} {base t g n c : Nat} {l : List Nt} (h : Own w base t (.slice (some ⟨g, 0, none⟩) n c) l) (k : Nat) (hk : k ≤ l.length) : Own w base t (.slice (some ⟨g, 0, none⟩) k c) (l.take k) := by
  have hl : (l.take k).length = k := by rw [List.length_take]; omega
  rcases h.2 with ⟨h', _⟩ | ⟨g', cap, cur, h', hb, hg, hnc, hcm, hcs, ht⟩
  · cases h'
  · simp only [Value.slice.injEq, Option.some.injEq, Addr.mk.injEq, and_true, true_and] at h'
    obtain ⟨rfl, rfl, rfl⟩ := h'
    refine ⟨by rw [cl_length], .inr ⟨g, c, cur, by rw [hl], hb, hg, by omega, hcm, hcs, ?_⟩⟩
    rw [hl, ← cl_take l k hk, ← ht, List.take_take]
    congr 1
    have := Nat.mul_le_mul_right 3 hk
    omega
theorem Own.room {w : World} {base t g n c : Nat} {l : List Nt} (h : Own w base t (.slice (some ⟨g, 0, none⟩) n c) l) : n = l.length ∧ n ≤ c ∧ c ≤ maxLen ∧ base ≤ g ∧ g < w.heap.size := by
  have hlt := h.lt g rfl
  rcases h.2 with ⟨h', _⟩ | ⟨g', cap, cur, h', hb, hg, hnc, hcm, hcs, ht⟩
  · cases h'
  · simp only [Value.slice.injEq, Option.some.injEq, Addr.mk.injEq, and_true, true_and] at h'
    obtain ⟨rfl, rfl, rfl⟩ := h'
    exact ⟨rfl, hnc, hcm, hlt.1, hlt.2⟩
/-- A slice of the call's own that is not empty. -/
theorem Own.some {w : World} {base t : Nat} {v : Value} {l : List Nt} (h : Own w base t v l) (hl : 0 < l.length) : ∃ g c, v = .slice (some ⟨g, 0, none⟩) l.length c := by
  rcases h.2 with ⟨_, h'⟩ | ⟨g', cap, cur, h', _⟩
  · omega
  · exact ⟨g', cap, h'⟩

end Go.Proofs.YtfjcnomingbneaaDoor
