/- Plain rows read in a world: their cells, parts, single rows; a slice of the call's own cut short. Nothing of the program. -/
import Derived.Test.YtakmlgkcinjecaaPlain2
import Derived.Maps.AppendAt
import Derived.OwnWalk
namespace Go.Proofs.Ytakmlgkcinjecaa
open Go.RowKit
set_option linter.unusedVariables false
set_option linter.unusedSimpArgs false

theorem RA2.cells {w : World} {A : Option Addr} {l : List Nt2} (h : RA2 w A l) (j : Nat) (u : Value) (hu : (cl2 l)[j]? = some u) : ∃ ad, A = some ad ∧ w.cell? (ad.add j) = some u := by
  have hj := (List.getElem?_eq_some_iff.1 hu).1
  rw [cl2_length] at hj
  have hx : l[j / 2]? = some (l[j / 2]'(by omega)) := List.getElem?_eq_getElem _
  generalize l[j / 2]'(by omega) = x at hx
  obtain ⟨g, o, rfl, _, h0, h1⟩ := h _ _ hx
  obtain ⟨c0, c1⟩ := cl2_get l _ x hx
  refine ⟨_, rfl, ?_⟩
  rw [Addr.add_lit]
  have hr : j % 2 = 0 ∨ j % 2 = 1 := by omega
  rcases hr with hr | hr
  · have e : j / 2 * 2 = j := by omega
    rw [e] at c0
    rw [c0] at hu
    rw [← hu]
    have e2 : o + j / 2 * 2 = o + j := by omega
    rw [e2] at h0
    exact h0
  · have e : j / 2 * 2 + 1 = j := by omega
    rw [e] at c1
    rw [c1] at hu
    rw [← hu]
    have e2 : o + j / 2 * 2 + 1 = o + j := by omega
    rw [e2] at h1
    exact h1

theorem RA2.take {w : World} {A : Option Addr} {l : List Nt2} (h : RA2 w A l) (k : Nat) : RA2 w A (l.take k) := by
  intro i x hx
  rw [List.getElem?_take] at hx
  split at hx
  · exact h i x hx
  · cases hx
theorem RA2.dropO {w : World} {g o k c : Nat} {A : Option Addr} {l : List Nt2} (h : RA2 w (some ⟨g, o, none⟩) l) (hlc : l.length ≤ c) (hA : ¬ c = k → A = some ⟨g, o + k * 2, none⟩) : RA2 w A (l.drop k) := by
  intro i x hx
  rw [List.getElem?_drop] at hx
  have := (List.getElem?_eq_some_iff.1 hx).1
  obtain ⟨hg, h0, h1⟩ := h.at _ x hx
  refine ⟨g, _, hA (by omega), hg, ?_, ?_⟩
  · rw [show o + k * 2 + i * 2 = o + (k + i) * 2 from by omega]; exact h0
  · rw [show o + k * 2 + i * 2 + 1 = o + (k + i) * 2 + 1 from by omega]; exact h1
theorem RA2.nil (w : World) (A : Option Addr) : RA2 w A [] := fun k x h => by simp at h
theorem RA2.one {w : World} {b : Nat} {p s : Int} {t : TypeId} {fr : Nat × Nat} (h : w.heap[b]? = some (.cells #[.int .i64 p, .int .i64 s] t fr)) : RA2 w (some ⟨b, 0, none⟩) [(p, s)] := by
  intro i x hx
  cases i with
  | succ i => simp at hx
  | zero =>
    simp at hx
    subst hx
    refine ⟨b, 0, rfl, (Array.getElem?_eq_some_iff.1 h).1, ?_, ?_⟩
    · rw [cell_of_row w b _ _ _ _ h]; rfl
    · rw [cell_of_row w b _ _ _ _ h]; rfl

theorem Own2.empty {w : World} {base b : Nat} {t : TypeId} (h : w.heap[b]? = some (.cells #[] t (0, 0))) (hb : base ≤ b) : Own2 w base t (.slice (some ⟨b, 0, none⟩) 0 0) [] :=
  ⟨by simp [cl2_nil], .inr ⟨b, 0, #[], rfl, hb, h, Nat.le_refl _, Nat.zero_le _, rfl, by simp [cl2_nil]⟩⟩
theorem Own2.mono {w : World} {base base' t : Nat} {v : Value} {l : List Nt2} (h : Own2 w base t v l) (hb : base' ≤ base) : Own2 w base' t v l :=
  ⟨h.1, h.2.imp id fun ⟨g, cap, cur, a, b, c⟩ => ⟨g, cap, cur, a, Nat.le_trans hb b, c⟩⟩
theorem Own2.alloc {w : World} {base t : Nat} {v : Value} {l : List Nt2} (h : Own2 w base t v l) (o : Obj) : Own2 (w.alloc o) base t v l := h.below ((Below.refl _ _).alloc (Nat.le_refl _) o) (Nat.le_refl _)

theorem cl2_one (l : List Nt2) : ∀ u ∈ cl2 l, u.oneCell' = true := by
  induction l with
  | nil => simp [cl2_nil]
  | cons x l ih =>
    intro u hu
    rw [cl2_cons] at hu
    rcases List.mem_cons.1 hu with rfl | hu
    · rfl
    rcases List.mem_cons.1 hu with rfl | hu
    · rfl
    exact ih u hu
theorem cl2_take (l : List Nt2) (k : Nat) (hk : k ≤ l.length) : (cl2 l).take (k * 2) = cl2 (l.take k) := by
  have h : cl2 l = cl2 (l.take k) ++ cl2 (l.drop k) := by rw [← cl2_append, List.take_append_drop]
  rw [h, List.take_left']
  rw [cl2_length, List.length_take]
  omega
/-- A slice of the call's own, cut short: it holds the first k rows and keeps its room. -/
theorem Own2.cut {w : World} {base t g n c : Nat} {l : List Nt2} (h : Own2 w base t (.slice (some ⟨g, 0, none⟩) n c) l) (k : Nat) (hk : k ≤ l.length) : Own2 w base t (.slice (some ⟨g, 0, none⟩) k c) (l.take k) := by
  have hl : (l.take k).length = k := by rw [List.length_take]; omega
  rcases h.2 with ⟨h', _⟩ | ⟨g', cap, cur, h', hb, hg, hnc, hcm, hcs, ht⟩
  · cases h'
  · simp only [Value.slice.injEq, Option.some.injEq, Addr.mk.injEq, and_true, true_and] at h'
    obtain ⟨rfl, rfl, rfl⟩ := h'
    refine ⟨by rw [cl2_length], .inr ⟨g, c, cur, by rw [hl], hb, hg, by omega, hcm, hcs, ?_⟩⟩
    rw [hl, ← cl2_take l k hk, ← ht, List.take_take]
    congr 1
    have := Nat.mul_le_mul_right 2 hk
    omega
theorem Own2.room {w : World} {base t g n c : Nat} {l : List Nt2} (h : Own2 w base t (.slice (some ⟨g, 0, none⟩) n c) l) : n = l.length ∧ n ≤ c ∧ c ≤ maxLen ∧ base ≤ g ∧ g < w.heap.size := by
  have hlt := h.lt g rfl
  rcases h.2 with ⟨h', _⟩ | ⟨g', cap, cur, h', hb, hg, hnc, hcm, hcs, ht⟩
  · cases h'
  · simp only [Value.slice.injEq, Option.some.injEq, Addr.mk.injEq, and_true, true_and] at h'
    obtain ⟨rfl, rfl, rfl⟩ := h'
    exact ⟨rfl, hnc, hcm, hlt.1, hlt.2⟩
/-- A slice of the call's own that is not empty. -/
theorem Own2.some {w : World} {base t : Nat} {v : Value} {l : List Nt2} (h : Own2 w base t v l) (hl : 0 < l.length) : ∃ g c, v = .slice (some ⟨g, 0, none⟩) l.length c := by
  rcases h.2 with ⟨_, h'⟩ | ⟨g', cap, cur, h', _⟩
  · omega
  · exact ⟨g', cap, h'⟩

end Go.Proofs.Ytakmlgkcinjecaa
