/- Plain: tempos with a further change. Nothing of the program. -/
import Derived.Test.YtakmlgkcinjecaaTmpP
namespace Go.Proofs.Ytakmlgkcinjecaa
open Go.RowKit
set_option linter.unusedVariables false

def befT (s : Int) (x : Nt2) : Bool := decide (x.1 < s)
def aftT (s : Int) (x : Nt2) : Bool := decide (s < x.1)
def outT (l : List Nt2) (x : Nt2) : List Nt2 := l.filter (befT x.1) ++ [x] ++ l.filter (aftT x.1)
theorem filter_cut {l : List Nt2} {P : Nt2 → Bool} (p : Nat) (h1 : ∀ i y, i < p → l[i]? = some y → P y = true) (h2 : ∀ i y, p ≤ i → l[i]? = some y → P y = false) : l.filter P = l.take p := by
  have e : l = l.take p ++ l.drop p := (List.take_append_drop p l).symm
  conv => lhs; rw [e]
  rw [List.filter_append]
  have a : (l.take p).filter P = l.take p := by
    rw [List.filter_eq_self]
    intro y hy
    obtain ⟨i, hi⟩ := List.mem_iff_getElem?.1 hy
    rw [List.getElem?_take] at hi
    split at hi
    · exact h1 i y (by assumption) hi
    · cases hi
  have b : (l.drop p).filter P = [] := by
    rw [List.filter_eq_nil_iff]
    intro y hy
    obtain ⟨i, hi⟩ := List.mem_iff_getElem?.1 hy
    rw [List.getElem?_drop] at hi
    rw [h2 (p + i) y (by omega) hi]
    simp
  rw [a, b, List.append_nil]
theorem filter_tail {l : List Nt2} {P : Nt2 → Bool} (p : Nat) (h1 : ∀ i y, i < p → l[i]? = some y → P y = false) (h2 : ∀ i y, p ≤ i → l[i]? = some y → P y = true) : l.filter P = l.drop p := by
  have e : l = l.take p ++ l.drop p := (List.take_append_drop p l).symm
  conv => lhs; rw [e]
  rw [List.filter_append]
  have a : (l.take p).filter P = [] := by
    rw [List.filter_eq_nil_iff]
    intro y hy
    obtain ⟨i, hi⟩ := List.mem_iff_getElem?.1 hy
    rw [List.getElem?_take] at hi
    split at hi
    · rw [h1 i y (by assumption) hi]; simp
    · cases hi
  have b : (l.drop p).filter P = l.drop p := by
    rw [List.filter_eq_self]
    intro y hy
    obtain ⟨i, hi⟩ := List.mem_iff_getElem?.1 hy
    rw [List.getElem?_drop] at hi
    exact h2 (p + i) y (by omega) hi
  rw [a, b, List.nil_append]
theorem outT_len (l : List Nt2) (x : Nt2) : (outT l x).length ≤ 2 * l.length + 1 := by
  have a := List.length_filter_le (befT x.1) l
  have b := List.length_filter_le (aftT x.1) l
  simp only [outT, List.length_append, List.length_singleton]
  omega
theorem befT_of {l : List Nt2} {i : Nat} {y : Nt2} (s : Int) (h : l[i]? = some y) : befT s y = decide (stp l i < s) := by rw [befT, stp_of h]
theorem aftT_of {l : List Nt2} {i : Nat} {y : Nt2} (s : Int) (h : l[i]? = some y) : aftT s y = decide (s < stp l i) := by rw [aftT, stp_of h]
theorem Tmp.le {l : List Nt2} (h : Tmp l) {i j : Nat} (hij : i ≤ j) (hj : j < l.length) : stp l i ≤ stp l j := by
  rcases Nat.lt_or_ge i j with h' | h'
  · have := h.mono h' hj; omega
  · obtain rfl : i = j := by omega
    exact Int.le_refl _
/-- A change at a step that has one takes its place. -/
theorem outT_same {l : List Nt2} (h : Tmp l) {x : Nt2} (h0 : 0 ≤ x.1) (he : stp l (atT l x.1) = x.1) : outT l x = l.set (atT l x.1) x := by
  have hj := atT_lt h.pos x.1
  have a : l.filter (befT x.1) = l.take (atT l x.1) := by
    refine filter_cut _ (fun i y hi hy => ?_) (fun i y hi hy => ?_)
    · rw [befT_of _ hy]; have := h.mono hi hj; simp; omega
    · rw [befT_of _ hy]; have := h.le hi (List.getElem?_eq_some_iff.1 hy).1; simp; omega
  have b : l.filter (aftT x.1) = l.drop (atT l x.1 + 1) := by
    refine filter_tail _ (fun i y hi hy => ?_) (fun i y hi hy => ?_)
    · rw [aftT_of _ hy]; have := h.le (show i ≤ atT l x.1 by omega) hj; simp; omega
    · rw [aftT_of _ hy]; have := atT_gt (s := x.1) (show atT l x.1 < i by omega) (List.getElem?_eq_some_iff.1 hy).1; simp; omega
  rw [outT, a, b, List.set_eq_take_append_cons_drop, if_pos hj]
  simp
/-- Any other one comes behind the change of its step. -/
theorem outT_new {l : List Nt2} (h : Tmp l) {x : Nt2} (h0 : 0 ≤ x.1) (he : stp l (atT l x.1) ≠ x.1) : outT l x = l.take (atT l x.1 + 1) ++ x :: l.drop (atT l x.1 + 1) := by
  have hj := atT_lt h.pos x.1
  have hle := atT_le h h0
  have a : l.filter (befT x.1) = l.take (atT l x.1 + 1) := by
    refine filter_cut _ (fun i y hi hy => ?_) (fun i y hi hy => ?_)
    · rw [befT_of _ hy]; have := h.le (show i ≤ atT l x.1 by omega) hj; simp; omega
    · rw [befT_of _ hy]; have := atT_gt (s := x.1) (show atT l x.1 < i by omega) (List.getElem?_eq_some_iff.1 hy).1; simp; omega
  have b : l.filter (aftT x.1) = l.drop (atT l x.1 + 1) := by
    refine filter_tail _ (fun i y hi hy => ?_) (fun i y hi hy => ?_)
    · rw [aftT_of _ hy]; have := h.le (show i ≤ atT l x.1 by omega) hj; simp; omega
    · rw [aftT_of _ hy]; have := atT_gt (s := x.1) (show atT l x.1 < i by omega) (List.getElem?_eq_some_iff.1 hy).1; simp; omega
  rw [outT, a, b]
  simp
theorem set_good {l : List Nt2} (h : Tmp l) {x : Nt2} (hx : chB x = true) (he : stp l (atT l x.1) = x.1) : goodT (l.set (atT l x.1) x) = true := by
  have hj := atT_lt h.pos x.1
  have hc := (chB_iff x).1 hx
  generalize atT l x.1 = j at *
  have hs : ∀ i, stp (l.set j x) i = stp l i := by
    intro i
    unfold stp
    by_cases hij : j = i
    · subst hij
      rw [List.getElem?_set_self hj]
      exact he.symm
    · rw [List.getElem?_set_ne hij]
  refine Tmp.good ⟨by rw [List.length_set]; exact h.pos, by rw [List.length_set]; exact h.few, by rw [hs]; exact h.zero, fun i hi => by rw [hs]; exact h.step i (by simpa using hi), fun i hi => ?_, fun i hi => by rw [hs, hs]; exact h.up i (by simpa using hi)⟩
  unfold lst
  by_cases hij : j = i
  · subst hij
    rw [List.getElem?_set_self hj]
    exact hc.2
  · rw [List.getElem?_set_ne hij]
    exact h.last i (by simpa using hi)

end Go.Proofs.Ytakmlgkcinjecaa
