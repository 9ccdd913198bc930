/- Plain: tempos without the changes that last as long as the one before. Nothing of the program. -/
import Derived.Test.YtghimpfkpdfmnaaTmpP
namespace Go.Proofs.Ytghimpfkpdfmnaa
open Go.RowKit
set_option linter.unusedVariables false

/-- Those of the first k changes that last otherwise than the one before. -/
def simT (l : List Nt2) : Nat → List Nt2
  | 0 => []
  | k + 1 => if k = 0 ∨ lst l k ≠ lst l (k - 1) then simT l k ++ [(stp l k, lst l k)] else simT l k
theorem simT_len (l : List Nt2) (k : Nat) : (simT l k).length ≤ k := by
  induction k with
  | zero => simp [simT]
  | succ k ih =>
    unfold simT
    split
    · simp; omega
    · omega
theorem simT_new {l : List Nt2} {k : Nat} {x : Nt2} (hx : l[k]? = some x) (h : k = 0 ∨ lst l k ≠ lst l (k - 1)) : simT l (k + 1) = simT l k ++ [x] := by
  conv => lhs; unfold simT
  rw [if_pos h, stp_of hx, lst_of hx]
theorem simT_same {l : List Nt2} {k : Nat} (h0 : k ≠ 0) (h : lst l k = lst l (k - 1)) : simT l (k + 1) = simT l k := by
  conv => lhs; unfold simT
  rw [if_neg]
  rintro (h' | h')
  · exact h0 h'
  · exact h' h
theorem simT_one {l : List Nt2} (h : 1 ≤ l.length) : simT l 1 = l.take 1 := by
  have hx : l[0]? = some l[0] := List.getElem?_eq_getElem (by omega)
  rw [simT_new hx (.inl rfl), List.take_add_one, hx]
  simp [simT]
/-- What the library's rounds leave: the first k rows are those that are kept, those behind place j are as they were. -/
structure SimIs (l m : List Nt2) (k j : Nat) : Prop where
  len : m.length = l.length
  keep : m.take k = simT l j
  le : k < j
  rest : ∀ i, j ≤ i + 1 → m[i]? = l[i]?
theorem SimIs.start {l : List Nt2} {k : Nat} (h0 : k ≠ 0) (hk : k < l.length) (h : simT l k = l.take k) (he : lst l k = lst l (k - 1)) : SimIs l l k (k + 1) :=
  ⟨rfl, by rw [simT_same h0 he, h], by omega, fun _ _ => rfl⟩
theorem SimIs.skip {l m : List Nt2} {k j : Nat} (h : SimIs l m k j) (h0 : j ≠ 0) (he : lst l j = lst l (j - 1)) : SimIs l m k (j + 1) :=
  ⟨h.len, by rw [simT_same h0 he]; exact h.keep, by have := h.le; omega, fun i hi => h.rest i (by omega)⟩
theorem SimIs.put {l m : List Nt2} {k j : Nat} {x : Nt2} (h : SimIs l m k j) (hj : j < l.length) (hx : l[j]? = some x) (he : lst l j ≠ lst l (j - 1)) : SimIs l (m.set k x) (k + 1) (j + 1) := by
  have hle := h.le
  have hlen := h.len
  refine ⟨by rw [List.length_set]; exact hlen, ?_, by omega, fun i hi => ?_⟩
  · rw [simT_new hx (.inr he), ← h.keep, List.take_add_one, List.getElem?_set_self (by omega), List.take_set_of_le (by omega)]
    rfl
  · rw [List.getElem?_set_ne (by omega)]
    exact h.rest i (by omega)

end Go.Proofs.Ytghimpfkpdfmnaa
