/- Plain: numbers put one after another into an increasing list, against the sorted list of them. Nothing of the program. -/
import Derived.Test.YtbdffmacpajebaaDoorIntP
namespace Go.Proofs.YtbdffmacpajebaaDoor
set_option linter.unusedVariables false

/-- Strictly increasing. -/
def Inc : List Int → Prop
  | [] => True
  | x :: r => (∀ y ∈ r, x < y) ∧ Inc r

theorem mem_putL (n : Int) (l : List Int) (y : Int) : y ∈ putL n l ↔ y = n ∨ y ∈ l := by
  induction l with
  | nil => simp [putL]
  | cons x l ih =>
    unfold putL
    split
    · simp only [List.mem_cons, ih]
      constructor
      · rintro (h | h | h) <;> simp [h]
      · rintro (h | h | h) <;> simp [h]
    · split
      · rename_i h1 h2
        simp only [List.mem_cons]
        constructor
        · intro h; exact .inr h
        · rintro (h | h)
          · exact .inl (h.trans h2.symm)
          · exact h
      · simp only [List.mem_cons]

theorem putL_inc (n : Int) (l : List Int) (h : Inc l) : Inc (putL n l) := by
  induction l with
  | nil => simp [putL, Inc]
  | cons x l ih =>
    unfold putL
    split
    · rename_i hx
      refine ⟨fun y hy => ?_, ih h.2⟩
      rcases (mem_putL n l y).1 hy with rfl | hy
      · exact hx
      · exact h.1 y hy
    · split
      · exact h
      · refine ⟨fun y hy => ?_, h⟩
        rcases List.mem_cons.1 hy with rfl | hy
        · omega
        · have := h.1 y hy; omega

theorem putL_perm (n : Int) (l : List Int) (h : n ∉ l) : (putL n l).Perm (n :: l) := by
  induction l with
  | nil => simp [putL]
  | cons x l ih =>
    simp only [List.mem_cons, not_or] at h
    unfold putL
    split
    · exact ((ih h.2).cons x).trans (List.Perm.swap n x l)
    · rw [if_neg (fun e => h.1 e.symm)]

/-- Increasing lists with the same members are one. -/
theorem Inc.pairwise {l : List Int} (h : Inc l) : l.Pairwise (fun a b => a ≤ b) := by
  induction l with
  | nil => exact List.Pairwise.nil
  | cons x l ih => exact List.Pairwise.cons (fun y hy => Int.le_of_lt (h.1 y hy)) (ih h.2)

theorem sorted_eq {l m : List Int} (hp : l.Perm m) (hl : l.Pairwise (fun a b => a ≤ b)) (hm : m.Pairwise (fun a b => a ≤ b)) : l = m :=
  List.Perm.eq_of_pairwise (fun a b _ _ h1 h2 => Int.le_antisymm h1 h2) hl hm hp

theorem merge_pairwise (zs : List Int) : (zs.mergeSort fun x y => decide (x ≤ y)).Pairwise (fun a b => a ≤ b) := by
  have := List.pairwise_mergeSort (le := fun x y : Int => decide (x ≤ y)) (by intro a b c; simp; omega) (by intro a b; simp; omega) zs
  exact this.imp (by intro a b h; simpa using h)

/-- An increasing list made of zs' members, put one by one: zs sorted. -/
theorem inc_merge {l zs : List Int} (hp : l.Perm zs) (hl : Inc l) : l = zs.mergeSort fun x y => decide (x ≤ y) :=
  sorted_eq (hp.trans (List.mergeSort_perm _ _).symm) hl.pairwise (merge_pairwise zs)

theorem Inc.get {l : List Int} (h : Inc l) : ∀ (i j : Nat) (x y : Int), i < j → l[i]? = some x → l[j]? = some y → x < y := by
  induction l with
  | nil => intro i j x y _ hx; simp at hx
  | cons a l ih =>
    intro i j x y hij hx hy
    cases j with
    | zero => omega
    | succ j =>
      rw [List.getElem?_cons_succ] at hy
      cases i with
      | zero =>
        rw [List.getElem?_cons_zero] at hx
        injection hx with hx
        subst hx
        exact h.1 y (List.mem_of_getElem? hy)
      | succ i => exact ih h.2 i j x y (by omega) hx hy
end Go.Proofs.YtbdffmacpajebaaDoor
