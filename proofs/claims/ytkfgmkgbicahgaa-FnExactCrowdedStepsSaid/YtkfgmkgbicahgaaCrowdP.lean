/- Plain: how many holes are open in a step, and in how many steps more than a number are. Nothing of the program's text. -/
import Derived.Test.YtkfgmkgbicahgaaShP
namespace Go.Proofs.Ytkfgmkgbicahgaa
set_option linter.unusedVariables false

def opn (j : Int) (x : Nt) : Bool := decide (x.2.1 ≤ j) && decide (j < x.2.2)
def cnt (l : List Nt) (j : Nat) : Int := ((l.countP (opn (j : Int)) : Nat) : Int)
theorem cnt_nil (j : Nat) : cnt [] j = 0 := rfl
theorem cnt_snoc (l : List Nt) (k j : Nat) (x : Nt) (h : l[k]? = some x) : cnt (l.take (k + 1)) j = cnt (l.take k) j + if opn (j : Int) x = true then 1 else 0 := by
  unfold cnt
  rw [List.take_add_one, h, Option.toList_some, List.countP_append]
  simp only [List.countP_cons, List.countP_nil]
  split <;> simp
theorem cnt_bound (l : List Nt) (j : Nat) : 0 ≤ cnt l j ∧ cnt l j ≤ l.length := by
  unfold cnt
  have := List.countP_le_length (p := opn (j : Int)) (l := l)
  omega
/-- The holes behind the first k ones, and the first i steps of a further one that opens at s. -/
def part (l : List Nt) (k : Nat) (s i : Int) (j : Nat) : Int := cnt (l.take k) j + if s ≤ (j : Int) ∧ (j : Int) < s + i then 1 else 0
theorem part_zero (l : List Nt) (k : Nat) (s : Int) (j : Nat) : part l k s 0 j = cnt (l.take k) j := by
  unfold part; rw [if_neg (by omega)]; omega
theorem part_end (l : List Nt) (k : Nat) (x : Nt) (i : Int) (j : Nat) (h : l[k]? = some x) (hi : x.2.1 + i = x.2.2) : part l k x.2.1 i j = cnt (l.take (k + 1)) j := by
  rw [cnt_snoc l k j x h]
  unfold part
  congr 1
  simp only [opn, Bool.and_eq_true, decide_eq_true_eq, hi]
theorem part_step (l : List Nt) (k : Nat) (s i : Int) (j : Nat) (hi : 0 ≤ i) (hs : 0 ≤ s) : part l k s (i + 1) j = if j = (s + i).toNat then part l k s i j + 1 else part l k s i j := by
  unfold part
  by_cases h : j = (s + i).toNat
  · rw [if_pos h, if_pos (by omega), if_neg (by omega)]; omega
  · rw [if_neg h]
    congr 1
    by_cases h1 : s ≤ (j : Int) ∧ (j : Int) < s + i
    · rw [if_pos h1, if_pos (by omega)]
    · rw [if_neg h1, if_neg (by omega)]
theorem part_bound (l : List Nt) (k : Nat) (s i : Int) (j : Nat) (h : l.length ≤ 60) : 0 ≤ part l k s i j ∧ part l k s i j ≤ 61 := by
  have := cnt_bound (l.take k) j
  have h2 : (l.take k).length ≤ l.length := by simp; omega
  unfold part
  split <;> omega
/-- In how many of the first n steps more than m holes are open. -/
def crowdN (l : List Nt) (m : Int) (n : Nat) : Int := (((List.range n).countP (fun j => decide (m < cnt l j)) : Nat) : Int)
theorem crowdN_succ (l : List Nt) (m : Int) (n : Nat) : crowdN l m (n + 1) = crowdN l m n + if m < cnt l n then 1 else 0 := by
  unfold crowdN
  rw [List.range_succ, List.countP_append]
  simp only [List.countP_cons, List.countP_nil, decide_eq_true_eq]
  split <;> simp
theorem crowdN_bound (l : List Nt) (m : Int) (n : Nat) : 0 ≤ crowdN l m n ∧ crowdN l m n ≤ n := by
  unfold crowdN
  have := List.countP_le_length (p := fun j => decide (m < cnt l j)) (l := List.range n)
  rw [List.length_range] at this
  omega
end Go.Proofs.Ytkfgmkgbicahgaa
