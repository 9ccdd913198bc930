/- Plain: the last note of a pitch before one, and the pairs of notes of one pitch with no other one between. Nothing of the program. -/
import Derived.Test.YtecbeicppfcofabDoorGood
namespace Go.Proofs.YtecbeicppfcofabDoor
open Go.RowKit

/-- The index of the last of the first k notes that has a pitch, or -1. -/
def lastIx (p : Int) (l : List Nt) : Nat → Int
  | 0 => -1
  | k + 1 => match l[k]? with
    | some x => if x.1 = p then (k : Int) else lastIx p l k
    | none => lastIx p l k
theorem lastIx_succ {p : Int} {l : List Nt} {k : Nat} {x : Nt} (hx : l[k]? = some x) : lastIx p l (k + 1) = if x.1 = p then (k : Int) else lastIx p l k := by
  rw [lastIx, hx]
theorem lastIx_lt (p : Int) (l : List Nt) : ∀ k : Nat, -1 ≤ lastIx p l k ∧ lastIx p l k < k := by
  intro k
  induction k with
  | zero => simp [lastIx]
  | succ k ih =>
    rw [lastIx]
    split
    · split <;> omega
    · omega
/-- The pairs whose second one is among the first k notes. -/
def pairsL (l : List Nt) : Nat → List (Int × Int)
  | 0 => []
  | k + 1 => match l[k]? with
    | some x => if 0 ≤ lastIx x.1 l k then pairsL l k ++ [(lastIx x.1 l k, (k : Int))] else pairsL l k
    | none => pairsL l k
theorem pairsL_succ {l : List Nt} {k : Nat} {x : Nt} (hx : l[k]? = some x) : pairsL l (k + 1) = if 0 ≤ lastIx x.1 l k then pairsL l k ++ [(lastIx x.1 l k, (k : Int))] else pairsL l k := by
  rw [pairsL, hx]
theorem pairsL_length (l : List Nt) : ∀ k, (pairsL l k).length ≤ k := by
  intro k
  induction k with
  | zero => simp [pairsL]
  | succ k ih =>
    rw [pairsL]
    split
    · split
      · simp; omega
      · omega
    · omega
theorem pairsL_mem (l : List Nt) (a b : Int) : ∀ k, (a, b) ∈ pairsL l k → 0 ≤ a ∧ a < b ∧ b < k := by
  intro k
  induction k with
  | zero => intro h; simp [pairsL] at h
  | succ k ih =>
    intro h
    rw [pairsL] at h
    split at h
    · split at h
      · rename_i x hx h0
        rcases List.mem_append.1 h with h | h
        · have := ih h; omega
        · simp only [List.mem_singleton, Prod.mk.injEq] at h
          have := lastIx_lt x.1 l k
          omega
      · have := ih h; omega
    · have := ih h; omega
/-- By how much the starts of a pair of notes differ. -/
def apart (l : List Nt) (a b : Int) : Int := (l.getD b.toNat (0, 0, 0)).2.1 - (l.getD a.toNat (0, 0, 0)).2.1
/-- The fast ones for a repeat time. -/
def fastL (r : Int) (l : List Nt) (k : Nat) : List (Int × Int) := (pairsL l k).filter fun q => decide (apart l q.1 q.2 < r)
theorem fastL_succ {r : Int} {l : List Nt} {k : Nat} {x : Nt} (hx : l[k]? = some x) : fastL r l (k + 1) = if 0 ≤ lastIx x.1 l k ∧ apart l (lastIx x.1 l k) k < r then fastL r l k ++ [(lastIx x.1 l k, (k : Int))] else fastL r l k := by
  unfold fastL
  rw [pairsL_succ hx]
  by_cases h : 0 ≤ lastIx x.1 l k
  · rw [if_pos h, List.filter_append]
    by_cases h2 : apart l (lastIx x.1 l k) k < r
    · rw [if_pos ⟨h, h2⟩]; simp [h2]
    · rw [if_neg (fun hh => h2 hh.2)]; simp [h2]
  · rw [if_neg h, if_neg (fun hh => h hh.1)]
end Go.Proofs.YtecbeicppfcofabDoor
