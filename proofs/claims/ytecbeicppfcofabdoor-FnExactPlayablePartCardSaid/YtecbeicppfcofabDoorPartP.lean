/- Plain: the notes of a score that an instrument can play, one after another. Nothing of the program. -/
import Derived.Test.YtecbeicppfcofabDoorPairP
import Derived.Test.YtecbeicppfcofabDoorInsP
namespace Go.Proofs.YtecbeicppfcofabDoor
open Go.RowKit
set_option linter.unusedVariables false

theorem lastIx_congr (p : Int) (l m : List Nt) : ∀ k : Nat, (∀ i, i < k → l[i]? = m[i]?) → lastIx p l k = lastIx p m k := by
  intro k
  induction k with
  | zero => intro _; rfl
  | succ k ih =>
    intro h
    rw [lastIx, lastIx, h k (by omega), ih (fun i hi => h i (by omega))]
theorem lastIx_app (p : Int) (l m : List Nt) : lastIx p (l ++ m) l.length = lastIx p l l.length :=
  lastIx_congr p _ _ _ (fun i hi => by rw [List.getElem?_append_left hi])
/-- Whether a note is kept behind those that are kept. -/
def keepB (P : List Int) (r : Int) (out : List Nt) (x : Nt) : Bool :=
  hasB P x.1 && (decide (lastIx x.1 out out.length < 0) || decide (r ≤ x.2.1 - (out.getD (lastIx x.1 out out.length).toNat (0, 0, 0)).2.1))
def partTo (P : List Int) (r : Int) (l : List Nt) : Nat → List Nt
  | 0 => []
  | k + 1 => match l[k]? with
    | some x => if keepB P r (partTo P r l k) x = true then partTo P r l k ++ [x] else partTo P r l k
    | none => partTo P r l k
theorem partTo_succ {P : List Int} {r : Int} {l : List Nt} {k : Nat} {x : Nt} (hx : l[k]? = some x) : partTo P r l (k + 1) = if keepB P r (partTo P r l k) x = true then partTo P r l k ++ [x] else partTo P r l k := by
  rw [partTo, hx]
theorem partTo_length (P : List Int) (r : Int) (l : List Nt) : ∀ k, (partTo P r l k).length ≤ k := by
  intro k
  induction k with
  | zero => simp [partTo]
  | succ k ih =>
    rw [partTo]
    split
    · split
      · simp; omega
      · omega
    · omega
theorem partTo_good {P : List Int} {r : Int} {l : List Nt} (hg : Good l) : ∀ k, ∀ y ∈ partTo P r l k, noteN y = true := by
  intro k
  induction k with
  | zero => intro y hy; simp [partTo] at hy
  | succ k ih =>
    intro y hy
    rw [partTo] at hy
    split at hy
    · rename_i x hx
      split at hy
      · rcases List.mem_append.1 hy with h | h
        · exact ih y h
        · simp at h
          subst h
          exact (hg.1 k _ (List.getElem?_eq_some_iff.1 hx).1 hx).1
      · exact ih y hy
    · exact ih y hy
/-- The last kept note of a pitch, where there is one. -/
theorem last_note {out : List Nt} {p : Int} (h : ∀ y ∈ out, noteN y = true) (hq : 0 ≤ lastIx p out out.length) :
    ∃ y, out[(lastIx p out out.length).toNat]? = some y ∧ out.getD (lastIx p out out.length).toNat (0, 0, 0) = y ∧ 0 ≤ y.2.1 ∧ y.2.1 ≤ 999 := by
  have hl := (lastIx_lt p out out.length).2
  have hi : (lastIx p out out.length).toNat < out.length := by omega
  have hy : out[(lastIx p out out.length).toNat]? = some out[(lastIx p out out.length).toNat] := List.getElem?_eq_getElem hi
  have hv := (noteN_iff _).1 (h _ (List.mem_of_getElem? hy))
  exact ⟨_, hy, by rw [List.getD_eq_getElem?_getD, hy]; rfl, hv.2.2.1, hv.2.2.2.1⟩
end Go.Proofs.YtecbeicppfcofabDoor
