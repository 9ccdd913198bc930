/- Plain: sheets by parts: holes of one track apart from each other; moved, reversed, mirrored and cut holes. Nothing of the program's text. -/
import Derived.Test.YtkfgmkgbicahgaaDoorHSrtP
namespace Go.Proofs.YtkfgmkgbicahgaaDoor.H
set_option linter.unusedVariables false

/-- There is a web between two holes, if they have one track. -/
def apart (x y : Nt) : Prop := ¬ (x.1 = y.1 ∧ x.2.1 ≤ y.2.2 ∧ y.2.1 ≤ x.2.2)
theorem apart_symm {x y : Nt} (h : apart x y) : apart y x := fun ⟨a, b, c⟩ => h ⟨a.symm, c, b⟩
theorem Good.apart {l : List Nt} (h : Good l) : l.Pairwise apart := by
  rw [List.pairwise_iff_getElem]
  intro i j hi hj hij hm
  have h1 := (h.1 j l[j] hj (List.getElem?_eq_getElem hj)).2.2 i l[i] hij (List.getElem?_eq_getElem hi)
  have : ¬ (meetN l[j] l[i] = true) := by rw [h1]; simp
  rw [meetN_iff] at this
  exact this ⟨hm.1.symm, hm.2.2⟩
theorem Good.valid {l : List Nt} (h : Good l) (x : Nt) (hx : x ∈ l) : noteN x = true := by
  obtain ⟨i, hi⟩ := List.mem_iff_getElem?.1 hx
  exact (h.1 i x (List.getElem?_eq_some_iff.1 hi).1 hi).1
theorem Good.srt {l : List Nt} (h : Good l) : Srt l := by
  unfold Srt
  rw [List.pairwise_iff_getElem]
  intro i j hi hj hij
  exact befN_asym (h.bef j i _ _ hij (List.getElem?_eq_getElem hi) (List.getElem?_eq_getElem hj))

/-- Valid holes in order, with webs between them, not too many, are a sheet. -/
theorem good_of_srt {ys : List Nt} (hs : Srt ys) (hv : ∀ x ∈ ys, noteN x = true) (ha : ys.Pairwise Go.Proofs.YtkfgmkgbicahgaaDoor.H.apart) (h60 : ys.length ≤ 60) : Good ys := by
  refine ⟨fun i x hi hx => ?_, h60⟩
  have hxe := (List.getElem?_eq_some_iff.1 hx).2
  have key : ∀ (j : Nat) (y : Nt), j < i → ys[j]? = some y → ¬ (x.2.1 < y.2.1 ∨ x.2.1 = y.2.1 ∧ x.1 < y.1) ∧ ¬ (y.1 = x.1 ∧ y.2.1 ≤ x.2.2 ∧ x.2.1 ≤ y.2.2) ∧ (0 ≤ y.2.1 ∧ y.2.1 < y.2.2) := by
    intro j y hj hy
    have hj' := (List.getElem?_eq_some_iff.1 hy).1
    have hye := (List.getElem?_eq_some_iff.1 hy).2
    have h1 := List.pairwise_iff_getElem.1 hs j i hj' hi hj
    have h2 := List.pairwise_iff_getElem.1 ha j i hj' hi hj
    rw [hxe, hye] at h1 h2
    have h3 := (noteN_iff y).1 (hv y (List.mem_iff_getElem?.2 ⟨j, hy⟩))
    exact ⟨(befN_false x y).1 h1, h2, h3.2.2.1, h3.2.2.2.1⟩
  have hvx := (noteN_iff x).1 (hv x (List.mem_iff_getElem?.2 ⟨i, hx⟩))
  refine ⟨hv x (List.mem_iff_getElem?.2 ⟨i, hx⟩), fun y h0 hy => ?_, fun j y hj hy => ?_⟩
  · obtain ⟨h1, h2, h3⟩ := key (i - 1) y (by omega) hy
    rw [befN_iff]
    omega
  · obtain ⟨h1, h2, h3⟩ := key j y hj hy
    cases hm : meetN x y with
    | false => rfl
    | true =>
      rw [meetN_iff] at hm
      exact absurd ⟨hm.1.symm, by omega, hm.2⟩ h2

def mxI (a b : Int) : Int := if a < b then b else a
def mnI (a b : Int) : Int := if b < a then b else a
theorem mxI_spec (a b : Int) : a ≤ mxI a b ∧ b ≤ mxI a b ∧ (mxI a b = a ∨ mxI a b = b) := by unfold mxI; split <;> omega
theorem mnI_spec (a b : Int) : mnI a b ≤ a ∧ mnI a b ≤ b ∧ (mnI a b = a ∨ mnI a b = b) := by unfold mnI; split <;> omega
/-- Holes changed one by one; those that are left. -/
def chgL (g : Nt → Nt) (l : List Nt) : List Nt := (l.map g).filter fun y => decide (y.2.1 < y.2.2)
theorem chgL_length (g : Nt → Nt) (l : List Nt) : (chgL g l).length ≤ l.length := by
  unfold chgL
  exact Nat.le_trans (List.length_filter_le _ _) (by simp)
theorem chgL_snoc (g : Nt → Nt) (l : List Nt) (k : Nat) (x : Nt) (h : l[k]? = some x) : chgL g (l.take (k + 1)) = chgL g (l.take k) ++ (if (g x).2.1 < (g x).2.2 then [g x] else []) := by
  unfold chgL
  rw [List.take_add_one, h, List.map_append, List.filter_append]
  congr 1
  simp only [Option.toList, List.map_cons, List.map_nil, List.filter_cons, List.filter_nil, decide_eq_true_eq]
theorem chgL_all (g : Nt → Nt) (l : List Nt) (h : ∀ x ∈ l, (g x).2.1 < (g x).2.2) : chgL g l = l.map g := by
  unfold chgL
  rw [List.filter_eq_self]
  intro y hy
  obtain ⟨x, hx, rfl⟩ := List.mem_map.1 hy
  simpa using h x hx

def moveN (b : Int) (x : Nt) : Nt := (x.1, x.2.1 + b, x.2.2 + b)
def revN (n : Int) (x : Nt) : Nt := (x.1, n - x.2.2, n - x.2.1)
def mirN (x : Nt) : Nt := (19 - x.1, x.2.1, x.2.2)
def cutN (f t : Int) (x : Nt) : Nt := (x.1, mxI x.2.1 f - f, mnI x.2.2 t - f)

theorem moved_srt {l : List Nt} (b : Int) (h : Srt l) : Srt (l.map (moveN b)) := by
  unfold Srt at *
  rw [List.pairwise_map]
  refine h.imp ?_
  intro x y hxy
  rw [befN_false] at *
  simp only [moveN]
  omega
/-- A part of a sheet is a sheet. -/
theorem cut_good {l : List Nt} (f t : Int) (hg : Good l) (hf : 0 ≤ f) (ht : t ≤ 2000) : goodB (canon (chgL (cutN f t) l)) = true := by
  rw [goodB_iff]
  have hp := canon_perm (chgL (cutN f t) l)
  refine good_of_srt (canon_srt _) ?_ ?_ ?_
  · intro x hx
    have hx' := hp.mem_iff.1 hx
    unfold chgL at hx'
    rw [List.mem_filter] at hx'
    obtain ⟨h1, h2⟩ := hx'
    obtain ⟨z, hz, rfl⟩ := List.mem_map.1 h1
    have hv := (noteN_iff z).1 (hg.valid z hz)
    rw [noteN_iff]
    have h2 : (cutN f t z).2.1 < (cutN f t z).2.2 := of_decide_eq_true h2
    simp only [cutN] at h2 ⊢
    have a1 := mxI_spec z.2.1 f
    have a2 := mnI_spec z.2.2 t
    refine ⟨hv.1, hv.2.1, ?_⟩
    omega
  · refine (hp.pairwise_iff fun {x y} h => apart_symm h).2 ?_
    unfold chgL
    rw [List.pairwise_filter, List.pairwise_map]
    refine hg.apart.imp ?_
    intro x y hxy hx hy hm
    refine hxy ?_
    have hx : (cutN f t x).2.1 < (cutN f t x).2.2 := of_decide_eq_true hx
    have hy : (cutN f t y).2.1 < (cutN f t y).2.2 := of_decide_eq_true hy
    simp only [cutN] at hx hy hm
    have a1 := mxI_spec x.2.1 f
    have a2 := mnI_spec x.2.2 t
    have a3 := mxI_spec y.2.1 f
    have a4 := mnI_spec y.2.2 t
    obtain ⟨h1, h2, h3⟩ := hm
    refine ⟨h1, ?_⟩
    omega
  · rw [canon_length]
    exact Nat.le_trans (chgL_length _ _) hg.2
/-- A list in order is what it is when it is put in order, where one of them is a sheet. -/
theorem canon_same {l : List Nt} (hs : Srt l) : goodB (canon l) = goodB l ∧ (if goodB (canon l) = true then canon l else []) = (if goodB l = true then l else []) := by
  obtain ⟨h1, h2⟩ := canon_good (List.Perm.refl l) hs
  exact ⟨h1.symm, h2.symm⟩
/-- A hole that is none keeps the whole from being a sheet. -/
theorem canon_bad {l : List Nt} {x : Nt} (hx : noteN x = false) : goodB (canon (l ++ [x])) = false := by
  cases h : goodB (canon (l ++ [x])) with
  | false => rfl
  | true =>
    have := ((goodB_iff _).1 h).valid x ((canon_perm _).mem_iff.2 (by simp))
    rw [hx] at this
    cases this
end Go.Proofs.YtkfgmkgbicahgaaDoor.H
