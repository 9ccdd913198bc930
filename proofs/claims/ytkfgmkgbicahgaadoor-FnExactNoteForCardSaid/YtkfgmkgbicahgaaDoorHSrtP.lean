/- Plain: notes in order; sorted lists of the same notes are one where one of them is a score. Nothing of the program's text. -/
import Derived.Test.YtkfgmkgbicahgaaDoorHGood
import Derived.Test.YtkfgmkgbicahgaaDoorSrtP
namespace Go.Proofs.YtkfgmkgbicahgaaDoor.H
set_option linter.unusedVariables false

theorem Good.bef {l : List Nt} (h : Good l) : ∀ (j i : Nat) (x y : Nt), i < j → l[i]? = some x → l[j]? = some y → befN x y = true := by
  intro j
  induction j with
  | zero => intro i x y h; omega
  | succ j ih =>
    intro i x y hij hx hy
    have hj := (List.getElem?_eq_some_iff.1 hy).1
    have hm : l[j]? = some l[j] := List.getElem?_eq_getElem (by omega)
    have h1 := (h.1 (j + 1) y hj hy).2.1 _ (by omega) hm
    rcases Nat.lt_or_ge i j with h2 | h2
    · exact befN_trans (ih i x _ h2 hx hm) h1
    · obtain rfl : i = j := by omega
      rw [hm] at hx; injection hx with hx; subst hx
      exact h1

theorem srt_uniq {zs ys : List Nt} (hp : zs.Perm ys) (hz : Srt zs) (hy : Srt ys) (hg : Good ys) : zs = ys := by
  refine List.Perm.eq_of_pairwise ?_ hz hy hp
  intro a b ha hb h1 h2
  obtain ⟨i, hi⟩ := List.mem_iff_getElem?.1 (hp.mem_iff.1 ha)
  obtain ⟨j, hj⟩ := List.mem_iff_getElem?.1 hb
  rcases Nat.lt_trichotomy i j with h | h | h
  · have := hg.bef j i a b h hi hj; rw [h2] at this; cases this
  · subst h; rw [hi] at hj; injection hj
  · have := hg.bef i j b a h hj hi; rw [h1] at this; cases this

theorem canon_good {ys l : List Nt} (hp : ys.Perm l) (hs : Srt ys) : goodB ys = goodB (canon l) ∧ (if goodB ys = true then ys else []) = (if goodB (canon l) = true then canon l else []) := by
  have hpc : ys.Perm (canon l) := hp.trans (canon_perm l).symm
  cases h1 : goodB ys with
  | true =>
    have e := srt_uniq hpc.symm (canon_srt l) hs ((goodB_iff ys).1 h1)
    rw [e, h1]
    exact ⟨rfl, rfl⟩
  | false =>
    cases h2 : goodB (canon l) with
    | false => exact ⟨rfl, rfl⟩
    | true =>
      have e := srt_uniq hpc hs (canon_srt l) ((goodB_iff _).1 h2)
      rw [e, h2] at h1
      cases h1

end Go.Proofs.YtkfgmkgbicahgaaDoor.H
