/- Plain: notes in order; sorted lists of the same notes are one where one of them is a score. Nothing of the program's text. -/
import Derived.Test.YtkfgmkgbicahgaaDoorGood
namespace Go.Proofs.YtkfgmkgbicahgaaDoor
set_option linter.unusedVariables false

/-- No later note comes before an earlier one. -/
def Srt (l : List Nt) : Prop := l.Pairwise fun a b => befN b a = false
def leN (a b : Nt) : Bool := !befN b a
def canon (l : List Nt) : List Nt := l.mergeSort leN

theorem befN_irr (a : Nt) : befN a a = false := by
  cases h : befN a a with
  | false => rfl
  | true => have := (befN_iff a a).1 h; omega
theorem befN_asym {a b : Nt} (h : befN a b = true) : befN b a = false := by
  cases h2 : befN b a with
  | false => rfl
  | true => have h1 := (befN_iff a b).1 h; have h2 := (befN_iff b a).1 h2; omega
theorem befN_false (a b : Nt) : befN a b = false ↔ ¬ (a.2.1 < b.2.1 ∨ a.2.1 = b.2.1 ∧ a.1 < b.1) := by
  rw [← befN_iff]; simp
theorem befN_trans {a b c : Nt} (h1 : befN a b = true) (h2 : befN b c = true) : befN a c = true := by
  rw [befN_iff] at *; omega
theorem befN_ntrans {a b c : Nt} (h1 : befN a b = false) (h2 : befN b c = false) : befN a c = false := by
  rw [befN_false] at *; omega
theorem canon_srt (l : List Nt) : Srt (canon l) := by
  have := List.pairwise_mergeSort (le := leN) (by intro a b c h1 h2; simp [leN] at *; exact befN_ntrans h2 h1) (by
    intro a b
    simp only [leN, Bool.or_eq_true, Bool.not_eq_true']
    cases h : befN b a with
    | false => exact .inl rfl
    | true => exact .inr (befN_asym h)) l
  exact this.imp (by intro a b h; simpa [leN] using h)
theorem canon_perm (l : List Nt) : (canon l).Perm l := List.mergeSort_perm _ _
theorem canon_length (l : List Nt) : (canon l).length = l.length := (canon_perm l).length_eq

theorem Good.bef {l : List Nt} (h : Good l) : ∀ (j i : Nat) (x y : Nt), i < j → l[i]? = some x → l[j]? = some y → befN x y = true := by
  intro j
  induction j with
  | zero => intro i x y h; omega
  | succ j ih =>
    intro i x y hij hx hy
    have hj := (List.getElem?_eq_some_iff.1 hy).1
    have hm : l[j]? = some l[j] := List.getElem?_eq_getElem (by omega)
    have h1 := (h.1 (j + 1) y hj hy).2.1 _ (by omega) hm
    rcases Nat.lt_or_ge i j with h2 | h2
    · exact befN_trans (ih i x _ h2 hx hm) h1
    · obtain rfl : i = j := by omega
      rw [hm] at hx; injection hx with hx; subst hx
      exact h1

theorem srt_uniq {zs ys : List Nt} (hp : zs.Perm ys) (hz : Srt zs) (hy : Srt ys) (hg : Good ys) : zs = ys := by
  refine List.Perm.eq_of_pairwise ?_ hz hy hp
  intro a b ha hb h1 h2
  obtain ⟨i, hi⟩ := List.mem_iff_getElem?.1 (hp.mem_iff.1 ha)
  obtain ⟨j, hj⟩ := List.mem_iff_getElem?.1 hb
  rcases Nat.lt_trichotomy i j with h | h | h
  · have := hg.bef j i a b h hi hj; rw [h2] at this; cases this
  · subst h; rw [hi] at hj; injection hj
  · have := hg.bef i j b a h hj hi; rw [h1] at this; cases this

theorem canon_good {ys l : List Nt} (hp : ys.Perm l) (hs : Srt ys) : goodB ys = goodB (canon l) ∧ (if goodB ys = true then ys else []) = (if goodB (canon l) = true then canon l else []) := by
  have hpc : ys.Perm (canon l) := hp.trans (canon_perm l).symm
  cases h1 : goodB ys with
  | true =>
    have e := srt_uniq hpc.symm (canon_srt l) hs ((goodB_iff ys).1 h1)
    rw [e, h1]
    exact ⟨rfl, rfl⟩
  | false =>
    cases h2 : goodB (canon l) with
    | false => exact ⟨rfl, rfl⟩
    | true =>
      have e := srt_uniq hpc hs (canon_srt l) ((goodB_iff _).1 h2)
      rw [e, h2] at h1
      cases h1

/-- x put in at place k. -/
theorem srt_ins {ys : List Nt} {x : Nt} {k : Nat} (hs : Srt ys) (hk : k ≤ ys.length) (hge : ∀ (j : Nat) (y : Nt), k ≤ j → ys[j]? = some y → befN x y = true) (hlt : ∀ y, 0 < k → ys[k - 1]? = some y → befN x y = false) :
    Srt (ys.take k ++ [x] ++ ys.drop k) := by
  have hs' := hs
  unfold Srt at hs
  rw [← List.take_append_drop k ys, List.pairwise_append] at hs
  unfold Srt
  rw [List.append_assoc, List.pairwise_append]
  refine ⟨hs.1, ?_, ?_⟩
  · rw [List.singleton_append, List.pairwise_cons]
    refine ⟨fun b hb => ?_, hs.2.1⟩
    obtain ⟨j, hj⟩ := List.mem_iff_getElem?.1 hb
    rw [List.getElem?_drop] at hj
    exact befN_asym (hge _ b (by omega) hj)
  · intro a ha b hb
    have hxa : befN x a = false := by
      obtain ⟨i, hi⟩ := List.mem_iff_getElem?.1 ha
      rw [List.getElem?_take] at hi
      split at hi
      · rename_i hik
        have hm : ys[k - 1]? = some (ys[k - 1]'(by omega)) := List.getElem?_eq_getElem (by omega)
        have h1 := hlt _ (by omega) hm
        rcases Nat.lt_or_ge i (k - 1) with h | h
        · have hia := List.getElem?_eq_some_iff.1 hi
          have h2 := List.pairwise_iff_getElem.1 hs' i (k - 1) hia.1 (by omega) h
          rw [hia.2] at h2
          exact befN_ntrans h1 h2
        · obtain rfl : i = k - 1 := by omega
          rw [hm] at hi; injection hi with hi; subst hi
          exact h1
      · cases hi
    rcases List.mem_cons.1 (by simpa using hb) with rfl | hb
    · exact hxa
    · exact hs.2.2 a ha b hb
theorem ins_perm (ys : List Nt) (x : Nt) (k : Nat) : (ys.take k ++ [x] ++ ys.drop k).Perm (ys ++ [x]) := by
  have h1 : (ys.take k ++ ([x] ++ ys.drop k)).Perm (ys.take k ++ (ys.drop k ++ [x])) := List.Perm.append_left _ List.perm_append_comm
  rw [← List.append_assoc, ← List.append_assoc, List.take_append_drop] at h1
  exact h1
end Go.Proofs.YtkfgmkgbicahgaaDoor
