/- Plain: layouts: the holes of notes, the notes of holes. Nothing of the program's text. -/
import Derived.Test.YtkfgmkgbicahgaaDoorSrtP
import Derived.Test.YtkfgmkgbicahgaaDoorHShP
import Derived.Test.YtkfgmkgbicahgaaDoorInsP
namespace Go.Proofs.YtkfgmkgbicahgaaDoor
set_option linter.unusedVariables false

/-- The hole of a note. -/
def holeN (P : List Int) (x : Nt) : Nt := (trk x.1 P, 2 * x.2.1, 2 * (x.2.1 + x.2.2) - 1)
/-- The note of a hole. -/
def noteOf (P : List Int) (h : Nt) : Nt := (P.getD h.1.toNat 0, h.2.1 / 2, (h.2.2 + 1) / 2 - h.2.1 / 2)
/-- A valid hole is that of a note. -/
def isOf (P : List Int) (h : Nt) : Bool := decide (h.1 < (P.length : Int)) && (decide (h.2.1 % 2 = 0) && (decide (h.2.2 % 2 = 1) && noteN (noteOf P h)))
theorem isOf_iff (P : List Int) (h : Nt) : isOf P h = true ↔ h.1 < (P.length : Int) ∧ h.2.1 % 2 = 0 ∧ h.2.2 % 2 = 1 ∧ noteN (noteOf P h) = true := by simp [isOf]

theorem trkF_get (p : Int) : ∀ (l : List Int) (k : Int), p ∈ l → l[(trkF p l k - k).toNat]? = some p
  | [], _, h => by cases h
  | x :: l, k, h => by
    unfold trkF
    by_cases hx : x = p
    · rw [if_pos hx, Int.sub_self]; simp [hx]
    · rw [if_neg hx]
      have hm : p ∈ l := by
        rcases List.mem_cons.1 h with h | h
        · exact absurd h.symm hx
        · exact h
      have ih := trkF_get p l (k + 1) hm
      have hge : k + 1 ≤ trkF p l (k + 1) := by
        have : ∀ (l : List Int) (k : Int), p ∈ l → k ≤ trkF p l k := by
          intro l
          induction l with
          | nil => intro k h; cases h
          | cons y l ih =>
            intro k h
            unfold trkF
            by_cases hy : y = p
            · rw [if_pos hy]; exact Int.le_refl _
            · rw [if_neg hy]
              rcases List.mem_cons.1 h with h | h
              · exact absurd h.symm hy
              · have := ih (k + 1) h; omega
        exact this l (k + 1) hm
      have e : (trkF p l (k + 1) - k).toNat = (trkF p l (k + 1) - (k + 1)).toNat + 1 := by omega
      rw [e, List.getElem?_cons_succ]
      exact ih
theorem trk_get {p : Int} {P : List Int} (h : p ∈ P) : P[(trk p P).toNat]? = some p ∧ 0 ≤ trk p P ∧ trk p P < P.length := by
  have h1 := trkF_get p P 0 h
  rw [Int.sub_zero] at h1
  have h2 := trk_lt p P
  have h3 : ¬ trk p P < 0 := fun h' => (trk_neg p P).1 h' h
  exact ⟨h1, by omega, h2.1⟩
theorem inc_get {P : List Int} (hi : P.Pairwise (fun a b : Int => a < b)) {i j : Nat} {a b : Int} (ha : P[i]? = some a) (hb : P[j]? = some b) : i < j ↔ a < b := by
  obtain ⟨hi1, rfl⟩ := List.getElem?_eq_some_iff.1 ha
  obtain ⟨hj1, rfl⟩ := List.getElem?_eq_some_iff.1 hb
  have hp := List.pairwise_iff_getElem.1 hi
  constructor
  · exact fun h => hp i j hi1 hj1 h
  · intro h
    rcases Nat.lt_trichotomy i j with h' | h' | h'
    · exact h'
    · subst h'; exact absurd h (Int.lt_irrefl _)
    · have := hp j i hj1 hi1 h'; omega
theorem trk_mono {P : List Int} (hi : P.Pairwise (fun a b : Int => a < b)) {a b : Int} (ha : a ∈ P) (hb : b ∈ P) : trk a P < trk b P ↔ a < b := by
  obtain ⟨a1, a2, a3⟩ := trk_get ha
  obtain ⟨b1, b2, b3⟩ := trk_get hb
  rw [← inc_get hi a1 b1]
  omega
theorem trk_inj {P : List Int} {a b : Int} (ha : a ∈ P) (hb : b ∈ P) (h : trk a P = trk b P) : a = b := by
  have h1 := (trk_get ha).1
  rw [h, (trk_get hb).1] at h1
  injection h1 with h1
  exact h1.symm

theorem Good.validN {l : List Nt} (h : Good l) (x : Nt) (hx : x ∈ l) : noteN x = true := by
  obtain ⟨i, hi⟩ := List.mem_iff_getElem?.1 hx
  exact (h.1 i x (List.getElem?_eq_some_iff.1 hi).1 hi).1

theorem holeN_srt {P : List Int} {m : List Nt} (hi : P.Pairwise (fun a b : Int => a < b)) (hm : ∀ x ∈ m, x.1 ∈ P) (hg : Good m) : Srt (m.map (holeN P)) := by
  unfold Srt
  rw [List.pairwise_map, List.pairwise_iff_getElem]
  intro i j hi' hj hij
  have hb := (befN_iff _ _).1 (hg.bef j i _ _ hij (List.getElem?_eq_getElem hi') (List.getElem?_eq_getElem hj))
  rw [befN_false]
  simp only [holeN]
  have h1 := hm _ (List.getElem_mem hi')
  have h2 := hm _ (List.getElem_mem hj)
  have h3 := trk_mono hi h1 h2
  omega
theorem holeN_apart {P : List Int} {m : List Nt} (hm : ∀ x ∈ m, x.1 ∈ P) (hg : Good m) : (m.map (holeN P)).Pairwise H.apart := by
  rw [List.pairwise_map, List.pairwise_iff_getElem]
  intro i j hi' hj hij h
  obtain ⟨h1, h2, h3⟩ := h
  simp only [holeN] at h1 h2 h3
  have e := trk_inj (hm _ (List.getElem_mem hi')) (hm _ (List.getElem_mem hj)) h1
  have hq := (hg.1 j _ hj (List.getElem?_eq_getElem hj)).2.2 i _ hij (List.getElem?_eq_getElem hi')
  have : meetN m[j] m[i] = true := by
    rw [meetN_iff]
    exact ⟨e.symm, by omega, by omega⟩
  rw [hq] at this
  cases this
/-- The holes of a score are a sheet, if each is a hole. -/
theorem lay_good {P : List Int} {m : List Nt} (hi : P.Pairwise (fun a b : Int => a < b)) (hm : ∀ x ∈ m, x.1 ∈ P) (hg : Good m) (hv : ∀ x ∈ m, H.noteN (holeN P x) = true) : H.Good (m.map (holeN P)) := by
  refine H.good_of_srt (holeN_srt hi hm hg) ?_ (holeN_apart hm hg) ?_
  · intro x hx
    obtain ⟨y, hy, rfl⟩ := List.mem_map.1 hx
    exact hv y hy
  · have := hg.2
    simp
    omega
/-- Put in order, moved holes of a score are what they are. -/
theorem lay_canon {P : List Int} {m : List Nt} (b : Int) (hi : P.Pairwise (fun a b : Int => a < b)) (hm : ∀ x ∈ m, x.1 ∈ P) (hg : Good m) :
    H.goodB (canon ((m.map (holeN P)).map (H.moveN b))) = H.goodB ((m.map (holeN P)).map (H.moveN b)) ∧ (if H.goodB (canon ((m.map (holeN P)).map (H.moveN b))) = true then canon ((m.map (holeN P)).map (H.moveN b)) else []) = (if H.goodB ((m.map (holeN P)).map (H.moveN b)) = true then ((m.map (holeN P)).map (H.moveN b)) else []) :=
  H.canon_same (H.moved_srt b (holeN_srt hi hm hg))
theorem move_zero (l : List Nt) : l.map (H.moveN 0) = l := by
  have : H.moveN 0 = id := by funext x; obtain ⟨a, b, c⟩ := x; simp [H.moveN]
  rw [this, List.map_id]

theorem getD_of {P : List Int} {i : Nat} (h : i < P.length) : P[i]? = some (P.getD i 0) := by
  rw [List.getElem?_eq_getElem h, List.getD_eq_getElem?_getD, List.getElem?_eq_getElem h]; rfl
/-- The notes of a sheet's holes are in order. -/
theorem noteOf_srt {P : List Int} {s : List Nt} (hi : P.Pairwise (fun a b : Int => a < b)) (hs : H.Good s) (ho : ∀ x ∈ s, isOf P x = true) : Srt (s.map (noteOf P)) := by
  unfold Srt
  have hb := hs.srt
  have hv : ∀ x ∈ s, _ := fun x hx => (H.noteN_iff x).1 (hs.valid x hx)
  rw [List.pairwise_map]
  rw [List.pairwise_iff_getElem]
  intro i j hi' hj hij
  have hbe := (befN_iff _ _).1 (hs.bef j i _ _ hij (List.getElem?_eq_getElem hi') (List.getElem?_eq_getElem hj))
  have v1 := hv _ (List.getElem_mem hi')
  have v2 := hv _ (List.getElem_mem hj)
  have o1 := (isOf_iff P _).1 (ho _ (List.getElem_mem hi'))
  have o2 := (isOf_iff P _).1 (ho _ (List.getElem_mem hj))
  rw [befN_false]
  simp only [noteOf]
  generalize s[i] = x at *
  generalize s[j] = y at *
  have g1 := getD_of (P := P) (i := x.1.toNat) (by omega)
  have g2 := getD_of (P := P) (i := y.1.toNat) (by omega)
  have g3 := inc_get hi g1 g2
  generalize P.getD x.1.toNat 0 = a at *
  generalize P.getD y.1.toNat 0 = b at *
  omega
/-- The hole of a hole's note is that hole, exactly if it is that of a note. -/
theorem holeN_noteOf {P : List Int} {h : Nt} (hi : P.Pairwise (fun a b : Int => a < b)) (hv : H.noteN h = true) (hl : h.1 < (P.length : Int)) :
    (holeN P (P.getD h.1.toNat 0, h.2.1 / 2, (h.2.2 - h.2.1 + 1) / 2) = h) ↔ (h.2.1 % 2 = 0 ∧ h.2.2 % 2 = 1) := by
  have v := (H.noteN_iff h).1 hv
  have g1 := getD_of (P := P) (i := h.1.toNat) (by omega)
  have hmem : P.getD h.1.toNat 0 ∈ P := List.mem_iff_getElem?.2 ⟨_, g1⟩
  have g2 := trk_get hmem
  have e : trk (P.getD h.1.toNat 0) P = h.1 := by
    have a := inc_get hi g1 g2.1
    have b := inc_get hi g2.1 g1
    have c : ¬ (P.getD h.1.toNat 0 < P.getD h.1.toNat 0) := Int.lt_irrefl _
    omega
  obtain ⟨t, f, u⟩ := h
  simp only [holeN, Prod.mk.injEq] at *
  rw [e]
  simp only [true_and]
  omega
theorem half_same {h : Nt} (h1 : h.2.1 % 2 = 0) (h2 : h.2.2 % 2 = 1) : (h.2.2 - h.2.1 + 1) / 2 = (h.2.2 + 1) / 2 - h.2.1 / 2 := by omega
end Go.Proofs.YtkfgmkgbicahgaaDoor
