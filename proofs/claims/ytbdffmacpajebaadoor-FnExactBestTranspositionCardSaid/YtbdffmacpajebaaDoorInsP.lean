/- Plain: rising lists, an instrument's validity, the track of a pitch. Nothing of the program's text. -/
import Derived.Test.YtbdffmacpajebaaDoorSmall
import Derived.Test.YtbdffmacpajebaaDoorIntP
namespace Go.Proofs.YtbdffmacpajebaaDoor
open Go.RowKit

/-- Number k of a list is in a range and above the one before it. -/
def upAt (lo hi : Int) (l : List Int) (k : Nat) (x : Int) : Prop := inR x lo hi = true ∧ ∀ y, 0 < k → l[k - 1]? = some y → y < x
def UpTo (lo hi : Int) (l : List Int) (k : Nat) : Prop := ∀ i x, i < k → l[i]? = some x → upAt lo hi l i x
def upB (lo hi : Int) (l : List Int) (k : Nat) : Bool :=
  match l[k]? with
  | none => true
  | some x => inR x lo hi && (decide (k = 0) || (match l[k - 1]? with | some y => decide (y < x) | none => true))
def riseB (lo hi : Int) (l : List Int) : Bool := (List.range l.length).all (upB lo hi l)

theorem upB_iff {lo hi : Int} {l : List Int} {k : Nat} {x : Int} (hx : l[k]? = some x) : upB lo hi l k = true ↔ upAt lo hi l k x := by
  have hk := (List.getElem?_eq_some_iff.1 hx).1
  unfold upB upAt
  rw [hx]
  simp only [Bool.and_eq_true, Bool.or_eq_true, decide_eq_true_eq]
  refine and_congr Iff.rfl ⟨?_, ?_⟩
  · intro h y h0 hy
    rcases h with h | h
    · omega
    · rw [hy] at h; exact of_decide_eq_true h
  · intro h
    rcases Nat.eq_zero_or_pos k with h0 | h0
    · exact .inl h0
    · right
      have hy : l[k - 1]? = some l[k - 1] := List.getElem?_eq_getElem (by omega)
      rw [hy]
      exact decide_eq_true (h _ h0 hy)
theorem riseB_iff (lo hi : Int) (l : List Int) : riseB lo hi l = true ↔ UpTo lo hi l l.length := by
  unfold riseB
  rw [List.all_eq_true]
  constructor
  · intro h i x hi hx
    exact (upB_iff hx).1 (h i (List.mem_range.2 hi))
  · intro h i hi
    have hi := List.mem_range.1 hi
    exact (upB_iff (List.getElem?_eq_getElem hi)).2 (h i _ hi (List.getElem?_eq_getElem hi))
theorem UpTo.zero (lo hi : Int) (l : List Int) : UpTo lo hi l 0 := fun _ _ h => absurd h (by omega)
theorem UpTo.succ {lo hi : Int} {l : List Int} {k : Nat} {x : Int} (h : UpTo lo hi l k) (hx : l[k]? = some x) (ho : upAt lo hi l k x) : UpTo lo hi l (k + 1) := by
  intro i y hi hy
  rcases Nat.lt_or_ge i k with hik | hik
  · exact h i y hik hy
  · obtain rfl : i = k := by omega
    rw [hx] at hy; injection hy with hy; subst hy; exact ho
theorem riseB_not {lo hi : Int} {l : List Int} {k : Nat} {x : Int} (hx : l[k]? = some x) (ho : ¬ upAt lo hi l k x) : riseB lo hi l = false := by
  cases hb : riseB lo hi l with
  | false => rfl
  | true => exact absurd ((riseB_iff lo hi l).1 hb k x (List.getElem?_eq_some_iff.1 hx).1 hx) ho

/-- An instrument is valid. -/
def gdI (P : List Int) (r : Int) : Bool := inR P.length 1 20 && (riseB 24 96 P && inR r 1 20)
theorem gdI_iff (P : List Int) (r : Int) : gdI P r = true ↔ (1 ≤ P.length ∧ P.length ≤ 20) ∧ UpTo 24 96 P P.length ∧ 1 ≤ r ∧ r ≤ 20 := by
  unfold gdI
  rw [Bool.and_eq_true, Bool.and_eq_true, riseB_iff]
  simp [inR]
  omega
theorem UpTo.range {lo hi : Int} {l : List Int} (h : UpTo lo hi l l.length) {x : Int} (hx : x ∈ l) : lo ≤ x ∧ x ≤ hi := by
  obtain ⟨i, hi⟩ := List.mem_iff_getElem?.1 hx
  have := (h i x (List.getElem?_eq_some_iff.1 hi).1 hi).1
  simpa [inR] using this
/-- A list that rises is strictly increasing throughout. -/
theorem UpTo.inc {lo hi : Int} : ∀ {l : List Int}, UpTo lo hi l l.length → l.Pairwise (fun a b : Int => a < b) := by
  intro l h
  have key : ∀ (i j : Nat) (x y : Int), i < j → l[i]? = some x → l[j]? = some y → x < y := by
    intro i j x y hij
    induction j generalizing y with
    | zero => omega
    | succ j ih =>
      intro hx hy
      have hl := (List.getElem?_eq_some_iff.1 hy).1
      have hz : l[j]? = some l[j] := List.getElem?_eq_getElem (by omega)
      have h1 := (h (j + 1) y hl hy).2 l[j] (by omega) (by simp)
      rcases Nat.lt_or_ge i j with hlt | hge
      · have := ih _ hlt hx hz; omega
      · obtain rfl : i = j := by omega
        rw [hz] at hx; injection hx with hx; omega
  rw [List.pairwise_iff_getElem]
  intro i j hi hj hij
  exact key i j _ _ hij (List.getElem?_eq_getElem hi) (List.getElem?_eq_getElem hj)
theorem upTo_of_inc {lo hi : Int} {l : List Int} (h : l.Pairwise (fun a b : Int => a < b)) (hr : ∀ x ∈ l, lo ≤ x ∧ x ≤ hi) : UpTo lo hi l l.length := by
  intro i x hi hx
  obtain ⟨hi', e⟩ := List.getElem?_eq_some_iff.1 hx
  refine ⟨?_, fun y h0 hy => ?_⟩
  · have := hr x (List.mem_of_getElem? hx); simp [inR]; omega
  · obtain ⟨hi2, e2⟩ := List.getElem?_eq_some_iff.1 hy
    have := List.pairwise_iff_getElem.1 h (i - 1) i (by omega) hi' (by omega)
    rw [← e, ← e2]; exact this

/-- The place of the first p in a list whose first place is k, or -1. -/
def trkF (p : Int) : List Int → Int → Int
  | [], _ => -1
  | x :: r, k => if x = p then k else trkF p r (k + 1)
def trk (p : Int) (l : List Int) : Int := trkF p l 0
def hasB (l : List Int) (p : Int) : Bool := decide (p ∈ l)
theorem trkF_drop (p : Int) (l : List Int) (k : Nat) (x : Int) (hx : l[k]? = some x) : trkF p (l.drop k) k = if x = p then (k : Int) else trkF p (l.drop (k + 1)) ((k + 1 : Nat) : Int) := by
  obtain ⟨h, e⟩ := List.getElem?_eq_some_iff.1 hx
  rw [List.drop_eq_getElem_cons h, e, trkF]
  simp
theorem trkF_spec (p : Int) (l : List Int) (k : Int) (hk : 0 ≤ k) : (p ∈ l ∧ k ≤ trkF p l k ∧ trkF p l k < k + l.length) ∨ (p ∉ l ∧ trkF p l k = -1) := by
  induction l generalizing k with
  | nil => right; simp [trkF]
  | cons x l ih =>
    unfold trkF
    by_cases hx : x = p
    · left; rw [if_pos hx]; subst hx; simp; omega
    · rw [if_neg hx]
      rcases ih (k + 1) (by omega) with ⟨a, b, c⟩ | ⟨a, b⟩
      · left; refine ⟨.tail _ a, by omega, by simp; omega⟩
      · right; refine ⟨fun h => ?_, b⟩
        rcases List.mem_cons.1 h with h | h
        · exact hx h.symm
        · exact a h
theorem trk_neg (p : Int) (l : List Int) : trk p l < 0 ↔ p ∉ l := by
  rcases trkF_spec p l 0 (by omega) with ⟨a, b, c⟩ | ⟨a, b⟩
  · unfold trk; simp [a]; omega
  · unfold trk; simp [a, b]
theorem hasB_iff (l : List Int) (p : Int) : hasB l p = true ↔ p ∈ l := by simp [hasB]
theorem hasB_trk (l : List Int) (p : Int) : hasB l p = decide (0 ≤ trk p l) := by
  have := trk_neg p l
  rw [Bool.eq_iff_iff, hasB_iff, decide_eq_true_eq]
  by_cases h : p ∈ l
  · simp [h] at this ⊢; omega
  · simp [h] at this ⊢; omega
theorem trk_lt (p : Int) (l : List Int) : trk p l < l.length ∧ -1 ≤ trk p l := by
  rcases trkF_spec p l 0 (by omega) with ⟨a, b, c⟩ | ⟨a, b⟩
  · unfold trk; omega
  · unfold trk; rw [b]; omega
end Go.Proofs.YtbdffmacpajebaaDoor
