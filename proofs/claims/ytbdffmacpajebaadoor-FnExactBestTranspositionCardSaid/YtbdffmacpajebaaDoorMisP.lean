/- Plain: the pitches of chosen notes, put one after another, are those collected, sorted and made single. Nothing of the program's text. -/
import Derived.Test.YtbdffmacpajebaaDoorInsP
import Derived.Test.YtbdffmacpajebaaDoorPutP
import Derived.Test.YtbdffmacpajebaaDoorPlain
import Derived.Lib.SlicesCompact
namespace Go.Proofs.YtbdffmacpajebaaDoor
open Go.RowKit

def putF (f : Nt → Bool) (acc : List Int) (x : Nt) : List Int := if f x = true then putL x.1 acc else acc
/-- The model's way: put one after another. -/
def atF (f : Nt → Bool) (l : List Nt) : List Int := l.foldl (putF f) []
/-- The program's way: all of them, in the score's order. -/
def psF (f : Nt → Bool) : List Nt → List Int
  | [] => []
  | x :: l => if f x = true then x.1 :: psF f l else psF f l
theorem psF_append (f : Nt → Bool) (l m : List Nt) : psF f (l ++ m) = psF f l ++ psF f m := by
  induction l with
  | nil => rfl
  | cons x l ih => simp only [List.cons_append, psF, ih]; split <;> rfl
theorem psF_snoc (f : Nt → Bool) (l : List Nt) (k : Nat) (x : Nt) (h : l[k]? = some x) : psF f (l.take (k + 1)) = psF f (l.take k) ++ (if f x = true then [x.1] else []) := by
  rw [List.take_add_one, h, psF_append]
  simp only [Option.toList, psF]
theorem psF_length (f : Nt → Bool) (l : List Nt) : (psF f l).length ≤ l.length := by
  induction l with
  | nil => simp [psF]
  | cons x l ih => simp only [psF]; split <;> simp <;> omega
theorem atF_snoc (f : Nt → Bool) (l : List Nt) (k : Nat) (x : Nt) (h : l[k]? = some x) : atF f (l.take (k + 1)) = if f x = true then putL x.1 (atF f (l.take k)) else atF f (l.take k) := by
  unfold atF
  rw [List.take_add_one, h, List.foldl_append]
  rfl
theorem atF_inc (f : Nt → Bool) (l : List Nt) : ∀ k, k ≤ l.length → Inc (atF f (l.take k)) := by
  intro k
  induction k with
  | zero => intro _; simp [atF, Inc]
  | succ k ih =>
    intro hk
    have hx : l[k]? = some l[k] := List.getElem?_eq_getElem (by omega)
    rw [atF_snoc f l k _ hx]
    split
    · exact putL_inc _ _ (ih (by omega))
    · exact ih (by omega)
theorem atF_length (f : Nt → Bool) (l : List Nt) : ∀ k, k ≤ l.length → (atF f (l.take k)).length ≤ k := by
  intro k
  induction k with
  | zero => intro _; simp [atF]
  | succ k ih =>
    intro hk
    have hx : l[k]? = some l[k] := List.getElem?_eq_getElem (by omega)
    rw [atF_snoc f l k _ hx]
    have := ih (by omega)
    split
    · have := putL_length (l[k]).1 (atF f (l.take k)); omega
    · omega
theorem mem_atF (f : Nt → Bool) (l : List Nt) (y : Int) : ∀ k, k ≤ l.length → (y ∈ atF f (l.take k) ↔ y ∈ psF f (l.take k)) := by
  intro k
  induction k with
  | zero => intro _; simp [atF, psF]
  | succ k ih =>
    intro hk
    have hx : l[k]? = some l[k] := List.getElem?_eq_getElem (by omega)
    rw [atF_snoc f l k _ hx, psF_snoc f l k _ hx]
    have ih := ih (by omega)
    split
    · rw [mem_putL, ih]; simp only [List.mem_append, List.mem_singleton]; exact or_comm
    · simpa using ih

theorem compactUpTo_sorted (zs : List Int) (h : zs.Pairwise (· ≤ ·)) : ∀ m, m ≤ zs.length → (Lib.compactUpTo zs.toArray m).Pairwise (· < ·) ∧ ∀ y, y ∈ Lib.compactUpTo zs.toArray m ↔ y ∈ zs.take m := by
  intro m
  induction m with
  | zero => intro _; simp [Lib.compactUpTo]
  | succ m ih =>
    intro hm
    obtain ⟨a, b⟩ := ih (by omega)
    have hmz : m < zs.length := by omega
    have hget : ∀ j, j < zs.length → zs.toArray[j]! = zs[j]! := fun j hj => by simp
    have hm1 : zs.toArray[m]! = zs[m] := by rw [hget m hmz, getElem!_pos zs m hmz]
    rw [Lib.compactUpTo_succ, hm1]
    have htake : zs.take (m + 1) = zs.take m ++ [zs[m]] := by rw [List.take_add_one, List.getElem?_eq_getElem hmz]; rfl
    rw [htake]
    cases hk : Lib.keeps zs.toArray m with
    | true =>
      rw [if_pos rfl]
      have hlt : ∀ y, y ∈ zs.take m → y < zs[m] := by
        intro y hy
        obtain ⟨j, hj⟩ := List.mem_iff_getElem?.1 hy
        rw [List.getElem?_take] at hj
        split at hj
        · rename_i hjm
          obtain ⟨hjl, e⟩ := List.getElem?_eq_some_iff.1 hj
          have hm0 : m ≠ 0 := by omega
          simp only [Lib.keeps, decide_eq_true_eq] at hk
          have hne : zs[m] ≠ zs[m - 1] := by
            rcases hk with hk | hk
            · exact absurd hk hm0
            · rw [hm1, hget (m - 1) (by omega), getElem!_pos zs (m - 1) (by omega)] at hk
              exact hk
          have h1 : zs[m - 1] ≤ zs[m] := List.pairwise_iff_getElem.1 h (m - 1) m (by omega) hmz (by omega)
          have h2 : zs[j] ≤ zs[m - 1] := by
            rcases Nat.lt_or_ge j (m - 1) with hlt | hge
            · exact List.pairwise_iff_getElem.1 h j (m - 1) hjl (by omega) hlt
            · have : j = m - 1 := by omega
              subst this; exact Int.le_refl _
          rw [← e]; omega
        · cases hj
      refine ⟨?_, fun y => ?_⟩
      · rw [List.pairwise_append]
        refine ⟨a, by simp, fun x hx y hy => ?_⟩
        simp only [List.mem_singleton] at hy
        subst hy
        exact hlt x ((b x).1 hx)
      · rw [List.mem_append, List.mem_append, b y]
    | false =>
      refine ⟨by simpa using a, fun y => ?_⟩
      have hmem : zs[m] ∈ zs.take m := by
        simp only [Lib.keeps, decide_eq_false_iff_not, not_or, Decidable.not_not] at hk
        obtain ⟨hm0, he⟩ := hk
        rw [hm1, hget (m - 1) (by omega), getElem!_pos zs (m - 1) (by omega)] at he
        rw [he, List.mem_iff_getElem?]
        exact ⟨m - 1, by rw [List.getElem?_take, if_pos (by omega), List.getElem?_eq_getElem]⟩
      simp only [Bool.false_eq_true, if_false, List.append_nil, List.mem_append, List.mem_singleton, b y]
      constructor
      · exact .inl
      · rintro (h | h)
        · exact h
        · rw [h]; exact hmem
theorem inc_ext {a b : List Int} (ha : a.Pairwise (· < ·)) (hb : b.Pairwise (· < ·)) (h : ∀ y, y ∈ a ↔ y ∈ b) : a = b := by
  have hp : a.Perm b := (List.perm_ext_iff_of_nodup (ha.imp (fun h => by omega)) (hb.imp (fun h => by omega))).2 h
  exact hp.eq_of_pairwise (fun x y _ _ h1 h2 => by omega) (ha.imp fun h => Int.le_of_lt h) (hb.imp fun h => Int.le_of_lt h)
theorem inc_lt : ∀ {l : List Int}, Inc l → l.Pairwise (· < ·)
  | [], _ => List.Pairwise.nil
  | _ :: _, h => List.Pairwise.cons h.1 (inc_lt h.2)
theorem inc_of_lt : ∀ {l : List Int}, l.Pairwise (· < ·) → Inc l
  | [], _ => trivial
  | _ :: _, h => ⟨(List.pairwise_cons.1 h).1, inc_of_lt (List.pairwise_cons.1 h).2⟩
/-- Sorted and made single: as put one after another. -/
theorem compact_atF (f : Nt → Bool) (l : List Nt) : Lib.compact ((psF f l).mergeSort fun x y => decide (x ≤ y)) = atF f l := by
  have hs : ((psF f l).mergeSort fun x y => decide (x ≤ y)).Pairwise (· ≤ ·) := by
    have := List.pairwise_mergeSort (le := fun (x y : Int) => decide (x ≤ y)) (fun a b c => by simp; omega) (fun a b => by simp; omega) (psF f l)
    exact this.imp fun h => by simpa using h
  obtain ⟨a, b⟩ := compactUpTo_sorted _ hs _ (Nat.le_refl _)
  have hi := atF_inc f l l.length (Nat.le_refl _)
  rw [List.take_length] at hi
  refine inc_ext a (inc_lt hi) fun y => ?_
  have hm := mem_atF f l y l.length (Nat.le_refl _)
  rw [List.take_length] at hm
  rw [hm]
  rw [List.take_length] at b
  exact (b y).trans (List.mergeSort_perm _ _).mem_iff
end Go.Proofs.YtbdffmacpajebaaDoor
