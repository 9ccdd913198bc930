/- Plain lists of numbers and the cells that hold them. Nothing of the program. -/
import Derived.Below
import Derived.Laws.OwnMore
import Derived.Laws.MakeOwn
namespace Go.Proofs.YtbdffmacpajebaaDoor
open Go.RowKit

def ci (l : List Int) : List Value := l.map (Value.int .i64)
theorem ci_length (l : List Int) : (ci l).length = l.length := by simp [ci]
theorem ci_get (l : List Int) (k : Nat) (x : Int) (h : l[k]? = some x) : (ci l)[k]? = some (.int .i64 x) := by simp [ci, h]
theorem ci_append (l m : List Int) : ci (l ++ m) = ci l ++ ci m := by simp [ci]
/-- The marks K, K+1, .. -/
def mki (n : Nat) (K : Int) : List Int := (List.range n).map fun (j : Nat) => K + (j : Int)
theorem mki_length (n : Nat) (K : Int) : (mki n K).length = n := by simp [mki]
theorem mki_get (n : Nat) (K : Int) (k : Nat) (h : k < n) : (mki n K)[k]? = some (K + k) := by simp [mki, h]
theorem mki_succ (n : Nat) (K : Int) : mki (n + 1) K = mki n K ++ [K + n] := by simp [mki, List.range_succ]
theorem mki_set (l : List Int) (K : Int) (k : Nat) (h : k < l.length) : (mki k K ++ l.drop k).set k (K + k) = mki (k + 1) K ++ l.drop (k + 1) := by
  rw [List.set_append_right _ _ (by rw [mki_length]; omega), mki_length, Nat.sub_self, List.drop_eq_getElem_cons h, List.set_cons_zero, mki_succ]
  simp

def RI (w : World) (A : Option Addr) (l : List Int) : Prop :=
  ∀ (k : Nat) (x : Int), l[k]? = some x → ∃ g o, A = some ⟨g, o, none⟩ ∧ g < w.heap.size ∧ w.cell? ⟨g, o + k, none⟩ = some (.int .i64 x)
theorem RI.below {w w' : World} {A : Option Addr} {l : List Int} (h : RI w A l) (hb : Below w.heap.size w w') : RI w' A l := by
  intro k x hx
  obtain ⟨g, o, hA, hg, h0⟩ := h k x hx
  exact ⟨g, o, hA, Nat.lt_of_lt_of_le hg hb.size, (hb.cell hg).trans h0⟩
def OwnI (w : World) (base t : Nat) (v : Value) (l : List Int) : Prop := w.ownsRow base t 1 v l.length (ci l)
theorem OwnI.form {w : World} {base t : Nat} {v : Value} {l : List Int} (h : OwnI w base t v l) : ∃ A c, v = .slice A l.length c ∧ RI w A l ∧ l.length ≤ c ∧ c ≤ maxLen ∧ (A = none → c = 0) ∧ ∀ ad, A = some ad → ∃ g, ad = ⟨g, 0, none⟩ ∧ base ≤ g := by
  rcases h.2 with ⟨rfl, hn⟩ | ⟨g, cap, cur, rfl, hg, hh, hnc, hm, hs, ht⟩
  · refine ⟨none, 0, by rw [hn], ?_, by omega, Nat.zero_le _, fun _ => rfl, fun ad h => by cases h⟩
    intro k x hx
    have := (List.getElem?_eq_some_iff.1 hx).1
    omega
  · refine ⟨_, _, rfl, ?_, hnc, hm, fun h => (by cases h), fun ad h => ⟨g, (by injection h with h; exact h.symm), hg⟩⟩
    intro k x hx
    have hk := (List.getElem?_eq_some_iff.1 hx).1
    have hlt : g < w.heap.size := by
      rcases Nat.lt_or_ge g w.heap.size with h' | h'
      · exact h'
      · rw [Array.getElem?_eq_none h'] at hh; cases hh
    exact ⟨g, 0, rfl, hlt, by rw [Nat.zero_add, h.cellAt _ (by omega)]; exact ci_get l k x hx⟩
theorem OwnI.ra {w : World} {base t n c : Nat} {A : Option Addr} {l : List Int} (h : OwnI w base t (.slice A n c) l) : RI w A l := by
  obtain ⟨A', c', e, hr, _⟩ := h.form
  injection e with e1 e2 e3
  subst e1
  exact hr
theorem OwnI.below {w w' : World} {base t B : Nat} {v : Value} {l : List Int} (h : OwnI w base t v l) (hb : Below B w w') (hB : w.heap.size ≤ B) : OwnI w' base t v l := by
  unfold OwnI at *
  exact h.kept (row := none) ⟨hb.os, hb.tape, hb.output, hb.size, fun k hk _ => hb.block k (by omega)⟩ (by cases h' : v.ownBlock <;> simp)
theorem OwnI.nil (w : World) (base t : Nat) : OwnI w base t (.slice none 0 0) [] := World.ownsRow_nil w base t 1
theorem OwnI.lt {w : World} {base t : Nat} {v : Value} {l : List Int} (h : OwnI w base t v l) : ∀ k, v.ownBlock = some k → base ≤ k ∧ k < w.heap.size := World.ownsRow.lt h
theorem OwnI.grown {w w' : World} {base t : Nat} {v : Value} {l : List Int} {row : Option Nat} (h : OwnI w base t v l) (hg : w.grownBy w' row) (hne : v.ownBlock = none ∨ v.ownBlock ≠ row) : OwnI w' base t v l :=
  World.ownsRow.kept h hg hne
theorem OwnI.mono {w : World} {base base' t : Nat} {v : Value} {l : List Int} (h : OwnI w base t v l) (hb : base' ≤ base) : OwnI w base' t v l :=
  ⟨h.1, h.2.imp id fun ⟨g, cap, cur, a, b, c⟩ => ⟨g, cap, cur, a, Nat.le_trans hb b, c⟩⟩

/-- n put into an increasing list, unless it is there. -/
def putL (n : Int) : List Int → List Int
  | [] => [n]
  | x :: r => if x < n then x :: putL n r else if x = n then x :: r else n :: x :: r
theorem putL_at (n : Int) (l : List Int) (k : Nat) (hk : k ≤ l.length) (hlt : ∀ i x, i < k → l[i]? = some x → x < n) (hge : ∀ x, l[k]? = some x → n ≤ x) :
    putL n l = l.take k ++ (if l[k]? = some n then l.drop k else n :: l.drop k) := by
  induction l generalizing k with
  | nil => simp at hk; subst hk; simp [putL]
  | cons y l ih =>
    cases k with
    | zero =>
      have := hge y rfl
      simp only [putL, List.take_zero, List.nil_append, List.drop_zero, List.getElem?_cons_zero, Option.some.injEq]
      rw [if_neg (by omega)]
    | succ k =>
      have h0 := hlt 0 y (by omega) rfl
      simp only [putL, if_pos h0, List.take_succ_cons, List.drop_succ_cons, List.getElem?_cons_succ, List.cons_append]
      rw [ih k (by simpa using hk) (fun i x hi hx => hlt (i + 1) x (by omega) (by simpa using hx)) (fun x hx => hge x (by simpa using hx))]
theorem putL_length (n : Int) (l : List Int) : (putL n l).length ≤ l.length + 1 := by
  induction l with
  | nil => simp [putL]
  | cons x l ih =>
    unfold putL
    split
    · simpa using ih
    · split <;> simp
end Go.Proofs.YtbdffmacpajebaaDoor
