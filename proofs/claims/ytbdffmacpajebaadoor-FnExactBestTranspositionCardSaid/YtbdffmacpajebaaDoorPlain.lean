/- Plain lists of notes and the cells that hold them. Nothing of the program. -/
import Derived.Below
import Derived.Laws.OwnMore
import Derived.Laws.MakeOwn
namespace Go.Proofs.YtbdffmacpajebaaDoor
open Go.RowKit

/-- A note as plain numbers: pitch, start, length. -/
abbrev Nt := Int × Int × Int
def nc (x : Nt) : List Value := [.int .i64 x.1, .int .i64 x.2.1, .int .i64 x.2.2]
/-- The cells of notes, three for each. -/
def cl (l : List Nt) : List Value := l.flatMap nc
theorem cl_nil : cl [] = [] := rfl
theorem cl_cons (x : Nt) (l : List Nt) : cl (x :: l) = .int .i64 x.1 :: .int .i64 x.2.1 :: .int .i64 x.2.2 :: cl l := rfl
theorem cl_append (l m : List Nt) : cl (l ++ m) = cl l ++ cl m := by simp [cl, List.flatMap_append]
theorem cl_length (l : List Nt) : (cl l).length = l.length * 3 := by
  induction l with
  | nil => rfl
  | cons x l ih => rw [cl_cons]; simp [ih]; omega

theorem cl_get (l : List Nt) (k : Nat) (x : Nt) (h : l[k]? = some x) :
    (cl l)[k * 3]? = some (.int .i64 x.1) ∧ (cl l)[k * 3 + 1]? = some (.int .i64 x.2.1) ∧ (cl l)[k * 3 + 2]? = some (.int .i64 x.2.2) := by
  induction l generalizing k with
  | nil => simp at h
  | cons y l ih =>
    rw [cl_cons]
    cases k with
    | zero => simp at h; subst h; simp
    | succ k =>
      have h' : l[k]? = some x := by simpa using h
      obtain ⟨a, b, c⟩ := ih k h'
      rw [show (k + 1) * 3 = k * 3 + 1 + 1 + 1 from by omega, show k * 3 + 1 + 1 + 1 + 1 = (k * 3 + 1) + 1 + 1 + 1 from by omega, show k * 3 + 1 + 1 + 1 + 2 = (k * 3 + 2) + 1 + 1 + 1 from by omega]
      simp only [List.getElem?_cons_succ]
      exact ⟨a, b, c⟩

theorem cl_set (l : List Nt) (k : Nat) (x : Nt) (h : k < l.length) :
    (((cl l).set (k * 3) (.int .i64 x.1)).set (k * 3 + 1) (.int .i64 x.2.1)).set (k * 3 + 2) (.int .i64 x.2.2) = cl (l.set k x) := by
  induction l generalizing k with
  | nil => simp at h
  | cons y l ih =>
    cases k with
    | zero => simp [cl_cons]
    | succ k =>
      have h' : k < l.length := by simpa using h
      rw [List.set_cons_succ, cl_cons, cl_cons]
      rw [show (k + 1) * 3 = k * 3 + 1 + 1 + 1 from by omega, show k * 3 + 1 + 1 + 1 + 1 = (k * 3 + 1) + 1 + 1 + 1 from by omega, show k * 3 + 1 + 1 + 1 + 2 = (k * 3 + 2) + 1 + 1 + 1 from by omega]
      simp only [List.set_cons_succ]
      rw [ih k h']

theorem cl_inj : ∀ {l m : List Nt}, cl l = cl m → l = m
  | [], [], _ => rfl
  | [], y :: m, h => by simp [cl_nil, cl_cons] at h
  | x :: l, [], h => by simp [cl_nil, cl_cons] at h
  | x :: l, y :: m, h => by
    simp only [cl_cons, List.cons.injEq, Value.int.injEq, true_and] at h
    obtain ⟨a, b, c, d⟩ := h
    rw [cl_inj d, Prod.ext_iff.2 ⟨a, Prod.ext_iff.2 ⟨b, c⟩⟩]

/-- The marks K, K+1, .. in n notes. -/
def mk : Nat → Int → List Nt
  | 0, _ => []
  | n + 1, K => (K, K + 1, K + 2) :: mk n (K + 3)
theorem mk_length (n : Nat) (K : Int) : (mk n K).length = n := by
  induction n generalizing K with
  | zero => rfl
  | succ n ih => simp [mk, ih]
theorem mk_snoc (n : Nat) (K : Int) : mk (n + 1) K = mk n K ++ [(K + 3 * n, K + 3 * n + 1, K + 3 * n + 2)] := by
  induction n generalizing K with
  | zero => simp [mk]
  | succ n ih =>
    rw [mk, ih (K + 3), mk, List.cons_append]
    congr 2
    simp only [List.cons.injEq, and_true, Prod.mk.injEq]
    omega
theorem mk_get (n : Nat) (K : Int) (k : Nat) (h : k < n) : (mk n K)[k]? = some (K + 3 * k, K + 3 * k + 1, K + 3 * k + 2) := by
  induction n generalizing K k with
  | zero => omega
  | succ n ih =>
    cases k with
    | zero => simp [mk]
    | succ k =>
      simp only [mk, List.getElem?_cons_succ]
      rw [ih (K + 3) k (by omega)]
      simp only [Option.some.injEq, Prod.mk.injEq]
      omega

theorem take_set (l m : List Nt) (k : Nat) (x : Nt) (h : l[k]? = some x) (hm : k < m.length) : (l.take k ++ m.drop k).set k x = l.take (k + 1) ++ m.drop (k + 1) := by
  have hk : k < l.length := (List.getElem?_eq_some_iff.1 h).1
  rw [List.set_append_right _ _ (by simp; omega), List.length_take, Nat.min_eq_left (by omega), Nat.sub_self, List.drop_eq_getElem_cons hm, List.set_cons_zero, List.take_add_one, h]
  simp

theorem mk_set (l : List Nt) (K : Int) (k : Nat) (h : k < l.length) : (mk k K ++ l.drop k).set k (K + 3 * k, K + 3 * k + 1, K + 3 * k + 2) = mk (k + 1) K ++ l.drop (k + 1) := by
  rw [List.set_append_right _ _ (by rw [mk_length]; omega), mk_length, Nat.sub_self, List.drop_eq_getElem_cons h, List.set_cons_zero, mk_snoc]
  simp

/-- What a slice with the address A holds, read in a world: notes l, three cells each. -/
def RA (w : World) (A : Option Addr) (l : List Nt) : Prop :=
  ∀ (k : Nat) (x : Nt), l[k]? = some x → ∃ g o, A = some ⟨g, o, none⟩ ∧ g < w.heap.size ∧
    w.cell? ⟨g, o + k * 3, none⟩ = some (.int .i64 x.1) ∧ w.cell? ⟨g, o + k * 3 + 1, none⟩ = some (.int .i64 x.2.1) ∧ w.cell? ⟨g, o + k * 3 + 2, none⟩ = some (.int .i64 x.2.2)

theorem RA.below {w w' : World} {A : Option Addr} {l : List Nt} (h : RA w A l) (hb : Below w.heap.size w w') : RA w' A l := by
  intro k x hx
  obtain ⟨g, o, hA, hg, h0, h1, h2⟩ := h k x hx
  exact ⟨g, o, hA, Nat.lt_of_lt_of_le hg hb.size, (hb.cell hg).trans h0, (hb.cell hg).trans h1, (hb.cell hg).trans h2⟩
theorem RA.drew {w : World} {A : Option Addr} {l : List Nt} (h : RA w A l) : RA w.drew A l := h
theorem RA.alloc {w : World} {A : Option Addr} {l : List Nt} (h : RA w A l) (o : Obj) : RA (w.alloc o) A l := h.below ((Below.refl _ _).alloc (Nat.le_refl _) o)

/-- A slice of the call's own that holds notes. -/
def Own (w : World) (base t : Nat) (v : Value) (l : List Nt) : Prop := w.ownsRow base t 3 v l.length (cl l)

theorem Own.form {w : World} {base t : Nat} {v : Value} {l : List Nt} (h : Own w base t v l) : ∃ A c, v = .slice A l.length c ∧ RA w A l := by
  rcases h.2 with ⟨rfl, hn⟩ | ⟨g, cap, cur, rfl, hg, hh, hnc, hm, hs, ht⟩
  · refine ⟨none, 0, by rw [hn], ?_⟩
    intro k x hx
    have := (List.getElem?_eq_some_iff.1 hx).1
    omega
  · refine ⟨_, _, rfl, ?_⟩
    intro k x hx
    have hk := (List.getElem?_eq_some_iff.1 hx).1
    obtain ⟨a, b, c⟩ := cl_get l k x hx
    have hlt : g < w.heap.size := by
      rcases Nat.lt_or_ge g w.heap.size with h' | h'
      · exact h'
      · rw [Array.getElem?_eq_none h'] at hh; cases hh
    refine ⟨g, 0, rfl, hlt, ?_, ?_, ?_⟩
    · rw [Nat.zero_add, h.cellAt _ (by omega)]; exact a
    · rw [Nat.zero_add, h.cellAt _ (by omega)]; exact b
    · rw [Nat.zero_add, h.cellAt _ (by omega)]; exact c

theorem Own.form' {w : World} {base t : Nat} {v : Value} {l : List Nt} (h : Own w base t v l) : ∃ A c, v = .slice A l.length c ∧ RA w A l ∧ l.length ≤ c ∧ c ≤ maxLen := by
  have h0 := h
  rcases h.2 with ⟨rfl, hn⟩ | ⟨g, cap, cur, rfl, hg, hh, hnc, hm, hs, ht⟩
  · obtain ⟨A, c, e, hr⟩ := h0.form
    injection e with e1 e2 e3
    subst e1 e3
    exact ⟨none, 0, by rw [hn], hr, by omega, Nat.zero_le _⟩
  · obtain ⟨A, c, e, hr⟩ := h0.form
    injection e with e1 e2 e3
    subst e1 e3
    exact ⟨_, _, rfl, hr, hnc, hm⟩

theorem Own.ra {w : World} {base t n c : Nat} {A : Option Addr} {l : List Nt} (h : Own w base t (.slice A n c) l) : RA w A l := by
  obtain ⟨A', c', e, hr⟩ := h.form
  injection e with e1 e2 e3
  subst e1
  exact hr

theorem Own.below {w w' : World} {base t B : Nat} {v : Value} {l : List Nt} (h : Own w base t v l) (hb : Below B w w') (hB : w.heap.size ≤ B) : Own w' base t v l := by
  unfold Own at *
  exact h.kept (row := none) ⟨hb.os, hb.tape, hb.output, hb.size, fun k hk _ => hb.block k (by omega)⟩ (by cases h' : v.ownBlock <;> simp)
theorem Own.nil (w : World) (base t : Nat) : Own w base t (.slice none 0 0) [] := World.ownsRow_nil w base t 3
theorem Own.lt {w : World} {base t : Nat} {v : Value} {l : List Nt} (h : Own w base t v l) : ∀ k, v.ownBlock = some k → base ≤ k ∧ k < w.heap.size := World.ownsRow.lt h
theorem Own.grown {w w' : World} {base t : Nat} {v : Value} {l : List Nt} {row : Option Nat} (h : Own w base t v l) (hg : w.grownBy w' row) (hne : v.ownBlock = none ∨ v.ownBlock ≠ row) : Own w' base t v l :=
  World.ownsRow.kept h hg hne

theorem made_cl (n : Nat) : (madeCells #[.int .i64 0, .int .i64 0, .int .i64 0] (n * 3)).toList = cl (List.replicate n (0, 0, 0)) := by
  apply List.ext_getElem?
  intro i
  by_cases hi : i < n * 3
  · have hk : (List.replicate n ((0, 0, 0) : Nt))[i / 3]? = some (0, 0, 0) := by rw [List.getElem?_replicate, if_pos (by omega)]
    obtain ⟨a, b, c⟩ := cl_get _ _ _ hk
    have hl : (madeCells #[Value.int .i64 0, .int .i64 0, .int .i64 0] (n * 3)).toList[i]? = some (.int .i64 0) := by
      simp [madeCells, hi]
      have : i % 3 = 0 ∨ i % 3 = 1 ∨ i % 3 = 2 := by omega
      rcases this with h | h | h <;> rw [h] <;> rfl
    rw [hl]
    have : i = i / 3 * 3 ∨ i = i / 3 * 3 + 1 ∨ i = i / 3 * 3 + 2 := by omega
    rcases this with h | h | h
    · rw [h, a]
    · rw [h, b]
    · rw [h, c]
  · rw [List.getElem?_eq_none (by simp [size_madeCells]; omega), List.getElem?_eq_none (by rw [cl_length]; simp; omega)]

end Go.Proofs.YtbdffmacpajebaaDoor
