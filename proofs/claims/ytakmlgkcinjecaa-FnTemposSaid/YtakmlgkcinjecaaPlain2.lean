/- Plain lists of rows of 2 numbers and the cells that hold them. Nothing of the program. -/
import Derived.Below
import Derived.Laws.OwnMore
import Derived.Laws.MakeOwn
namespace Go.Proofs.Ytakmlgkcinjecaa
open Go.RowKit

/-- A row of plain numbers. -/
abbrev Nt2 := Int × Int
def nc2 (x : Nt2) : List Value := [.int .i64 x.1, .int .i64 x.2]
def cl2 (l : List Nt2) : List Value := l.flatMap nc2
theorem cl2_nil : cl2 [] = [] := rfl
theorem cl2_cons (x : Nt2) (l : List Nt2) : cl2 (x :: l) = .int .i64 x.1 :: .int .i64 x.2 :: cl2 l := rfl
theorem cl2_append (l m : List Nt2) : cl2 (l ++ m) = cl2 l ++ cl2 m := by simp [cl2, List.flatMap_append]
theorem cl2_length (l : List Nt2) : (cl2 l).length = l.length * 2 := by
  induction l with
  | nil => rfl
  | cons x l ih => rw [cl2_cons]; simp [ih]; omega

theorem cl2_get (l : List Nt2) (k : Nat) (x : Nt2) (h : l[k]? = some x) :
    (cl2 l)[k * 2]? = some (.int .i64 x.1) ∧ (cl2 l)[k * 2 + 1]? = some (.int .i64 x.2) := by
  induction l generalizing k with
  | nil => simp at h
  | cons y l ih =>
    rw [cl2_cons]
    cases k with
    | zero => simp at h; subst h; simp
    | succ k =>
      have h' : l[k]? = some x := by simpa using h
      obtain ⟨h0, h1⟩ := ih k h'
      rw [show (k + 1) * 2 = k * 2 + 1 + 1 from by omega, show k * 2 + 1 + 1 + 1 = (k * 2 + 1) + 1 + 1 from by omega]
      simp only [List.getElem?_cons_succ]
      exact ⟨h0, h1⟩

theorem cl2_set (l : List Nt2) (k : Nat) (x : Nt2) (h : k < l.length) :
    ((cl2 l).set (k * 2) (.int .i64 x.1)).set (k * 2 + 1) (.int .i64 x.2) = cl2 (l.set k x) := by
  induction l generalizing k with
  | nil => simp at h
  | cons y l ih =>
    cases k with
    | zero => simp [cl2_cons]
    | succ k =>
      have h' : k < l.length := by simpa using h
      rw [List.set_cons_succ, cl2_cons, cl2_cons]
      rw [show (k + 1) * 2 = k * 2 + 1 + 1 from by omega, show k * 2 + 1 + 1 + 1 = (k * 2 + 1) + 1 + 1 from by omega]
      simp only [List.set_cons_succ]
      rw [ih k h']

theorem cl2_inj : ∀ {l m : List Nt2}, cl2 l = cl2 m → l = m
  | [], [], _ => rfl
  | [], y :: m, h => by simp [cl2_nil, cl2_cons] at h
  | x :: l, [], h => by simp [cl2_nil, cl2_cons] at h
  | x :: l, y :: m, h => by
    simp only [cl2_cons, List.cons.injEq, Value.int.injEq, true_and] at h
    obtain ⟨h0, h1, hd⟩ := h
    rw [cl2_inj hd, Prod.ext_iff.2 ⟨h0, h1⟩]

/-- The marks K, K+1, .. in n rows. -/
def mk2 : Nat → Int → List Nt2
  | 0, _ => []
  | n + 1, K => (K, K + 1) :: mk2 n (K + 2)
theorem mk2_length (n : Nat) (K : Int) : (mk2 n K).length = n := by
  induction n generalizing K with
  | zero => rfl
  | succ n ih => simp [mk2, ih]
theorem mk2_snoc (n : Nat) (K : Int) : mk2 (n + 1) K = mk2 n K ++ [(K + 2 * n, K + 2 * n + 1)] := by
  induction n generalizing K with
  | zero => simp [mk2]
  | succ n ih =>
    rw [mk2, ih (K + 2), mk2, List.cons_append]
    congr 2
    simp only [List.cons.injEq, and_true, Prod.mk.injEq]
    omega
theorem mk2_get (n : Nat) (K : Int) (k : Nat) (h : k < n) : (mk2 n K)[k]? = some (K + 2 * k, K + 2 * k + 1) := by
  induction n generalizing K k with
  | zero => omega
  | succ n ih =>
    cases k with
    | zero => simp [mk2]
    | succ k =>
      simp only [mk2, List.getElem?_cons_succ]
      rw [ih (K + 2) k (by omega)]
      simp only [Option.some.injEq, Prod.mk.injEq]
      omega

theorem take_set2 (l m : List Nt2) (k : Nat) (x : Nt2) (h : l[k]? = some x) (hm : k < m.length) : (l.take k ++ m.drop k).set k x = l.take (k + 1) ++ m.drop (k + 1) := by
  have hk : k < l.length := (List.getElem?_eq_some_iff.1 h).1
  rw [List.set_append_right _ _ (by simp; omega), List.length_take, Nat.min_eq_left (by omega), Nat.sub_self, List.drop_eq_getElem_cons hm, List.set_cons_zero, List.take_add_one, h]
  simp

theorem mk2_set (l : List Nt2) (K : Int) (k : Nat) (h : k < l.length) : (mk2 k K ++ l.drop k).set k (K + 2 * k, K + 2 * k + 1) = mk2 (k + 1) K ++ l.drop (k + 1) := by
  rw [List.set_append_right _ _ (by rw [mk2_length]; omega), mk2_length, Nat.sub_self, List.drop_eq_getElem_cons h, List.set_cons_zero, mk2_snoc]
  simp

/-- What a slice with the address A holds, read in a world: rows l. -/
def RA2 (w : World) (A : Option Addr) (l : List Nt2) : Prop :=
  ∀ (k : Nat) (x : Nt2), l[k]? = some x → ∃ g o, A = some ⟨g, o, none⟩ ∧ g < w.heap.size ∧
    w.cell? ⟨g, o + k * 2, none⟩ = some (.int .i64 x.1) ∧ w.cell? ⟨g, o + k * 2 + 1, none⟩ = some (.int .i64 x.2)

theorem RA2.at {w : World} {g o : Nat} {l : List Nt2} (h : RA2 w (some ⟨g, o, none⟩) l) (k : Nat) (x : Nt2) (hx : l[k]? = some x) : g < w.heap.size ∧
    w.cell? ⟨g, o + k * 2, none⟩ = some (.int .i64 x.1) ∧ w.cell? ⟨g, o + k * 2 + 1, none⟩ = some (.int .i64 x.2) := by
  obtain ⟨g', o', e, r⟩ := h k x hx
  simp only [Option.some.injEq, Addr.mk.injEq, and_true] at e
  obtain ⟨rfl, rfl⟩ := e
  exact r
theorem RA2.below {w w' : World} {A : Option Addr} {l : List Nt2} (h : RA2 w A l) (hb : Below w.heap.size w w') : RA2 w' A l := by
  intro k x hx
  obtain ⟨g, o, hA, hg, h0, h1⟩ := h k x hx
  exact ⟨g, o, hA, Nat.lt_of_lt_of_le hg hb.size, (hb.cell hg).trans h0, (hb.cell hg).trans h1⟩
theorem RA2.drew {w : World} {A : Option Addr} {l : List Nt2} (h : RA2 w A l) : RA2 w.drew A l := h
theorem RA2.alloc {w : World} {A : Option Addr} {l : List Nt2} (h : RA2 w A l) (o : Obj) : RA2 (w.alloc o) A l := h.below ((Below.refl _ _).alloc (Nat.le_refl _) o)

/-- A slice of the call's own that holds rows. -/
def Own2 (w : World) (base t : Nat) (v : Value) (l : List Nt2) : Prop := w.ownsRow base t 2 v l.length (cl2 l)

theorem Own2.form {w : World} {base t : Nat} {v : Value} {l : List Nt2} (h : Own2 w base t v l) : ∃ A c, v = .slice A l.length c ∧ RA2 w A l := by
  rcases h.2 with ⟨rfl, hn⟩ | ⟨g, cap, cur, rfl, hg, hh, hnc, hm, hs, ht⟩
  · refine ⟨none, 0, by rw [hn], ?_⟩
    intro k x hx
    have := (List.getElem?_eq_some_iff.1 hx).1
    omega
  · refine ⟨_, _, rfl, ?_⟩
    intro k x hx
    have hk := (List.getElem?_eq_some_iff.1 hx).1
    obtain ⟨h0, h1⟩ := cl2_get l k x hx
    have hlt : g < w.heap.size := by
      rcases Nat.lt_or_ge g w.heap.size with h' | h'
      · exact h'
      · rw [Array.getElem?_eq_none h'] at hh; cases hh
    refine ⟨g, 0, rfl, hlt, ?_, ?_⟩
    · rw [Nat.zero_add, h.cellAt _ (by omega)]; exact h0
    · rw [Nat.zero_add, h.cellAt _ (by omega)]; exact h1

theorem Own2.form' {w : World} {base t : Nat} {v : Value} {l : List Nt2} (h : Own2 w base t v l) : ∃ A c, v = .slice A l.length c ∧ RA2 w A l ∧ l.length ≤ c ∧ c ≤ maxLen := by
  have h0 := h
  rcases h.2 with ⟨rfl, hn⟩ | ⟨g, cap, cur, rfl, hg, hh, hnc, hm, hs, ht⟩
  · obtain ⟨A, c, e, hr⟩ := h0.form
    injection e with e1 e2 e3
    subst e1 e3
    exact ⟨none, 0, by rw [hn], hr, by omega, Nat.zero_le _⟩
  · obtain ⟨A, c, e, hr⟩ := h0.form
    injection e with e1 e2 e3
    subst e1 e3
    exact ⟨_, _, rfl, hr, hnc, hm⟩

theorem Own2.ra {w : World} {base t n c : Nat} {A : Option Addr} {l : List Nt2} (h : Own2 w base t (.slice A n c) l) : RA2 w A l := by
  obtain ⟨A', c', e, hr⟩ := h.form
  injection e with e1 e2 e3
  subst e1
  exact hr

theorem Own2.below {w w' : World} {base t B : Nat} {v : Value} {l : List Nt2} (h : Own2 w base t v l) (hb : Below B w w') (hB : w.heap.size ≤ B) : Own2 w' base t v l := by
  unfold Own2 at *
  exact h.kept (row := none) ⟨hb.os, hb.tape, hb.output, hb.size, fun k hk _ => hb.block k (by omega)⟩ (by cases h' : v.ownBlock <;> simp)
theorem Own2.nil (w : World) (base t : Nat) : Own2 w base t (.slice none 0 0) [] := World.ownsRow_nil w base t 2
theorem Own2.lt {w : World} {base t : Nat} {v : Value} {l : List Nt2} (h : Own2 w base t v l) : ∀ k, v.ownBlock = some k → base ≤ k ∧ k < w.heap.size := World.ownsRow.lt h
theorem Own2.grown {w w' : World} {base t : Nat} {v : Value} {l : List Nt2} {row : Option Nat} (h : Own2 w base t v l) (hg : w.grownBy w' row) (hne : v.ownBlock = none ∨ v.ownBlock ≠ row) : Own2 w' base t v l :=
  World.ownsRow.kept h hg hne

theorem made_cl2 (n : Nat) : (madeCells #[.int .i64 0, .int .i64 0] (n * 2)).toList = cl2 (List.replicate n (0, 0)) := by
  apply List.ext_getElem?
  intro i
  by_cases hi : i < n * 2
  · have hk : (List.replicate n ((0, 0) : Nt2))[i / 2]? = some (0, 0) := by rw [List.getElem?_replicate, if_pos (by omega)]
    obtain ⟨h0, h1⟩ := cl2_get _ _ _ hk
    have hl : (madeCells #[Value.int .i64 0, .int .i64 0] (n * 2)).toList[i]? = some (.int .i64 0) := by
      simp [madeCells, hi]
      have : i % 2 = 0 ∨ i % 2 = 1 := by omega
      rcases this with h | h <;> rw [h] <;> rfl
    rw [hl]
    have : i = i / 2 * 2 ∨ i = i / 2 * 2 + 1 := by omega
    rcases this with h | h
    · rw [h, h0]
    · rw [h, h1]
  · rw [List.getElem?_eq_none (by simp [size_madeCells]; omega), List.getElem?_eq_none (by rw [cl2_length]; simp; omega)]

end Go.Proofs.Ytakmlgkcinjecaa
