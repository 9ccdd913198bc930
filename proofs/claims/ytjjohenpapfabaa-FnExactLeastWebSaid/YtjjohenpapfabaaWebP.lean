/- Plain: the least web, as the model asks for it (each two holes) and as the program does (the last hole of each track). -/
import Derived.Test.YtjjohenpapfabaaGood
import Derived.Maps.OwnSet
import Derived.Maps.OwnOps
namespace Go.Proofs.Ytjjohenpapfabaa
open Go.RowKit Go.Maps
set_option linter.unusedVariables false
set_option linter.unusedSimpArgs false

def webStep (r : Int) (x y : Nt) : Int := if x.1 = y.1 ∧ (r < 0 ∨ x.2.1 - y.2.2 < r) then x.2.1 - y.2.2 else r
def webRow (r : Int) (x : Nt) (ys : List Nt) : Int := ys.foldl (fun r y => webStep r x y) r
def webTo (l : List Nt) : Nat → Int
  | 0 => -1
  | k + 1 => match l[k]? with
    | some x => webRow (webTo l k) x (l.take k)
    | none => webTo l k
theorem webRow_snoc (r : Int) (x : Nt) (l : List Nt) (j : Nat) (y : Nt) (h : l[j]? = some y) : webRow r x (l.take (j + 1)) = webStep (webRow r x (l.take j)) x y := by
  unfold webRow; rw [List.take_add_one, h, Option.toList_some, List.foldl_append]; rfl
theorem webTo_succ (l : List Nt) (k : Nat) (x : Nt) (h : l[k]? = some x) : webTo l (k + 1) = webRow (webTo l k) x (l.take k) := by
  simp only [webTo, h]
/-- A web that is found lies between two steps of paper. -/
theorem web_bound {l : List Nt} (hg : Good l) {k j : Nat} {x y : Nt} (hx : l[k]? = some x) (hj : j < k) (hy : l[j]? = some y) (hp : x.1 = y.1) : 1 ≤ x.2.1 - y.2.2 ∧ x.2.1 - y.2.2 ≤ 2000 := by
  have hk := (List.getElem?_eq_some_iff.1 hx).1
  have h1 := (hg.1 k x hk hx).2.2 j y hj hy
  have hv := (noteN_iff x).1 (hg.1 k x hk hx).1
  have hw := (noteN_iff y).1 (hg.1 j y (by omega) hy).1
  have : ¬ (meetN x y = true) := by rw [h1]; simp
  rw [meetN_iff] at this
  have : ¬ (x.2.1 ≤ y.2.2) := fun h => this ⟨hp, h⟩
  omega
theorem Good.next {l : List Nt} (hg : Good l) {k : Nat} {x : Nt} (hx : l[k]? = some x) : endsF x.1 (l.take k) 0 ≤ x.2.1 := by
  have hk := (List.getElem?_eq_some_iff.1 hx).1
  have ho := hg.1 k x hk hx
  have hgt : GoodTo l k := fun i y hi hy => hg.1 i y (by omega) hy
  have := (okAt_iff hgt (by omega) ho.1 ho.2.1).1 ho
  omega
theorem endsF_nonneg {l : List Nt} (hg : Good l) (p : Int) : ∀ k, k ≤ l.length → endsF p (l.take k) 0 = 0 ∨ 2 ≤ endsF p (l.take k) 0 := by
  intro k
  induction k with
  | zero => intro _; exact .inl rfl
  | succ k ih =>
    intro hk
    have hx : l[k]? = some l[k] := List.getElem?_eq_getElem (by omega)
    rw [endsF_take p l k _ hx]
    have hv := (noteN_iff l[k]).1 (hg.1 k _ (by omega) hx).1
    have := ih (by omega)
    split <;> omega
/-- All webs in front of a hole, by the last hole of its track alone. -/
theorem webRow_take {l : List Nt} (hg : Good l) {k : Nat} {x : Nt} (hx : l[k]? = some x) (r : Int) : ∀ j, j ≤ k →
    webRow r x (l.take j) = if endsF x.1 (l.take j) 0 = 0 then r else if r < 0 ∨ x.2.1 - (endsF x.1 (l.take j) 0 - 1) < r then x.2.1 - (endsF x.1 (l.take j) 0 - 1) else r := by
  have hk := (List.getElem?_eq_some_iff.1 hx).1
  intro j
  induction j with
  | zero => intro _; simp [webRow, endsF]
  | succ j ih =>
    intro hj
    have hy : l[j]? = some l[j] := List.getElem?_eq_getElem (by omega)
    generalize l[j] = y at hy
    have hn := hg.next hy
    have hnn := endsF_nonneg hg x.1 j (by omega)
    have hv := (noteN_iff y).1 (hg.1 j y (by omega) hy).1
    rw [webRow_snoc r x l j y hy, ih (by omega), endsF_take x.1 l j y hy]
    by_cases hp : y.1 = x.1
    · have hw := web_bound hg hx (by omega : j < k) hy hp.symm
      rw [if_pos hp]
      rw [hp] at hn
      generalize endsF x.1 (l.take j) 0 = E at *
      unfold webStep
      have hp' : x.1 = y.1 := hp.symm
      simp only [hp', true_and]
      rw [if_neg (show ¬ y.2.2 + 1 = 0 from by omega), show y.2.2 + 1 - 1 = y.2.2 from by omega]
      rcases hnn with h0 | h0
      · rw [if_pos h0]
      · rw [if_neg (show ¬ E = 0 from by omega)]
        by_cases h3 : r < 0 ∨ x.2.1 - (E - 1) < r
        · rw [if_pos h3, if_pos (show x.2.1 - (E - 1) < 0 ∨ x.2.1 - y.2.2 < x.2.1 - (E - 1) from by omega), if_pos (show r < 0 ∨ x.2.1 - y.2.2 < r from by omega)]
        · rw [if_neg h3]
    · rw [if_neg hp]
      unfold webStep
      rw [if_neg (show ¬ (x.1 = y.1 ∧ _) from fun h => hp h.1.symm)]

/-- What the program's map says of the holes looked at so far. -/
def Seen (D : DataW Unit) (l : List Nt) (k : Nat) : Prop := IsMap D ∧ ∀ p : Int, Maps.has D (.int .i64 p) = decide (endsF p (l.take k) 0 ≠ 0) ∧ (endsF p (l.take k) 0 ≠ 0 → D.atKey (.int .i64 p) (.lit (.int .i64 0)) = .lit (.int .i64 (endsF p (l.take k) 0 - 1)))
theorem Seen.zero (l : List Nt) : Seen (.map []) l 0 := ⟨⟨[], rfl⟩, fun p => ⟨rfl, fun h => by simp [endsF] at h⟩⟩
theorem Seen.step {D : DataW Unit} {l : List Nt} {k : Nat} {x : Nt} (h : Seen D l k) (hx : l[k]? = some x) (hv : 0 ≤ x.2.2) : Seen (D.put (.int .i64 x.1) (.lit (.int .i64 x.2.2))) l (k + 1) := by
  refine ⟨?_, fun p => ?_⟩
  · obtain ⟨es, rfl⟩ := h.1
    exact ⟨_, rfl⟩
  · rw [endsF_take p l k x hx]
    by_cases hp : x.1 = p
    · subst hp
      rw [if_pos rfl]
      refine ⟨?_, fun _ => ?_⟩
      · rw [has_put_same h.1 (show WideAt.IsKeyLit (.int .i64 x.1) from trivial)]; simp; omega
      · rw [atKey_put_same h.1 (show WideAt.IsKeyLit (.int .i64 x.1) from trivial), show x.2.2 + 1 - 1 = x.2.2 from by omega]
    · rw [if_neg hp, has_put_other (fun e => hp (by injection e with _ e; exact e.symm)), atKey_put_other (fun e => hp (by injection e with _ e; exact e.symm))]
      exact h.2 p
end Go.Proofs.Ytjjohenpapfabaa
