/- append onto a row of notes of the call's own, whatever the source. -/
import Derived.Test.YtfjcnomingbneabDoorSlc
import Derived.Test.YtfjcnomingbneabDoorApp
import Derived.OwnWalk
import Derived.Deep.AppendLies
import Derived.Deep.RegionLaw
import Derived.Deep.RegionHeld3
namespace Go.Proofs.YtfjcnomingbneabDoor
open Go.RowKit
set_option linter.unusedVariables false
set_option linter.unusedSimpArgs false

theorem RA.cells {w : World} {A : Option Addr} {l : List Nt} (h : RA w A l) (j : Nat) (u : Value) (hu : (cl l)[j]? = some u) : ∃ ad, A = some ad ∧ w.cell? (ad.add j) = some u := by
  have hj := (List.getElem?_eq_some_iff.1 hu).1
  rw [cl_length] at hj
  have hx : l[j / 3]? = some (l[j / 3]'(by omega)) := List.getElem?_eq_getElem _
  generalize l[j / 3]'(by omega) = x at hx
  obtain ⟨g, o, rfl, _, h0, h1, h2⟩ := h _ _ hx
  obtain ⟨c0, c1, c2⟩ := cl_get l _ x hx
  refine ⟨_, rfl, ?_⟩
  rw [Addr.add_lit]
  have hr : j % 3 = 0 ∨ j % 3 = 1 ∨ j % 3 = 2 := by omega
  rcases hr with hr | hr | hr
  · have e : j = j / 3 * 3 := by omega
    rw [← e] at c0
    rw [c0] at hu
    rw [← hu]
    have e2 : o + j / 3 * 3 = o + j := by omega
    rw [e2] at h0
    exact h0
  · have e : j / 3 * 3 + 1 = j := by omega
    rw [e] at c1
    rw [c1] at hu
    rw [← hu]
    have e2 : o + j / 3 * 3 + 1 = o + j := by omega
    rw [e2] at h1
    exact h1
  · have e : j / 3 * 3 + 2 = j := by omega
    rw [e] at c2
    rw [c2] at hu
    rw [← hu]
    have e2 : o + j / 3 * 3 + 2 = o + j := by omega
    rw [e2] at h2
    exact h2
theorem RA.take {w : World} {A : Option Addr} {l : List Nt} (h : RA w A l) (k : Nat) : RA w A (l.take k) := by
  intro i x hx
  rw [List.getElem?_take] at hx
  split at hx
  · exact h i x hx
  · cases hx
theorem RA.drop {w : World} {g k c : Nat} {A : Option Addr} {l : List Nt} (h : RA w (some ⟨g, 0, none⟩) l) (hlc : l.length ≤ c) (hA : ¬ c = k → A = some ⟨g, 0 + k * 3, none⟩) : RA w A (l.drop k) := by
  intro i x hx
  rw [List.getElem?_drop] at hx
  have := (List.getElem?_eq_some_iff.1 hx).1
  obtain ⟨g', o', hgo, hg, h0, h1, h2⟩ := h _ x hx
  simp only [Option.some.injEq, Addr.mk.injEq, and_true] at hgo
  obtain ⟨rfl, rfl⟩ := hgo
  refine ⟨g, _, hA (by omega), hg, ?_, ?_, ?_⟩
  · rw [show 0 + k * 3 + i * 3 = 0 + (k + i) * 3 from by omega]; exact h0
  · rw [show 0 + k * 3 + i * 3 + 1 = 0 + (k + i) * 3 + 1 from by omega]; exact h1
  · rw [show 0 + k * 3 + i * 3 + 2 = 0 + (k + i) * 3 + 2 from by omega]; exact h2
theorem RA.one {w : World} {b : Nat} {p s n : Int} {t : TypeId} {fr : Nat × Nat} (h : w.heap[b]? = some (.cells #[.int .i64 p, .int .i64 s, .int .i64 n] t fr)) : RA w (some ⟨b, 0, none⟩) [(p, s, n)] := by
  intro i x hx
  cases i with
  | succ i => simp at hx
  | zero =>
    simp at hx
    subst hx
    refine ⟨b, 0, rfl, (Array.getElem?_eq_some_iff.1 h).1, ?_, ?_, ?_⟩
    · rw [cell_of_row w b _ _ _ _ h]; rfl
    · rw [cell_of_row w b _ _ _ _ h]; rfl
    · rw [cell_of_row w b _ _ _ _ h]; rfl

theorem Own.empty {w : World} {base b : Nat} {t : TypeId} (h : w.heap[b]? = some (.cells #[] t (0, 0))) (hb : base ≤ b) : Own w base t (.slice (some ⟨b, 0, none⟩) 0 0) [] :=
  ⟨by simp [cl_nil], .inr ⟨b, 0, #[], rfl, hb, h, Nat.le_refl _, Nat.zero_le _, rfl, by simp [cl_nil]⟩⟩

theorem cl_one (l : List Nt) : ∀ u ∈ cl l, u.oneCell' = true := by
  induction l with
  | nil => simp [cl_nil]
  | cons x l ih =>
    intro u hu
    rw [cl_cons] at hu
    rcases List.mem_cons.1 hu with rfl | hu
    · rfl
    rcases List.mem_cons.1 hu with rfl | hu
    · rfl
    rcases List.mem_cons.1 hu with rfl | hu
    · rfl
    exact ih u hu

theorem wp_appN (w : World) {o : Oper} {a : Act} {K : Act → World → Prop} {Q : Exit → Act → World → Prop} (s x : Operand)
    (ho : o.op = .call { callee := .builtin .append, args := #[s, x], argTypes := #[22, 22] })
    (base : Nat) (v : Value) (xs : List Nt) (hs : a.eval s = v) (hown : Own w base 35 v xs)
    (A : Option Addr) (m c : Nat) (news : List Nt) (hx : a.eval x = .slice A m c) (hl : news.length = m) (hA : A = none → c = 0)
    (hnews : RA w A news) (hsz : xs.length + m ≤ 4000000) (hbase : base ≤ w.heap.size)
    (h : ∀ v' w', Own w' base 35 v' (xs ++ news) → w.grownBy w' v.ownBlock → K (a.put o.dst v') w') : o.wp Tryd.prog a w K Q := by
  obtain ⟨i, hi, hz, hs1, hb1⟩ := info_parts Tryd.info_Note
  refine wp_app w s x 22 ho base 35 i _ 3 24 Tryd.underlying22 hi hz hs1 hb1 rfl (by decide) v xs.length (cl xs) hs hown A m c (cl news) hx (by rw [cl_length, hl]) hA (fun j u hu => hnews.cells j u hu) (cl_one news) (by unfold maxLen; omega) (by omega) hbase ?_
  intro v' w' h1 h2 h3
  refine h v' w' ?_ h2
  unfold Own
  rw [cl_append, List.length_append, hl]
  exact h1

theorem step_appN {w : World} {ops : Array Oper} {o : Oper} {a : Act} {K : Act → World → Prop} {Q : Exit → Act → World → Prop} {E : Prop} (hgd : o.guard = none) (s x : Operand)
    (ho : o.op = .call { callee := .builtin .append, args := #[s, x], argTypes := #[22, 22] })
    (base : Nat) (v : Value) (xs : List Nt) (hs : a.eval s = v) (hown : Own w base 35 v xs)
    (A : Option Addr) (m c : Nat) (news : List Nt) (hx : a.eval x = .slice A m c) (hl : news.length = m) (hA : A = none → c = 0)
    (hnews : RA w A news) (hsz : xs.length + m ≤ 4000000) (hbase : base ≤ w.heap.size)
    (h : ∀ v' w', Own w' base 35 v' (xs ++ news) → w.grownBy w' v.ownBlock → K (a.put o.dst v') w') :
    if Region.wanted o (yielded ops a.tmps) = true then Oper.wp Tryd.prog o a w K Q else E := by
  have hw : Region.wanted o (yielded ops a.tmps) = true := by simp [Region.wanted, hgd]
  rw [if_pos hw]
  exact wp_appN w s x ho base v xs hs hown A m c news hx hl hA hnews hsz hbase h

theorem wpList_appN (w : World) {ops : Array Oper} {rest : List Oper} {o : Oper} {a : Act} {Q : Exit → Act → World → Prop} (hgd : o.guard = none) (s x : Operand)
    (ho : o.op = .call { callee := .builtin .append, args := #[s, x], argTypes := #[22, 22] })
    (base : Nat) (v : Value) (xs : List Nt) (hs : a.eval s = v) (hown : Own w base 35 v xs)
    (A : Option Addr) (m c : Nat) (news : List Nt) (hx : a.eval x = .slice A m c) (hl : news.length = m) (hA : A = none → c = 0)
    (hnews : RA w A news) (hsz : xs.length + m ≤ 4000000) (hbase : base ≤ w.heap.size)
    (h : ∀ v' w', Own w' base 35 v' (xs ++ news) → w.grownBy w' v.ownBlock → wpList Tryd.prog ops Q rest (a.put o.dst v') w') : wpList Tryd.prog ops Q (o :: rest) a w :=
  wpList_plain hgd fun _ hK => wp_appN w s x ho base v xs hs hown A m c news hx hl hA hnews hsz hbase fun v' w' h2 h3 => hK _ _ (h v' w' h2 h3)
end Go.Proofs.YtfjcnomingbneabDoor
