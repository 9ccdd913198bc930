/- append onto a row of numbers of the call's own, whatever the source. -/
import Derived.Test.YtfjcnomingbneacDoorIntP
import Derived.Test.YtfjcnomingbneacDoorSmall
import Derived.Test.YtfjcnomingbneacDoorApp
import Derived.OwnWalk
import Derived.Deep.AppendLies
import Derived.Deep.RegionLaw
import Derived.Deep.RegionHeld3
namespace Go.Proofs.YtfjcnomingbneacDoor
open Go.RowKit
set_option linter.unusedVariables false
set_option linter.unusedSimpArgs false

theorem Tryd.info_int : (Tryd.prog.info? 3).map (fun i => (i.zero, i.size, i.bytes)) = some (some (.int .i64 0), 1, 8) := by kernel_rfl

theorem RI.at {w : World} {g : Nat} {l : List Int} {j : Nat} {x : Int} (h : RI w (some ⟨g, 0, none⟩) l) (hx : l[j]? = some x) : w.cell? ⟨g, j, none⟩ = some (.int .i64 x) := by
  obtain ⟨g', o', hgo, _, h0⟩ := h j x hx
  simp only [Option.some.injEq, Addr.mk.injEq, and_true] at hgo
  obtain ⟨rfl, rfl⟩ := hgo
  simpa using h0

theorem wpList_appI (w : World) {ops : Array Oper} {rest : List Oper} {o : Oper} {a : Act} {Q : Exit → Act → World → Prop} (hgd : o.guard = none) (s x : Operand)
    (ho : o.op = .call { callee := .builtin .append, args := #[s, x], argTypes := #[22, 22] })
    (base : Nat) (v : Value) (xs : List Int) (hs : a.eval s = v) (hown : OwnI w base 3 v xs)
    (A : Option Addr) (m c : Nat) (news : List Int) (hx : a.eval x = .slice A m c) (hl : news.length = m) (hA : A = none → c = 0)
    (hnews : ∀ j y, news[j]? = some y → ∃ ad, A = some ad ∧ w.cell? (ad.add j) = some (.int .i64 y)) (hsz : xs.length + m ≤ 4000000) (hbase : base ≤ w.heap.size)
    (h : ∀ v' w', OwnI w' base 3 v' (xs ++ news) → w.grownBy w' v.ownBlock → (v'.ownBlock = v.ownBlock ∨ v'.ownBlock = some w.heap.size) → wpList Tryd.prog ops Q rest (a.put o.dst v') w') :
    wpList Tryd.prog ops Q (o :: rest) a w := by
  obtain ⟨i, hi, hz, hs1, hb1⟩ := info_parts Tryd.info_int
  refine wpList_app w hgd s x 22 ho base 3 i (.int .i64 0) 1 8 Tryd.underlying22 hi hz hs1 hb1 rfl (by decide) v xs.length (ci xs) hs hown A m c (ci news) hx (by rw [ci_length, hl, Nat.mul_one]) hA ?_ ?_ (by unfold maxLen; omega) (by omega) hbase ?_
  · intro j u hu
    simp only [ci, List.getElem?_map, Option.map_eq_some_iff] at hu
    obtain ⟨y, hy, rfl⟩ := hu
    exact hnews j y hy
  · intro u hu
    simp only [ci, List.mem_map] at hu
    obtain ⟨y, _, rfl⟩ := hu
    rfl
  · intro v' w' h1 h2 h3
    refine h v' w' ?_ h2 h3
    unfold OwnI
    rw [ci_append, List.length_append, hl]
    exact h1

theorem get_of_take {l : List Int} {k j : Nat} {y : Int} (h : (l.take k)[j]? = some y) : l[j]? = some y := by
  rw [List.getElem?_take] at h
  split at h
  · exact h
  · cases h
theorem RI.takeAt {w : World} {g : Nat} {l : List Int} {k j : Nat} {y : Int} (h : RI w (some ⟨g, 0, none⟩) l) (hx : (l.take k)[j]? = some y) : w.cell? ((⟨g, 0, none⟩ : Addr).add j) = some (.int .i64 y) := by
  rw [Addr.add_lit, Nat.zero_add]
  exact h.at (get_of_take hx)
theorem one_at {w : World} {b : Nat} {n : Int} (h : w.cell? ⟨b, 0, none⟩ = some (.int .i64 n)) {j : Nat} {y : Int} (hy : [n][j]? = some y) : ∃ ad, (some ⟨b, 0, none⟩ : Option Addr) = some ad ∧ w.cell? (ad.add j) = some (.int .i64 y) := by
  cases j with
  | zero => simp at hy; subst hy; exact ⟨_, rfl, by rw [Addr.add_lit]; exact h⟩
  | succ j => simp at hy

theorem one_new (w1 : World) (n : Int) : (w1.alloc (.cells #[.int .i64 n] 3)).cell? ⟨w1.heap.size, 0, none⟩ = some (.int .i64 n) := by rw [World.cell?_alloc_new]; rfl
theorem RI.dropAt {w : World} {g : Nat} {l : List Int} {k c : Nat} {A : Option Addr} (h : RI w (some ⟨g, 0, none⟩) l) (hlc : l.length ≤ c) (hA : ¬ c = k → A = some ⟨g, 0 + k, none⟩) (j : Nat) (y : Int) (hx : (l.drop k)[j]? = some y) : ∃ ad, A = some ad ∧ w.cell? (ad.add j) = some (.int .i64 y) := by
  rw [List.getElem?_drop] at hx
  have := (List.getElem?_eq_some_iff.1 hx).1
  refine ⟨_, hA (by omega), ?_⟩
  rw [Addr.add_lit, Nat.zero_add]
  exact h.at hx

theorem OwnI.lit (w : World) (base : Nat) (xs : List Int) (cs : Array Value) (hcs : cs.toList = ci xs) (hl : xs.length ≤ 1000) (hb : base ≤ w.heap.size) : OwnI (w.alloc (.cells cs 3)) base 3 (.slice (some ⟨w.heap.size, 0, none⟩) xs.length xs.length) xs := by
  have h := World.ownsRow_lit (base := base) (e := 3) (size := 1) w cs xs.length hb (by unfold maxLen; omega) (by rw [← Array.length_toList, hcs, ci_length, Nat.mul_one])
  rw [hcs] at h
  exact h


theorem wp_appI (w : World) {o : Oper} {a : Act} {K : Act → World → Prop} {Q : Exit → Act → World → Prop} (s x : Operand)
    (ho : o.op = .call { callee := .builtin .append, args := #[s, x], argTypes := #[22, 22] })
    (base : Nat) (v : Value) (xs : List Int) (hs : a.eval s = v) (hown : OwnI w base 3 v xs)
    (A : Option Addr) (m c : Nat) (news : List Int) (hx : a.eval x = .slice A m c) (hl : news.length = m) (hA : A = none → c = 0)
    (hnews : ∀ j y, news[j]? = some y → ∃ ad, A = some ad ∧ w.cell? (ad.add j) = some (.int .i64 y)) (hsz : xs.length + m ≤ 4000000) (hbase : base ≤ w.heap.size)
    (h : ∀ v' w', OwnI w' base 3 v' (xs ++ news) → w.grownBy w' v.ownBlock → (v'.ownBlock = v.ownBlock ∨ v'.ownBlock = some w.heap.size) → K (a.put o.dst v') w') : o.wp Tryd.prog a w K Q := by
  obtain ⟨i, hi, hz, hs1, hb1⟩ := info_parts Tryd.info_int
  refine wp_app w s x 22 ho base 3 i (.int .i64 0) 1 8 Tryd.underlying22 hi hz hs1 hb1 rfl (by decide) v xs.length (ci xs) hs hown A m c (ci news) hx (by rw [ci_length, hl, Nat.mul_one]) hA ?_ ?_ (by unfold maxLen; omega) (by omega) hbase ?_
  · intro j u hu
    simp only [ci, List.getElem?_map, Option.map_eq_some_iff] at hu
    obtain ⟨y, hy, rfl⟩ := hu
    exact hnews j y hy
  · intro u hu
    simp only [ci, List.mem_map] at hu
    obtain ⟨y, _, rfl⟩ := hu
    rfl
  · intro v' w' h1 h2 h3
    refine h v' w' ?_ h2 h3
    unfold OwnI
    rw [ci_append, List.length_append, hl]
    exact h1

theorem step_appI {w : World} {ops : Array Oper} {o : Oper} {a : Act} {K : Act → World → Prop} {Q : Exit → Act → World → Prop} {E : Prop} (hgd : o.guard = none) (s x : Operand)
    (ho : o.op = .call { callee := .builtin .append, args := #[s, x], argTypes := #[22, 22] })
    (base : Nat) (v : Value) (xs : List Int) (hs : a.eval s = v) (hown : OwnI w base 3 v xs)
    (A : Option Addr) (m c : Nat) (news : List Int) (hx : a.eval x = .slice A m c) (hl : news.length = m) (hA : A = none → c = 0)
    (hnews : ∀ j y, news[j]? = some y → ∃ ad, A = some ad ∧ w.cell? (ad.add j) = some (.int .i64 y)) (hsz : xs.length + m ≤ 4000000) (hbase : base ≤ w.heap.size)
    (h : ∀ v' w', OwnI w' base 3 v' (xs ++ news) → w.grownBy w' v.ownBlock → K (a.put o.dst v') w') :
    if Region.wanted o (yielded ops a.tmps) = true then Oper.wp Tryd.prog o a w K Q else E := by
  have hw : Region.wanted o (yielded ops a.tmps) = true := by simp [Region.wanted, hgd]
  rw [if_pos hw]
  exact wp_appI w s x ho base v xs hs hown A m c news hx hl hA hnews hsz hbase fun v' w' h1 h2 _ => h v' w' h1 h2

end Go.Proofs.YtfjcnomingbneacDoor
