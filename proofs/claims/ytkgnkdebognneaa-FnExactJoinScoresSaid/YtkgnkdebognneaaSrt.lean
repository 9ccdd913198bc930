/- SortNotes: the model's and the program's functions have one answer, in memory of their own. -/
import Derived.Test.YtkgnkdebognneaaSorted
import Derived.Test.YtkgnkdebognneaaSortN
import Derived.Laws.CopyOwn
namespace Go.Proofs.Ytkgnkdebognneaa
open Go.RowKit Go.Sort
set_option linter.unusedVariables false
set_option linter.unusedSimpArgs false

theorem run_copyN (w : World) (g n c1 c2 : Nat) (a : Addr) (cur : Array Value) (l : List Nt) (hn : l.length = n)
    (hg : w.heap[g]? = some (.cells cur 25 (0, 0))) (hsrc : ∀ j v, (cl l)[j]? = some v → w.cell? (a.add j) = some v) (hfit : cur.size = n * 3) :
    (Builtin.copy_ #[31, 31] 3 #[.slice (some ⟨g, 0, none⟩) n c1, .slice (some a) n c2]).run Try.prog w = .ok (goInt n) (w.setRow g (cl l).toArray) := by
  subst hn
  obtain ⟨i, hi, hz, hs, hb⟩ := info_parts Try.info_Note
  have hl := run_loadCells_list (P := Try.prog) w a (cl l) hsrc
  have hst := run_storeCells_at Try.prog g 0 25 (cl l) 0 cur w hg (by rw [cl_length, hfit]; omega) (cl_one l)
  have hd : cur.toList.drop (0 + 0 + (cl l).length) = [] := by rw [cl_length]; apply List.drop_eq_nil_of_le; simp [hfit]
  rw [hd, List.append_nil, Nat.add_zero, List.take_zero, List.nil_append] at hst
  rw [cl_length] at hl
  simp [Builtin.copy_, run_underlying Try.underlying31, Builtin.lenOf, Builtin.firstCells, sizeOf, typeInfo, hi, hs, hl, hst]

theorem wpList_copyN (w : World) {ops : Array Oper} {rest : List Oper} {o : Oper} {a : Act} {Q : Exit → Act → World → Prop} (hgd : o.guard = none) (d s : Operand)
    (ho : o.op = .call { callee := .builtin .copy, args := #[d, s], argTypes := #[31, 31] }) (hty : o.type = 3)
    (g n c1 c2 : Nat) (ad : Addr) (hd : a.eval d = .slice (some ⟨g, 0, none⟩) n c1) (hs : a.eval s = .slice (some ad) n c2)
    (cur : Array Value) (l : List Nt) (hn : l.length = n) (hg : w.heap[g]? = some (.cells cur 25 (0, 0))) (hsrc : RA w (some ad) l) (hfit : cur.size = n * 3)
    (h : wpList Try.prog ops Q rest (a.put o.dst (goInt n)) (w.setRow g (cl l).toArray)) : wpList Try.prog ops Q (o :: rest) a w := by
  refine wpList_plain hgd fun K hK => ?_
  have hrun := run_copyN w g n c1 c2 ad cur l hn hg (fun j v hv => by obtain ⟨ad', e, hc⟩ := hsrc.cells j v hv; injection e with e; subst e; exact hc) hfit
  unfold Oper.wp
  rw [← hty] at hrun
  simp [execOp, ho, resolve, invoke, builtin, hd, hs, hrun, Result.andThen]
  exact hK _ _ h

theorem canon_big {l : List Nt} (h : ¬ l.length ≤ 30) : goodB (canon l) = false := by
  cases hg : goodB (canon l) with
  | false => rfl
  | true => exact absurd ((goodB_iff _).1 hg).2 (by rw [canon_length]; exact h)

set_option maxRecDepth 100000 in
set_option maxHeartbeats 1000000 in
theorem specSort_any (A : Option Addr) (l : List Nt) (c : Nat) (w : World) (hn : l.length ≤ 1048576) (hA : RA w A l) :
    Calls Try.prog 20 #[.slice A l.length c] w fun e w' => RetScore w (canon l) (goodB (canon l)) e w' := by
  by_cases h30 : l.length ≤ 30
  · have i1 : ¬ ((l.length : Int) > 30) := by omega
    go_enter Try.func20, Try.ntmps20
    go_wp2_with (go_at_call 46; refine (ntSorted_any _ _ _ _ (by omega) hA).mono ?_; rintro e w1 ⟨v1, rfl, ho1, hb1⟩)
    go_ret2
    exact ⟨_, rfl, ho1, hb1⟩
  · have i1 : (l.length : Int) > 30 := by omega
    rw [canon_big h30]
    go_enter Try.func20, Try.ntmps20
    go_wp2
    go_ret2
    exact ⟨_, rfl, by simpa using Own.nil _ _ _, Below.refl _ _⟩

set_option maxRecDepth 100000 in
set_option maxHeartbeats 2000000 in
theorem implSort_any (ad : Addr) (l : List Nt) (c : Nat) (w : World) (hn : l.length ≤ 1048576) (hA : RA w (some ad) l) :
    Calls Try.prog 21 #[.slice (some ad) l.length c] w fun e w' => RetScore w (canon l) (goodB (canon l)) e w' := by
  by_cases h30 : l.length ≤ 30
  · have i1 : ¬ ((l.length : Int) > 30) := by omega
    have hmk := make_notes l.length hn
    have hA1 := Lib.hid (hA.alloc (.cells (madeCells #[.int .i64 0, .int .i64 0, .int .i64 0] (l.length * 3)) 25))
    have hhp := Lib.hid (heap_alloc_new w (.cells (madeCells #[.int .i64 0, .int .i64 0, .int .i64 0] (l.length * 3)) 25))
    have hb1 := Lib.hid (show Below w.heap.size w (w.alloc (.cells (madeCells #[.int .i64 0, .int .i64 0, .int .i64 0] (l.length * 3)) 25)) from (Below.refl _ _).alloc (Nat.le_refl _) _)
    have ho2 : Own ((w.alloc (.cells (madeCells #[.int .i64 0, .int .i64 0, .int .i64 0] (l.length * 3)) 25)).setRow w.heap.size (cl l).toArray) w.heap.size 25 (.slice (some ⟨w.heap.size, 0, none⟩) l.length l.length) l :=
      ⟨cl_length l, .inr ⟨w.heap.size, l.length, (cl l).toArray, rfl, Nat.le_refl _, setRow_heap _ _ _ _ _ _ hhp.out, Nat.le_refl _, by unfold maxLen; omega, by simp [cl_length], List.take_of_length_le (by simp [cl_length])⟩⟩
    have HO2 := Lib.hid ho2
    have HB2 := Lib.hid (below_setRow hb1.out (Nat.le_refl _) (cl l).toArray)
    clear hA ho2
    go_enter Try.func21, Try.ntmps21
    go_wp2_with (first
      | (with_reducible (refine wpList_copyN _ rfl (.tmp 11) (.tmp 12) rfl rfl w.heap.size l.length _ _ ad rfl rfl _ l rfl hhp.out hA1.out (size_madeCells _ _) ?_))
      | (go_at_call 47; refine (sortN_any _ _ l w.heap.size _ (by omega) HO2.out).mono ?_; rintro e w3 ⟨rfl, ys, hp, hs, ho3, hg3⟩; have HP := Lib.hid hp; have HS := Lib.hid hs; have HO3 := Lib.hid ho3; have HB3 := Lib.hid (HB2.out.grown hg3 HB2.out.size (fun j hj => Nat.le_of_eq (Option.some.inj hj))); clear hp hs ho3 hg3)
      | (go_at_call 48; refine (scoreOnly_any _ ys w.heap.size _ (by rw [HP.out.length_eq]; omega) HO3.out).mono ?_; rintro e w4 ⟨u, rfl, ho4, hb4⟩))
    go_ret2
    obtain ⟨h1, h2⟩ := canon_good HP.out HS.out
    unfold RetScore
    rw [← h2, ← h1]
    exact ⟨_, rfl, ho4, HB3.out.trans (hb4.mono HB3.out.size)⟩
  · have i1 : (l.length : Int) > 30 := by omega
    rw [canon_big h30]
    go_enter Try.func21, Try.ntmps21
    go_wp2
    go_ret2
    exact ⟨_, rfl, by simpa using Own.nil _ _ _, Below.refl _ _⟩
end Go.Proofs.Ytkgnkdebognneaa
