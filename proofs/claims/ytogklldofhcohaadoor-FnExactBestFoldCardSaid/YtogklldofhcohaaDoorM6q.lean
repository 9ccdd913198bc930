/- Texts of the proof, run together: Srt, Join, Join2, Join3. -/
import Derived.Test.YtogklldofhcohaaDoorSortedq
import Derived.Test.YtogklldofhcohaaDoorM5q
import Derived.Laws.CopyOwn
import Derived.Test.YtogklldofhcohaaDoorM1q
namespace Go.Proofs.YtogklldofhcohaaDoor
open Go.RowKit Go.Sort
set_option linter.unusedVariables false
set_option linter.unusedSimpArgs false

theorem run_copyN (w : World) (g n c1 c2 : Nat) (a : Addr) (cur : Array Value) (l : List Nt) (hn : l.length = n)
    (hg : w.heap[g]? = some (.cells cur 47 (0, 0))) (hsrc : ∀ j v, (cl l)[j]? = some v → w.cell? (a.add j) = some v) (hfit : cur.size = n * 3) :
    (Builtin.copy_ #[28, 28] 3 #[.slice (some ⟨g, 0, none⟩) n c1, .slice (some a) n c2]).run Tryd.prog w = .ok (goInt n) (w.setRow g (cl l).toArray) := by
  subst hn
  obtain ⟨i, hi, hz, hs, hb⟩ := info_parts Tryd.info_Note
  have hl := run_loadCells_list (P := Tryd.prog) w a (cl l) hsrc
  have hst := run_storeCells_at Tryd.prog g 0 47 (cl l) 0 cur w hg (by rw [cl_length, hfit]; omega) (cl_one l)
  have hd : cur.toList.drop (0 + 0 + (cl l).length) = [] := by rw [cl_length]; apply List.drop_eq_nil_of_le; simp [hfit]
  rw [hd, List.append_nil, Nat.add_zero, List.take_zero, List.nil_append] at hst
  rw [cl_length] at hl
  simp [Builtin.copy_, run_underlying Tryd.underlying28, Builtin.lenOf, Builtin.firstCells, sizeOf, typeInfo, hi, hs, hl, hst]

theorem wpList_copyN (w : World) {ops : Array Oper} {rest : List Oper} {o : Oper} {a : Act} {Q : Exit → Act → World → Prop} (hgd : o.guard = none) (d s : Operand)
    (ho : o.op = .call { callee := .builtin .copy, args := #[d, s], argTypes := #[28, 28] }) (hty : o.type = 3)
    (g n c1 c2 : Nat) (ad : Addr) (hd : a.eval d = .slice (some ⟨g, 0, none⟩) n c1) (hs : a.eval s = .slice (some ad) n c2)
    (cur : Array Value) (l : List Nt) (hn : l.length = n) (hg : w.heap[g]? = some (.cells cur 47 (0, 0))) (hsrc : RA w (some ad) l) (hfit : cur.size = n * 3)
    (h : wpList Tryd.prog ops Q rest (a.put o.dst (goInt n)) (w.setRow g (cl l).toArray)) : wpList Tryd.prog ops Q (o :: rest) a w := by
  refine wpList_plain hgd fun K hK => ?_
  have hrun := run_copyN w g n c1 c2 ad cur l hn hg (fun j v hv => by obtain ⟨ad', e, hc⟩ := hsrc.cells j v hv; injection e with e; subst e; exact hc) hfit
  unfold Oper.wp
  rw [← hty] at hrun
  simp [execOp, ho, resolve, invoke, builtin, hd, hs, hrun, Result.andThen]
  exact hK _ _ h

theorem canon_big {l : List Nt} (h : ¬ l.length ≤ 30) : goodB (canon l) = false := by
  cases hg : goodB (canon l) with
  | false => rfl
  | true => exact absurd ((goodB_iff _).1 hg).2 (by rw [canon_length]; exact h)

set_option maxRecDepth 100000 in
set_option maxHeartbeats 2000000 in
theorem implSort_any (ad : Addr) (l : List Nt) (c : Nat) (w : World) (hn : l.length ≤ 1048576) (hA : RA w (some ad) l) :
    Calls Tryd.prog 54 #[.slice (some ad) l.length c] w fun e w' => RetScore w (canon l) (goodB (canon l)) e w' := by
  by_cases h30 : l.length ≤ 30
  · have i1 : ¬ ((l.length : Int) > 30) := by omega
    have hmk := make_notes l.length hn
    have hA1 := Lib.hid (hA.alloc (.cells (madeCells #[.int .i64 0, .int .i64 0, .int .i64 0] (l.length * 3)) 47))
    have hhp := Lib.hid (heap_alloc_new w (.cells (madeCells #[.int .i64 0, .int .i64 0, .int .i64 0] (l.length * 3)) 47))
    have hb1 := Lib.hid (show Below w.heap.size w (w.alloc (.cells (madeCells #[.int .i64 0, .int .i64 0, .int .i64 0] (l.length * 3)) 47)) from (Below.refl _ _).alloc (Nat.le_refl _) _)
    have ho2 : Own ((w.alloc (.cells (madeCells #[.int .i64 0, .int .i64 0, .int .i64 0] (l.length * 3)) 47)).setRow w.heap.size (cl l).toArray) w.heap.size 47 (.slice (some ⟨w.heap.size, 0, none⟩) l.length l.length) l :=
      ⟨cl_length l, .inr ⟨w.heap.size, l.length, (cl l).toArray, rfl, Nat.le_refl _, setRow_heap _ _ _ _ _ _ hhp.out, Nat.le_refl _, by unfold maxLen; omega, by simp [cl_length], List.take_of_length_le (by simp [cl_length])⟩⟩
    have HO2 := Lib.hid ho2
    have HB2 := Lib.hid (below_setRow hb1.out (Nat.le_refl _) (cl l).toArray)
    clear hA ho2
    go_enter Tryd.func54, Tryd.ntmps54
    go_wp2_with (first
      | (with_reducible (refine wpList_copyN _ rfl (.tmp 11) (.tmp 12) rfl rfl w.heap.size l.length _ _ ad rfl rfl _ l rfl hhp.out hA1.out (size_madeCells _ _) ?_))
      | (go_at_call 59; refine (sortN_any _ _ l w.heap.size _ (by omega) HO2.out).mono ?_; rintro e w3 ⟨rfl, ys, hp, hs, ho3, hg3⟩; have HP := Lib.hid hp; have HS := Lib.hid hs; have HO3 := Lib.hid ho3; have HB3 := Lib.hid (HB2.out.grown hg3 HB2.out.size (fun j hj => Nat.le_of_eq (Option.some.inj hj))); clear hp hs ho3 hg3)
      | (go_at_call 60; refine (scoreOnly_any _ ys w.heap.size _ (by rw [HP.out.length_eq]; omega) HO3.out).mono ?_; rintro e w4 ⟨u, rfl, ho4, hb4⟩))
    go_ret2
    obtain ⟨h1, h2⟩ := canon_good HP.out HS.out
    unfold RetScore
    rw [← h2, ← h1]
    exact ⟨_, rfl, ho4, HB3.out.trans (hb4.mono HB3.out.size)⟩
  · have i1 : (l.length : Int) > 30 := by omega
    rw [canon_big h30]
    go_enter Tryd.func54, Tryd.ntmps54
    go_wp2
    go_ret2
    exact ⟨_, rfl, by simpa using Own.nil _ _ _, Below.refl _ _⟩
end Go.Proofs.YtogklldofhcohaaDoor

namespace Go.Proofs.YtogklldofhcohaaDoor
open Go.RowKit Go.Sort
set_option linter.unusedVariables false
set_option linter.unusedSimpArgs false

/-- slices.Grow of nil. -/
theorem growN_any (n : Nat) (w : World) (hn : n ≤ 1000000) :
    Calls Tryd.prog 61 #[.slice none 0 0, .int .i64 (n : Int)] w fun e w' => ∃ v, e = .returned v ∧ Own w' w.heap.size 47 v [] ∧ Below w.heap.size w w' ∧ (n = 0 → v = .slice none 0 0) ∧ (0 < n → v.ownBlock = some w.heap.size) := by
  obtain ⟨i, hi, hz, hs, hb⟩ := info_parts Tryd.info_Note
  rcases Nat.eq_zero_or_pos n with h0 | h0
  · subst h0
    have h := Go.Proofs.Any8.slices_Grow_room Tryd.growN none 0 0 0 w (Nat.le_refl _) (by omega) (by omega) (Nat.le_refl _)
    change Calls Tryd.prog 61 _ _ _ at h
    refine h.mono ?_
    rintro e w' ⟨rfl, rfl⟩
    exact ⟨_, rfl, Own.nil _ _ _, Below.refl _ _, fun _ => rfl, fun h => absurd h (by omega)⟩
  · have h := Go.Proofs.Any8.slices_Grow_grow Tryd.growN i _ hi hz (by omega) none 0 0 n [] w (Nat.le_refl _) (by omega) (by rw [hb]; omega) (by omega) (by simp) (fun _ => rfl) (fun a h => by cases h)
    change Calls Tryd.prog 61 _ _ _ at h
    refine h.mono ?_
    rintro e w' ⟨rfl, rfl⟩
    refine ⟨_, rfl, ⟨by simp [cl_nil], .inr ⟨w.heap.size, _, _, rfl, Nat.le_refl _, heap_alloc_new w.drew _, Nat.zero_le _, grownCap_le_maxLen w _ _ _ (by unfold maxLen; omega), ?_, by simp [cl_nil]⟩⟩, bel1 w _, fun h => absurd h (by omega), fun _ => rfl⟩
    simp only [Array.size_append, size_zeroCells, List.size_toArray, List.length_nil]
    have := grownCap_ge w (0 + n) 0 (Tryd.growN_ren.t 25)
    have e3 : (Value.agg #[Value.int .i64 0, .int .i64 0, .int .i64 0]).cells.size = 3 := rfl
    rw [e3]
    omega

theorem ntSorted_n (A : Option Addr) (l : List Nt) (n c : Nat) (w : World) (h : l.length = n) (hn : l.length ≤ 100000) (hA : RA w A l) :
    Calls Tryd.prog 36 #[.slice A n c] w fun e w' => RetScore w (canon l) (goodB (canon l)) e w' := by
  subst h
  exact ntSorted_any A l c w hn hA
theorem RetScore.mk {B : World} {l : List Nt} {ok : Bool} {e : Ending} {w' : World} {v : Value} (he : e = .returned (.tuple #[v, .bool ok])) (ho : Own w' B.heap.size 47 v (if ok = true then l else [])) (hb : Below B.heap.size B w') : RetScore B l ok e w' := ⟨v, he, ho, hb⟩

end Go.Proofs.YtogklldofhcohaaDoor

namespace Go.Proofs.YtogklldofhcohaaDoor
open Go.RowKit Go.Sort
set_option linter.unusedVariables false
set_option linter.unusedSimpArgs false

theorem growN_z (z : Int) (n : Nat) (hz : z = n) (w : World) (hn : n ≤ 1000000) :
    Calls Tryd.prog 61 #[.slice none 0 0, .int .i64 z] w fun e w' => ∃ v, e = .returned v ∧ Own w' w.heap.size 47 v [] ∧ Below w.heap.size w w' := by
  subst hz
  refine (growN_any n w hn).mono ?_
  rintro e w' ⟨v, h1, h2, h3, _⟩
  exact ⟨v, h1, h2, h3⟩

set_option maxRecDepth 100000 in
set_option maxHeartbeats 2000000 in
theorem concat2_any (b : Nat) (A B : Option Addr) (l m : List Nt) (c d : Nat) (w : World) (hl : l.length ≤ 30) (hm : m.length ≤ 30) (hlt : b < w.heap.size) (h0 : w.cell? ⟨b, 0, none⟩ = some (.slice A l.length c)) (h1 : w.cell? ⟨b, 1, none⟩ = some (.slice B m.length d)) (hA : RA w A l) (hB : RA w B m) (hA0 : A = none → c = 0) (hB0 : B = none → d = 0) :
    Calls Tryd.prog 55 #[.slice (some ⟨b, 0, none⟩) 2 2] w fun e w' => ∃ v, e = .returned v ∧ Own w' w.heap.size 47 v (l ++ m) ∧ Below w.heap.size w w' := by
  have i1 : (0 : Int) ≤ (l.length : Int) := by omega
  have i2 : (l.length : Int) ≤ 30 := by omega
  have i3 : (0 : Int) ≤ (m.length : Int) := by omega
  have i4 : (m.length : Int) ≤ 30 := by omega
  have i5 : ¬ ((l.length : Int) < 0) := by omega
  have i6 : ¬ ((l.length : Int) + (m.length : Int) < 0) := by omega
  go_enter Tryd.func55, Tryd.ntmps55
  go_wp2
  refine wp_loop_rounds 3 ?_
  rw [rounds_succ]
  go_wp2
  rw [rounds_succ]
  go_wp2
  rw [rounds_succ]
  go_wp2_with (go_at_call 61; refine (growN_z _ (l.length + m.length) (by simp) _ (by omega)).mono ?_; rintro e w1 ⟨v1, rfl, ho1, hb1⟩; have HO1 := Lib.hid ho1; have z0 := (hb1.cell (p := ⟨b, 0, none⟩) hlt).trans h0; have z1 := (hb1.cell (p := ⟨b, 1, none⟩) hlt).trans h1; have HA1 := Lib.hid (hA.below hb1); have HB1 := Lib.hid (hB.below hb1); have HBL1 := Lib.hid hb1; clear ho1 hb1)
  refine wp_loop_rounds 3 ?_
  rw [rounds_succ]
  go_wp2_with (at_builtin; (refine wpList_appN _ rfl (.tmp 31) (.tmp 32) rfl w.heap.size _ [] rfl HO1.out A l.length c l rfl rfl hA0 HA1.out (by simp; omega) HBL1.out.size ?_); intro v2 w2 ho2 hg2; have HO2 := Lib.hid ho2; have HBL2 := Lib.hid (HBL1.out.grown hg2 HBL1.out.size (fun j hj => (HO1.out.lt j hj).1)); have y0 := (HBL2.out.cell (p := ⟨b, 0, none⟩) hlt).trans h0; have y1 := (HBL2.out.cell (p := ⟨b, 1, none⟩) hlt).trans h1; have HB2 := Lib.hid (hB.below HBL2.out); clear ho2 hg2)
  rw [rounds_succ]
  go_wp2_with (at_builtin; (refine wpList_appN _ rfl (.tmp 31) (.tmp 32) rfl w.heap.size _ _ rfl HO2.out B m.length d m rfl rfl hB0 HB2.out (by simp; omega) HBL2.out.size ?_); intro v3 w3 ho3 hg3; have HO3 := Lib.hid ho3; have HBL3 := Lib.hid (HBL2.out.grown hg3 HBL2.out.size (fun j hj => (HO2.out.lt j hj).1)); have x0 := (HBL3.out.cell (p := ⟨b, 0, none⟩) hlt).trans h0; have x1 := (HBL3.out.cell (p := ⟨b, 1, none⟩) hlt).trans h1; clear ho3 hg3)
  rw [rounds_succ]
  go_wp2
  go_ret
  exact ⟨_, rfl, by simpa using HO3.out, HBL3.out⟩
end Go.Proofs.YtogklldofhcohaaDoor

namespace Go.Proofs.YtogklldofhcohaaDoor
open Go.RowKit Go.Sort
set_option linter.unusedVariables false
set_option linter.unusedSimpArgs false

theorem wpList_copyNil (w : World) {ops : Array Oper} {rest : List Oper} {o : Oper} {a : Act} {Q : Exit → Act → World → Prop} (hgd : o.guard = none) (d s : Operand)
    (ho : o.op = .call { callee := .builtin .copy, args := #[d, s], argTypes := #[28, 28] })
    (ad : Addr) (n c1 : Nat) (hd : a.eval d = .slice (some ad) n c1) (hs : a.eval s = .slice none 0 0)
    (h : wpList Tryd.prog ops Q rest (a.put o.dst (goInt 0)) w) : wpList Tryd.prog ops Q (o :: rest) a w := by
  refine wpList_plain hgd fun K hK => ?_
  have hrun := run_copy_nil Tryd.prog w 28 28 o.type 47 ad n c1 Tryd.underlying28 (by kernel_rfl)
  unfold Oper.wp
  simp [execOp, ho, resolve, invoke, builtin, hd, hs, hrun, Result.andThen]
  exact hK _ _ h

set_option maxRecDepth 100000 in
set_option maxHeartbeats 2000000 in
theorem implSort_nil (w : World) :
    Calls Tryd.prog 54 #[.slice none 0 0] w fun e w' => RetScore w (canon []) (goodB (canon [])) e w' := by
  have hmk : ∀ W : World, (Instr.makeSlice 28 (.int .i64 0) (.int .i64 0)).run Tryd.prog W = .ok (.slice (some ⟨W.heap.size, 0, none⟩) 0 0) (W.alloc (.cells #[] 47)) := by
    intro W
    have h := make_notes 0 (by omega) W
    have e : madeCells #[Value.int .i64 0, .int .i64 0, .int .i64 0] (0 * 3) = #[] := by
      apply Array.eq_empty_of_size_eq_zero
      rw [size_madeCells]
    rw [e] at h
    simpa using h
  have ho2 : Own (w.alloc (.cells #[] 47)) w.heap.size 47 (.slice (some ⟨w.heap.size, 0, none⟩) 0 0) [] := Own.empty (heap_alloc_new _ _) (Nat.le_refl _)
  have HO2 := Lib.hid ho2
  have HB2 := Lib.hid (show Below w.heap.size w (w.alloc (.cells #[] 47)) from (Below.refl _ _).alloc (Nat.le_refl _) _)
  clear ho2
  go_enter Tryd.func54, Tryd.ntmps54
  go_wp2_with (first
    | (with_reducible (refine wpList_copyNil _ rfl (.tmp 11) (.tmp 12) rfl ⟨w.heap.size, 0, none⟩ 0 0 rfl rfl ?_))
    | (go_at_call 59; refine (sortN_any w.heap.size 0 [] w.heap.size _ (by simp) HO2.out).mono ?_; rintro e w3 ⟨rfl, ys, hp, hs, ho3, hg3⟩; have HP := Lib.hid hp; have HS := Lib.hid hs; have HO3 := Lib.hid ho3; have HB3 := Lib.hid (HB2.out.grown hg3 HB2.out.size (fun j hj => Nat.le_of_eq (Option.some.inj hj))); clear hp hs ho3 hg3)
    | (go_at_call 60; refine (scoreOnly_any _ ys w.heap.size _ (by rw [HP.out.length_eq]; simp) HO3.out).mono ?_; rintro e w4 ⟨u, rfl, ho4, hb4⟩))
  go_ret2
  obtain ⟨h1, h2⟩ := canon_good HP.out HS.out
  unfold RetScore
  rw [← h2, ← h1]
  exact ⟨_, rfl, ho4, HB3.out.trans (hb4.mono HB3.out.size)⟩

theorem implSort_n (A : Option Addr) (l : List Nt) (n c : Nat) (w : World) (h : l.length = n) (hn : l.length ≤ 1048576) (hc : l.length ≤ c) (hA : RA w A l) (hA0 : A = none → c = 0) :
    Calls Tryd.prog 54 #[.slice A n c] w fun e w' => RetScore w (canon l) (goodB (canon l)) e w' := by
  subst h
  cases A with
  | some ad => exact implSort_any ad l c w hn hA
  | none =>
    obtain rfl := hA0 rfl
    obtain rfl : l = [] := List.eq_nil_of_length_eq_zero (by omega)
    exact implSort_nil w

set_option maxRecDepth 100000 in
set_option maxHeartbeats 2000000 in
theorem implJoin_any (A B : Option Addr) (l m : List Nt) (c d : Nat) (w : World) (hl : l.length ≤ 1048576) (hm : m.length ≤ 1048576) (hA : RA w A l) (hB : RA w B m) (hA0 : A = none → c = 0) (hB0 : B = none → d = 0) :
    Calls Tryd.prog 43 #[.slice A l.length c, .slice B m.length d] w fun e w' => RetScore w (canon (l ++ m)) (goodB l && (goodB m && goodB (canon (l ++ m)))) e w' := by
  cases hgl : goodB l with
  | false =>
    go_enter Tryd.func43, Tryd.ntmps43
    go_wp2_with fail
    refine (isScore_any _ _ _ _ hl hA).mono ?_
    rintro e w1 ⟨rfl, hb1⟩
    go_wp2
    go_ret2
    exact ⟨_, rfl, by simpa using Own.nil _ _ _, hb1⟩
  | true =>
    have h30 := ((goodB_iff l).1 hgl).2
    cases hgm : goodB m with
    | false =>
      go_enter Tryd.func43, Tryd.ntmps43
      go_wp2_with fail
      refine (isScore_any _ _ _ _ hl hA).mono ?_
      rintro e w1 ⟨rfl, hb1⟩
      go_wp2_with (go_at_call 24; refine (isScore_any _ _ _ _ hm (hB.below hb1)).mono ?_; rintro e w2 ⟨rfl, hb2⟩)
      go_ret2
      exact ⟨_, rfl, by simpa using Own.nil _ _ _, hb1.trans (hb2.mono hb1.size)⟩
    | true =>
      have h30' := ((goodB_iff m).1 hgm).2
      go_enter Tryd.func43, Tryd.ntmps43
      go_wp2_with fail
      refine (isScore_any _ _ _ _ hl hA).mono ?_
      rintro e w1 ⟨rfl, hb1⟩
      have HA1 := Lib.hid (hA.below hb1)
      have HB1 := Lib.hid (hB.below hb1)
      have hb1' := hb1
      go_wp2_with (first
        | (go_at_call 24; refine (isScore_any _ _ _ _ hm HB1.out).mono ?_; rintro e w2 ⟨rfl, hb2⟩; have hb12 := Lib.hid (hb1'.trans (hb2.mono hb1'.size)); have HA2 := Lib.hid (HA1.out.below hb2); have HB2 := Lib.hid (HB1.out.below hb2); clear hb2)
        | (go_at_call 55; refine (concat2_any _ A B l m c d _ h30 h30' (by simp) (by rw [World.cell?_alloc_new]; rfl) (by rw [World.cell?_alloc_new]; rfl) (HA2.out.alloc _) (HB2.out.alloc _) hA0 hB0).mono ?_; rintro e w3 ⟨v3, rfl, ho3, hb3⟩; have HBL3 := Lib.hid ((hb12.out.alloc hb12.out.size _).trans (hb3.mono (hb12.out.alloc hb12.out.size _).size)); obtain ⟨A4, c4, rfl, hA4, hc4, hc5⟩ := ho3.form'; have HF := Lib.hid ho3.form3.1; have HA4 := Lib.hid hA4; have HC4 := Lib.hid hc4; clear ho3 hb3 hA4 hc4 hc5)
        | (go_at_call 54; refine (implSort_n A4 (l ++ m) _ c4 _ (by simp) (by simp; omega) HC4.out HA4.out HF.out).mono ?_; rintro e w5 ⟨v5, rfl, ho5, hb6⟩))
      go_ret2
      have hB3 := HBL3.out
      have hO5 := ho5.mono hB3.size
      have hB6 := hB3.trans (hb6.mono hB3.size)
      simp only [Bool.true_and]
      exact RetScore.mk rfl hO5 hB6
end Go.Proofs.YtogklldofhcohaaDoor
