/- Contracts: AddHole of the model and of the program. -/
import Derived.Test.YtjjohenpapfabaaOrd
import Derived.Test.YtjjohenpapfabaaSorted
namespace Go.Proofs.Ytjjohenpapfabaa
open Go.RowKit Go.Sort
set_option linter.unusedVariables false
set_option linter.unusedSimpArgs false

theorem Own.form_n {w : World} {base t : Nat} {v : Value} {l : List Nt} (h : Own w base t v l) {n : Nat} (hn : l.length = n) : ∃ A c, v = .slice A n c ∧ RA w A l ∧ n ≤ c ∧ c ≤ maxLen := by
  subst hn; exact h.form'
theorem shSorted_n (A : Option Addr) (l : List Nt) (n c : Nat) (w : World) (hln : l.length = n) (hn : n ≤ 100000) (hA : RA w A l) :
    Calls Try.prog 80 #[.slice A n c] w fun e w' => RetScore w (canon l) (goodB (canon l)) e w' := by
  subst hln; exact ntSorted_any A l c w hn hA

theorem bel0 (V : World) : Below V.heap.size V V.drew := (Below.refl _ _).drew

set_option maxRecDepth 100000 in
set_option maxHeartbeats 4000000 in
theorem shWith_any (A : Nat) (l : List Nt) (c : Nat) (p s n : Int) (w : World) (hn : l.length ≤ 60) (hA : RA w (some ⟨A, 0, none⟩) l) :
    Calls Try.prog 67 #[.slice (some ⟨A, 0, none⟩) l.length c, .agg #[.int .i64 p, .int .i64 s, .int .i64 n]] w fun e w' => RetScore w (canon (l ++ [(p, s, n)])) (goodB (canon (l ++ [(p, s, n)]))) e w' := by
  have hRV := Lib.hid (hA.alloc (.cells #[.int .i64 p, .int .i64 s, .int .i64 n] 34))
  have hxc : ∀ j, (w.alloc (.cells #[.int .i64 p, .int .i64 s, .int .i64 n] 34)).cell? ⟨w.heap.size, j, none⟩ = #[Value.int .i64 p, .int .i64 s, .int .i64 n][j]? := fun j => World.cell?_alloc_new w _ _ j
  have hbV : Below w.heap.size w (w.alloc (.cells #[.int .i64 p, .int .i64 s, .int .i64 n] 34)) := (Below.refl _ _).alloc (Nat.le_refl _) _
  have hzV : w.heap.size < (w.alloc (.cells #[.int .i64 p, .int .i64 s, .int .i64 n] 34)).heap.size := by simp
  go_enter Try.func67, Try.ntmps67
  go_wp2_with fail
  generalize w.alloc (.cells #[.int .i64 p, .int .i64 s, .int .i64 n] 34) = V at *
  have x0 : V.cell? ⟨w.heap.size, 0, none⟩ = some (.int .i64 p) := hxc 0
  have x1 : V.cell? ⟨w.heap.size, 1, none⟩ = some (.int .i64 s) := hxc 1
  have x2 : V.cell? ⟨w.heap.size, 2, none⟩ = some (.int .i64 n) := hxc 2
  clear hxc hA
  generalize hxb : w.heap.size = xb at *
  have HBV := Lib.hid hbV
  have HXB := Lib.hid hxb
  clear hbV hxb
  have hne : xb ≠ V.heap.size := by omega
  go_region_held3 (fun w' => w'.cell? ⟨xb, 0, none⟩ = some (.int .i64 p) ∧ w'.cell? ⟨xb, 1, none⟩ = some (.int .i64 s) ∧ w'.cell? ⟨xb, 2, none⟩ = some (.int .i64 n))
    (first | go_keep | assumption)
    (first
      | ((refine step_appHole rfl (.tmp 6) (.tmp 7) rfl V.heap.size _ [] rfl (Own.empty (by first | exact heap_alloc_new _ _ | exact heap_old (heap_alloc_new _ _) | exact heap_new1 _ _ _) (by first | exact Nat.le_refl _ | (simp; done))) _ l.length c l rfl rfl (fun h => by cases h) (by first | exact hRV.out.alloc _ | exact (hRV.out.alloc _).alloc _) (by simp; try omega) (by simp; try omega) ?_); intro v1 w1 ho1 hg1; go_loud (have hB1 := Lib.hid (show Below V.heap.size V w1 from Below.grown (by first | exact bel1 _ _ | exact bel2 _ _ _) hg1 (by first | exact (bel1 _ _).size | exact (bel2 _ _ _).size) (fun k hk => by first | exact Nat.le_of_eq (own_row hk) | exact Nat.le_trans (Nat.le_succ _) (Nat.le_of_eq (own_row hk))))); have s1 : w1.cell? ⟨xb, 0, none⟩ = some (.int .i64 p) ∧ w1.cell? ⟨xb, 1, none⟩ = some (.int .i64 s) ∧ w1.cell? ⟨xb, 2, none⟩ = some (.int .i64 n) := ⟨(hB1.out.cell (p := ⟨xb, 0, none⟩) hzV).trans x0, (hB1.out.cell (p := ⟨xb, 1, none⟩) hzV).trans x1, (hB1.out.cell (p := ⟨xb, 2, none⟩) hzV).trans x2⟩; have HO1 := Lib.hid ho1; have HG1 := Lib.hid (show World.grownBy _ w1 (some _) from hg1); clear ho1 hg1)
      | ((refine step_appHole rfl (.tmp 8) (.tmp 10) rfl V.heap.size _ _ rfl (by first | exact HO1.out | exact HO1.out.alloc _) _ 1 1 [(p, s, n)] rfl rfl (fun h => by cases h) (RA.one (by first | exact heap_alloc_new _ _ | exact (HG1.out.block _ (by first | (simp; done) | (simp; omega)) (by first | (simp; done) | (simp; omega))).trans (by first | exact heap_alloc_new _ _ | exact heap_old (heap_alloc_new _ _) | exact heap_new1 _ _ _))) (by simp; try omega) (by first | exact hB1.out.size | exact (hB1.out.alloc hB1.out.size _).size) ?_); intro v2 w2 ho2 hg2; have hB2 := Lib.hid (show Below V.heap.size V w2 from Below.grown (by first | exact hB1.out | exact hB1.out.alloc hB1.out.size _) hg2 (by first | exact hB1.out.size | exact (hB1.out.alloc hB1.out.size _).size) (fun k hk => (HO1.out.lt k hk).1)); have s2 : w2.cell? ⟨xb, 0, none⟩ = some (.int .i64 p) ∧ w2.cell? ⟨xb, 1, none⟩ = some (.int .i64 s) ∧ w2.cell? ⟨xb, 2, none⟩ = some (.int .i64 n) := ⟨(hB2.out.cell (p := ⟨xb, 0, none⟩) hzV).trans x0, (hB2.out.cell (p := ⟨xb, 1, none⟩) hzV).trans x1, (hB2.out.cell (p := ⟨xb, 2, none⟩) hzV).trans x2⟩; obtain ⟨O2, oc2, rfl, hO2, hoc2, hocm2⟩ := Own.form_n (n := l.length + 1) ho2 (by simp); have HO2 := Lib.hid hO2; clear ho2 hg2 hO2 hoc2 hocm2)
      | (go_at_call 80; refine (shSorted_n O2 (([] ++ l) ++ [(p, s, n)]) (l.length + 1) oc2 _ (by simp) (by omega) HO2.out).mono ?_; rintro e w4 ⟨v4, rfl, ho4, hb4⟩; have hB4 := Lib.hid (hB2.out.trans (hb4.mono hB2.out.size)); have HO4 := Lib.hid (ho4.mono hB2.out.size); have s4 : w4.cell? ⟨xb, 0, none⟩ = some (.int .i64 p) ∧ w4.cell? ⟨xb, 1, none⟩ = some (.int .i64 s) ∧ w4.cell? ⟨xb, 2, none⟩ = some (.int .i64 n) := ⟨(hB4.out.cell (p := ⟨xb, 0, none⟩) hzV).trans x0, (hB4.out.cell (p := ⟨xb, 1, none⟩) hzV).trans x1, (hB4.out.cell (p := ⟨xb, 2, none⟩) hzV).trans x2⟩; clear ho4 hb4))
  all_goals
    go_wp2
    go_ret2
    refine ⟨_, rfl, ?_, ?_⟩
    · rw [HXB.out]; simpa using HO4.out.mono (Nat.le_of_lt hzV)
    · rw [HXB.out]; exact HBV.out.trans (hB4.out.mono (Nat.le_of_lt hzV))

set_option maxRecDepth 100000 in
set_option maxHeartbeats 1000000 in
theorem specAddHole_any (A : Nat) (l : List Nt) (c : Nat) (p s n : Int) (w : World) (hn : l.length ≤ 1048576) (hc : l.length ≤ c) (hc' : c ≤ 9223372036854775807) (hA : RA w (some ⟨A, 0, none⟩) l) :
    Calls Try.prog 30 #[.slice (some ⟨A, 0, none⟩) l.length c, .agg #[.int .i64 p, .int .i64 s, .int .i64 n]] w fun e w' => RetScore w (canon (l ++ [(p, s, n)])) (goodB l && goodB (canon (l ++ [(p, s, n)]))) e w' := by
  have hA1 := hA.alloc (.cells #[.int .i64 p, .int .i64 s, .int .i64 n] 34)
  have hxc : ∀ j, (w.alloc (.cells #[.int .i64 p, .int .i64 s, .int .i64 n] 34)).cell? ⟨w.heap.size, j, none⟩ = #[Value.int .i64 p, .int .i64 s, .int .i64 n][j]? := fun j => World.cell?_alloc_new w _ _ j
  have hbV : Below w.heap.size w (w.alloc (.cells #[.int .i64 p, .int .i64 s, .int .i64 n] 34)) := (Below.refl _ _).alloc (Nat.le_refl _) _
  have hzV : w.heap.size < (w.alloc (.cells #[.int .i64 p, .int .i64 s, .int .i64 n] 34)).heap.size := by simp
  cases hg : goodB l with
  | false =>
    have HG := shGood_quick (some ⟨A, 0, none⟩) l c false hn hc hc' hg
    clear hg
    go_enter Try.func30, Try.ntmps30
    go_wp2_with (go_at_call 64; refine (HG.out _ hA1).mono ?_; rintro e w1 ⟨rfl, hb1⟩)
    go_ret2
    exact ⟨_, rfl, by simpa using Own.nil _ _ _, hbV.trans (hb1.mono (Nat.le_of_lt hzV))⟩
  | true =>
    have h60 := ((goodB_iff l).1 hg).2
    have HG := shGood_quick (some ⟨A, 0, none⟩) l c true hn hc hc' hg
    clear hg
    cases hv : noteB p s n with
    | false =>
      rw [canon_bad (l := l) (x := (p, s, n)) hv]
      go_enter Try.func30, Try.ntmps30
      go_wp2_with fail
      generalize w.alloc (.cells #[.int .i64 p, .int .i64 s, .int .i64 n] 34) = V at *
      refine (HG.out _ hA1).mono ?_
      rintro e w1 ⟨rfl, hb1⟩
      have x0 : w1.cell? ⟨w.heap.size, 0, none⟩ = some (.int .i64 p) := (hb1.cell (p := ⟨w.heap.size, 0, none⟩) hzV).trans (hxc 0)
      have x1 : w1.cell? ⟨w.heap.size, 1, none⟩ = some (.int .i64 s) := (hb1.cell (p := ⟨w.heap.size, 1, none⟩) hzV).trans (hxc 1)
      have x2 : w1.cell? ⟨w.heap.size, 2, none⟩ = some (.int .i64 n) := (hb1.cell (p := ⟨w.heap.size, 2, none⟩) hzV).trans (hxc 2)
      have hzV1 : w.heap.size < w1.heap.size := Nat.lt_of_lt_of_le hzV hb1.size
      go_wp2_with fail
      refine (ntNote_any _ _ _ _).mono ?_
      rintro e w2 ⟨rfl, hb2⟩
      rw [hv]
      go_wp2
      go_ret2
      exact ⟨_, rfl, by simpa using Own.nil _ _ _, (hbV.trans (hb1.mono (Nat.le_of_lt hzV))).trans (hb2.mono (Nat.le_of_lt hzV1))⟩
    | true =>
      go_enter Try.func30, Try.ntmps30
      go_wp2_with fail
      generalize w.alloc (.cells #[.int .i64 p, .int .i64 s, .int .i64 n] 34) = V at *
      refine (HG.out _ hA1).mono ?_
      rintro e w1 ⟨rfl, hb1⟩
      have hA2 := hA1.below hb1
      have x0 : w1.cell? ⟨w.heap.size, 0, none⟩ = some (.int .i64 p) := (hb1.cell (p := ⟨w.heap.size, 0, none⟩) hzV).trans (hxc 0)
      have x1 : w1.cell? ⟨w.heap.size, 1, none⟩ = some (.int .i64 s) := (hb1.cell (p := ⟨w.heap.size, 1, none⟩) hzV).trans (hxc 1)
      have x2 : w1.cell? ⟨w.heap.size, 2, none⟩ = some (.int .i64 n) := (hb1.cell (p := ⟨w.heap.size, 2, none⟩) hzV).trans (hxc 2)
      have hzV1 : w.heap.size < w1.heap.size := Nat.lt_of_lt_of_le hzV hb1.size
      go_wp2_with fail
      refine (ntNote_any _ _ _ _).mono ?_
      rintro e w2 ⟨rfl, hb2⟩
      rw [hv]
      have hA3 := hA2.below hb2
      have y0 := (hb2.cell (p := ⟨w.heap.size, 0, none⟩) hzV1).trans x0
      have y1 := (hb2.cell (p := ⟨w.heap.size, 1, none⟩) hzV1).trans x1
      have y2 := (hb2.cell (p := ⟨w.heap.size, 2, none⟩) hzV1).trans x2
      have hB2 := Lib.hid ((hbV.trans (hb1.mono (Nat.le_of_lt hzV))).trans (hb2.mono (Nat.le_of_lt hzV1)))
      clear hxc hA hA1 hA2 x0 x1 x2 hbV hb1 hb2
      go_wp2_with fail
      refine (shWith_any A l c p s n _ h60 hA3).mono ?_
      rintro e w3 ⟨v3, rfl, ho3, hb3⟩
      go_wp2
      go_ret2
      exact ⟨_, rfl, by simpa using ho3.mono hB2.out.size, hB2.out.trans (hb3.mono hB2.out.size)⟩

set_option maxRecDepth 100000 in
set_option maxHeartbeats 4000000 in
theorem implAddHole_any (A : Nat) (l : List Nt) (c : Nat) (p s n : Int) (w : World) (hn : l.length ≤ 1048576) (hc' : c ≤ 9223372036854775807) (hA : RA w (some ⟨A, 0, none⟩) l) :
    Calls Try.prog 31 #[.slice (some ⟨A, 0, none⟩) l.length c, .agg #[.int .i64 p, .int .i64 s, .int .i64 n]] w fun e w' => RetScore w (canon (l ++ [(p, s, n)])) (goodB l && goodB (canon (l ++ [(p, s, n)]))) e w' := by
  have hA1 := hA.alloc (.cells #[.int .i64 p, .int .i64 s, .int .i64 n] 34)
  have hxc : ∀ j, (w.alloc (.cells #[.int .i64 p, .int .i64 s, .int .i64 n] 34)).cell? ⟨w.heap.size, j, none⟩ = #[Value.int .i64 p, .int .i64 s, .int .i64 n][j]? := fun j => World.cell?_alloc_new w _ _ j
  have hbV : Below w.heap.size w (w.alloc (.cells #[.int .i64 p, .int .i64 s, .int .i64 n] 34)) := (Below.refl _ _).alloc (Nat.le_refl _) _
  have hzV : w.heap.size < (w.alloc (.cells #[.int .i64 p, .int .i64 s, .int .i64 n] 34)).heap.size := by simp
  cases hg : goodB l with
  | false =>
    have HG := isSheet_quick (some ⟨A, 0, none⟩) l c false hn hg
    clear hg
    go_enter Try.func31, Try.ntmps31
    go_wp2_with (go_at_call 28; refine (HG.out _ hA1).mono ?_; rintro e w1 ⟨rfl, hb1⟩)
    go_ret2
    exact ⟨_, rfl, by simpa using Own.nil _ _ _, hbV.trans (hb1.mono (Nat.le_of_lt hzV))⟩
  | true =>
    have h60 := ((goodB_iff l).1 hg).2
    have HG := isSheet_quick (some ⟨A, 0, none⟩) l c true hn hg
    clear hg
    go_enter Try.func31, Try.ntmps31
    go_wp2_with fail
    generalize w.alloc (.cells #[.int .i64 p, .int .i64 s, .int .i64 n] 34) = V0 at *
    refine (HG.out _ hA1).mono ?_
    rintro e V ⟨rfl, hb1⟩
    have hRV := Lib.hid (hA1.below hb1)
    have x0 : V.cell? ⟨w.heap.size, 0, none⟩ = some (.int .i64 p) := (hb1.cell (p := ⟨w.heap.size, 0, none⟩) hzV).trans (hxc 0)
    have x1 : V.cell? ⟨w.heap.size, 1, none⟩ = some (.int .i64 s) := (hb1.cell (p := ⟨w.heap.size, 1, none⟩) hzV).trans (hxc 1)
    have x2 : V.cell? ⟨w.heap.size, 2, none⟩ = some (.int .i64 n) := (hb1.cell (p := ⟨w.heap.size, 2, none⟩) hzV).trans (hxc 2)
    have hzV1 : w.heap.size < V.heap.size := Nat.lt_of_lt_of_le hzV hb1.size
    have hbV1 := hbV.trans (hb1.mono (Nat.le_of_lt hzV))
    have hn' := Lib.hid hn
    have HC := Lib.hid hc'
    clear hxc hA hA1 hbV hzV hb1 hn hc'
    go_wp2_with fail
    generalize hxb : w.heap.size = xb at *
    have HBV := Lib.hid hbV1
    have HXB := Lib.hid hxb
    clear hbV1 hxb
    have hne : xb ≠ V.heap.size := by omega
    go_region_held3 (fun w' => w'.cell? ⟨xb, 0, none⟩ = some (.int .i64 p) ∧ w'.cell? ⟨xb, 1, none⟩ = some (.int .i64 s) ∧ w'.cell? ⟨xb, 2, none⟩ = some (.int .i64 n))
      (first | go_keep | assumption)
      (first
        | (go_at_call 69; refine (cloneHole_any A _ l c _ rfl hn'.out HC.out (by first | exact hRV.out | exact hRV.out.alloc _)).mono ?_; rintro e w1 ⟨v1, rfl, ho1, hb1⟩; have hB1 := Lib.hid (show Below V.heap.size V w1 from by first | exact (bel0 V).trans hb1 | exact (bel1 V _).trans (hb1.mono (bel1 V _).size)); have HO1 := Lib.hid (show Own w1 V.heap.size 34 v1 l from by first | exact ho1 | exact ho1.mono (bel1 V _).size); have s1 : w1.cell? ⟨xb, 0, none⟩ = some (.int .i64 p) ∧ w1.cell? ⟨xb, 1, none⟩ = some (.int .i64 s) ∧ w1.cell? ⟨xb, 2, none⟩ = some (.int .i64 n) := ⟨(hB1.out.cell (p := ⟨xb, 0, none⟩) hzV1).trans x0, (hB1.out.cell (p := ⟨xb, 1, none⟩) hzV1).trans x1, (hB1.out.cell (p := ⟨xb, 2, none⟩) hzV1).trans x2⟩; have HG1 := Lib.hid (show Below _ _ w1 from hb1); clear ho1 hb1)
        | ((refine step_appHole rfl (.tmp 10) (.tmp 12) rfl V.heap.size _ _ rfl (by first | exact HO1.out | exact HO1.out.alloc _) _ 1 1 [(p, s, n)] rfl rfl (fun h => by cases h) (RA.one (by first | exact heap_alloc_new _ _ | exact (HG1.out.block _ (by first | (simp; done) | (simp; omega))).trans (by first | exact heap_alloc_new _ _ | exact heap_old (heap_alloc_new _ _)))) (by simp; try omega) (by first | exact hB1.out.size | exact (hB1.out.alloc hB1.out.size _).size) ?_); intro v2 w2 ho2 hg2; have hB2 := Lib.hid (show Below V.heap.size V w2 from Below.grown (by first | exact hB1.out | exact hB1.out.alloc hB1.out.size _) hg2 (by first | exact hB1.out.size | exact (hB1.out.alloc hB1.out.size _).size) (fun k hk => (HO1.out.lt k hk).1)); have s2 : w2.cell? ⟨xb, 0, none⟩ = some (.int .i64 p) ∧ w2.cell? ⟨xb, 1, none⟩ = some (.int .i64 s) ∧ w2.cell? ⟨xb, 2, none⟩ = some (.int .i64 n) := ⟨(hB2.out.cell (p := ⟨xb, 0, none⟩) hzV1).trans x0, (hB2.out.cell (p := ⟨xb, 1, none⟩) hzV1).trans x1, (hB2.out.cell (p := ⟨xb, 2, none⟩) hzV1).trans x2⟩; have HO2 := Lib.hid ho2; clear ho2 hg2)
        | (go_at_call 68; refine (ordered_any _ (l ++ [(p, s, n)]) V.heap.size _ (by simp; omega) HO2.out hB2.out.size).mono ?_; rintro e w4 ⟨v4, rfl, ho4, hb4⟩; have hB4 := Lib.hid (hB2.out.trans hb4); have HO4 := Lib.hid ho4; have s4 : w4.cell? ⟨xb, 0, none⟩ = some (.int .i64 p) ∧ w4.cell? ⟨xb, 1, none⟩ = some (.int .i64 s) ∧ w4.cell? ⟨xb, 2, none⟩ = some (.int .i64 n) := ⟨(hB4.out.cell (p := ⟨xb, 0, none⟩) hzV1).trans x0, (hB4.out.cell (p := ⟨xb, 1, none⟩) hzV1).trans x1, (hB4.out.cell (p := ⟨xb, 2, none⟩) hzV1).trans x2⟩; clear ho4 hb4))
    all_goals
      go_wp2
      go_ret2
      refine ⟨_, rfl, ?_, ?_⟩
      · rw [HXB.out]; simpa using HO4.out.mono (Nat.le_of_lt hzV1)
      · rw [HXB.out]; exact HBV.out.trans (hB4.out.mono (Nat.le_of_lt hzV1))

theorem addHole_both (l : List Nt) (s p n : Int) (hbig : l.length ≤ 1048576) : ∃ (G : List Nt) (ok : Bool), G.length ≤ 1048576 ∧
    (∀ (A : Nat) (c : Nat) (W : World), l.length ≤ c → c ≤ 9223372036854775807 → RA W (some ⟨A, 0, none⟩) l → Calls Try.prog 30 #[.slice (some ⟨A, 0, none⟩) l.length c, .agg #[.int .i64 s, .int .i64 p, .int .i64 n]] W fun e W' => ∃ v, e = .returned (.tuple #[v, .bool ok]) ∧ Own W' W.heap.size 34 v G ∧ Below W.heap.size W W') ∧
    (∀ (A : Nat) (c : Nat) (W : World), l.length ≤ c → c ≤ 9223372036854775807 → RA W (some ⟨A, 0, none⟩) l → Calls Try.prog 31 #[.slice (some ⟨A, 0, none⟩) l.length c, .agg #[.int .i64 s, .int .i64 p, .int .i64 n]] W fun e W' => ∃ v, e = .returned (.tuple #[v, .bool ok]) ∧ Own W' W.heap.size 34 v G ∧ Below W.heap.size W W') := by
  refine ⟨if (goodB l && goodB (canon (l ++ [(s, p, n)]))) = true then canon (l ++ [(s, p, n)]) else [], goodB l && goodB (canon (l ++ [(s, p, n)])), ?_, fun A c W h1 h2 hA => specAddHole_any A l c s p n W hbig h1 h2 hA, fun A c W h1 h2 hA => implAddHole_any A l c s p n W hbig h2 hA⟩
  split
  · rename_i h
    have := ((goodB_iff _).1 (Bool.and_eq_true_iff.1 h).2).2
    omega
  · simp
end Go.Proofs.Ytjjohenpapfabaa
