/- Contracts: AddTempo of the program. -/
import Derived.Test.YtakmlgkcinjecaaInsert
import Derived.Test.YtakmlgkcinjecaaAddP
namespace Go.Proofs.Ytakmlgkcinjecaa
open Go.RowKit
set_option linter.unusedVariables false
set_option linter.unusedSimpArgs false

/-- Tempos, or nothing. -/
def onlyT (l : List Nt2) : List Nt2 := if goodT l = true then l else []
theorem onlyT_true {l : List Nt2} (h : goodT l = true) : onlyT l = l := if_pos h
theorem onlyT_false {l : List Nt2} (h : goodT l = false) : onlyT l = [] := by unfold onlyT; rw [h]; rfl
theorem onlyT_len (l : List Nt2) : (onlyT l).length ≤ l.length := by
  cases h : goodT l with
  | true => rw [onlyT_true h]; exact Nat.le_refl _
  | false => rw [onlyT_false h]; simp

set_option maxHeartbeats 1000000 in
theorem temposOnly_any (v : Value) (l : List Nt2) (base B : Nat) (w0 w : World) (hn : l.length ≤ 1048576) (hv : Own2 w base 32 v l) (hB : Below B w0 w) (hB0 : B ≤ w0.heap.size) :
    Calls Try.prog 38 #[v] w fun e w' => ∃ u, e = .returned (.tuple #[u, .bool (goodT l)]) ∧ Own2 w' base 32 u (onlyT l) ∧ Below B w0 w' := by
  have HV := Lib.hid hv
  obtain ⟨A, c, rfl, hA⟩ := hv.form
  clear hv
  cases hgb : goodT l with
  | false =>
    rw [onlyT_false hgb]
    have hG := fun (w : World) (hA : RA2 w A l) => areTempos_any A l c w hn hA
    rw [hgb] at hG
    have HG := Lib.hid hG
    clear hG hgb
    go_enter Try.func38, Try.ntmps38
    go_wp2_with fail
    refine (HG.out _ hA).mono ?_
    rintro e w1 ⟨rfl, hb1⟩
    go_wp2
    go_ret2
    exact ⟨_, rfl, Own2.nil _ _ _, hB.trans (hb1.mono (Nat.le_trans hB0 hB.size))⟩
  | true =>
    rw [onlyT_true hgb]
    have hG := fun (w : World) (hA : RA2 w A l) => areTempos_any A l c w hn hA
    rw [hgb] at hG
    have HG := Lib.hid hG
    clear hG hgb
    go_enter Try.func38, Try.ntmps38
    go_wp2_with fail
    refine (HG.out _ hA).mono ?_
    rintro e w1 ⟨rfl, hb1⟩
    have HO := Lib.hid (HV.out.below hb1 (Nat.le_refl _))
    go_wp2
    go_ret2
    exact ⟨_, rfl, HO.out, hB.trans (hb1.mono (Nat.le_trans hB0 hB.size))⟩

/-- The struct that a parameter's box holds. -/
theorem box_facts (w : World) (s p : Int) (t : TypeId) : Below w.heap.size w (w.alloc (.cells #[.int .i64 s, .int .i64 p] t)) ∧
    Hid (∀ W : World, Below (w.heap.size + 1) (w.alloc (.cells #[.int .i64 s, .int .i64 p] t)) W → W.cell? ⟨w.heap.size, 0, none⟩ = some (.int .i64 s) ∧ W.cell? ⟨w.heap.size, 1, none⟩ = some (.int .i64 p)) := by
  refine ⟨(Below.refl _ _).alloc (Nat.le_refl _) _, fun W hb => ?_⟩
  exact ⟨(hb.cell (p := ⟨w.heap.size, 0, none⟩) (Nat.lt_succ_self w.heap.size)).trans ((World.cell?_alloc_new w _ _ 0).trans rfl), (hb.cell (p := ⟨w.heap.size, 1, none⟩) (Nat.lt_succ_self w.heap.size)).trans ((World.cell?_alloc_new w _ _ 1).trans rfl)⟩

set_option maxRecDepth 100000 in
set_option maxHeartbeats 1000000 in
theorem implAddTempo_no (A : Option Addr) (l : List Nt2) (c : Nat) (s p : Int) (w : World) (hn : l.length ≤ 1048576) (hA : RA2 w A l) (hbad : (goodT l && chB (s, p)) = false) :
    Calls Try.prog 14 #[.slice A l.length c, .agg #[.int .i64 s, .int .i64 p]] w fun e w' => ∃ v, e = .returned (.tuple #[v, .bool false]) ∧ Own2 w' w.heap.size 32 v [] ∧ Below w.heap.size w w' := by
  obtain ⟨hB0, HBX⟩ := box_facts w s p 32
  cases hg : goodT l with
  | false =>
    have HG := areTempos_quick A l c false hn hg
    clear hg hbad
    go_enter Try.func14, Try.ntmps14
    go_wp2_with (go_at_call 18; refine (HG.out _ (hA.below hB0)).mono ?_; rintro e w1 ⟨rfl, hb1⟩)
    go_ret2
    exact ⟨_, rfl, Own2.nil _ _ _, hB0.trans (hb1.mono hB0.size)⟩
  | true =>
    have hx : chB (s, p) = false := by rw [hg] at hbad; simpa using hbad
    have HG := areTempos_quick A l c true hn hg
    have hC := fun w => isChange_any s p w
    rw [hx] at hC
    have HC := Lib.hid hC
    clear hg hbad hC hx
    go_enter Try.func14, Try.ntmps14
    go_wp2_with (first
      | (go_at_call 18; refine (HG.out _ (hA.below hB0)).mono ?_; rintro e w1 ⟨rfl, hb1⟩; obtain ⟨x0, x1⟩ := HBX.out w1 (by simpa using hb1))
      | (go_at_call 35; refine (HC.out _).mono ?_; rintro e w2 ⟨rfl, hb2⟩))
    go_ret2
    exact ⟨_, rfl, Own2.nil _ _ _, (hB0.trans (hb1.mono hB0.size)).trans (hb2.mono (Nat.le_trans hB0.size hb1.size))⟩

theorem own_put2 {w : World} {base t g c j : Nat} {l : List Nt2} (h : Own2 w base t (.slice (some ⟨g, 0, none⟩) l.length c) l) (nq : Nat) (a p : Int) (hj : j < l.length) :
    Own2 (((w.drewN nq).setCell ⟨g, j * 2, none⟩ (.int .i64 a)).setCell ⟨g, j * 2 + 1, none⟩ (.int .i64 p)) base t (.slice (some ⟨g, 0, none⟩) l.length c) (l.set j (a, p)) := by
  have hown2 := h.below (below_drewN (Below.refl w.heap.size w) nq) (Nat.le_refl _)
  unfold Own2 at hown2
  have k2 := ((hown2.stored (j * 2) (.int .i64 a)).1.stored (j * 2 + 1) (.int .i64 p)).1
  rw [cl2_set _ _ (a, p) hj] at k2
  unfold Own2
  rw [List.length_set]
  exact k2

theorem insertAll_any (g n c b k : Nat) (z : Int) (hz : z = (k : Int)) (l : List Nt2) (x : Nt2) (base B : Nat) (w0 w : World) (hl : l.length = n) (hk : k ≤ n) (hn : l.length ≤ 1000000) (hown : Own2 w base 32 (.slice (some ⟨g, 0, none⟩) n c) l)
    (hv : w.heap[b]? = some (.cells #[.int .i64 x.1, .int .i64 x.2] 32 (0, 0))) (hbg : b ≠ g) (hB : Below B w0 w) (hBg : B ≤ g) (hB0 : B ≤ w0.heap.size) :
    Calls Try.prog 39 #[.slice (some ⟨g, 0, none⟩) n c, .int .i64 z, .slice (some ⟨b, 0, none⟩) 1 1] w fun e w' => ∃ v, e = .returned v ∧ Own2 w' base 32 v (l.take k ++ x :: l.drop k) ∧ Below B w0 w' := by
  subst hz
  have hr := hown.room
  rcases Nat.lt_or_ge k n with h | h
  · obtain ⟨r, rfl⟩ : ∃ r, n = k + 1 + r := ⟨n - (k + 1), by omega⟩
    rcases Nat.lt_or_ge c (k + 1 + r + 1) with h2 | h2
    · exact insertNew_any g k r c b l x base B w0 w hl hn hown h2 hv hB hBg hB0
    · exact insertIn_any g k r c b l x base B w0 w hl hn hown h2 hv hbg hB hBg hB0
  · obtain rfl : k = n := by omega
    have h := insertEnd_any g k c b l x base B w0 w hl hn hown (by omega) hv hB hBg hB0
    rw [show l.take k ++ x :: l.drop k = l ++ [x] by rw [List.take_of_length_le (by omega), List.drop_eq_nil_of_le (by omega)]]
    exact h

set_option maxRecDepth 100000 in
set_option maxHeartbeats 2000000 in
theorem implAddTempo_yes (A : Nat) (l : List Nt2) (c : Nat) (s p : Int) (w : World) (hn : l.length ≤ 1048576) (hc' : c ≤ 9223372036854775807) (hA : RA2 w (some ⟨A, 0, none⟩) l) (hg : goodT l = true) (hx : chB (s, p) = true) :
    Calls Try.prog 14 #[.slice (some ⟨A, 0, none⟩) l.length c, .agg #[.int .i64 s, .int .i64 p]] w fun e w' => ∃ v, e = .returned (.tuple #[v, .bool (goodT (outT l (s, p)))]) ∧ Own2 w' w.heap.size 32 v (onlyT (outT l (s, p))) ∧ Below w.heap.size w w' := by
  obtain ⟨hB0, HBX⟩ := box_facts w s p 32
  have hT := goodT.tmp hg
  have hs := (chB_iff (s, p)).1 hx
  have HG := areTempos_quick (some ⟨A, 0, none⟩) l c true hn hg
  have hC := fun w => isChange_any s p w
  rw [hx] at hC
  have HC := Lib.hid hC
  have hj := atT_lt hT.pos s
  have hfew := hT.few
  have HJ : Hid (atT l s < l.length ∧ l.length ≤ 20) := Lib.hid ⟨hj, hfew⟩
  have HSAME := Lib.hid fun (he : stp l (atT l s) = s) => (⟨outT_same hT (x := (s, p)) hs.1.1 he, set_good hT hx he⟩ : outT l (s, p) = l.set (atT l s) (s, p) ∧ goodT (l.set (atT l s) (s, p)) = true)
  have HNEW := Lib.hid fun (he : stp l (atT l s) ≠ s) => outT_new hT (x := (s, p)) hs.1.1 he
  have HF := Lib.hid fun (W : World) (hA : RA2 W (some ⟨A, 0, none⟩) l) => changeFor_any (some ⟨A, 0, none⟩) l c s W hn hA
  generalize atT l s = j at *
  have hxx : l[j]? = some l[j] := List.getElem?_eq_getElem hj
  generalize l[j] = y at hxx
  obtain ⟨s', p'⟩ := y
  have HY := Lib.hid hxx
  clear hg hx hC hT hs hj hfew hxx
  go_enter Try.func14, Try.ntmps14
  go_wp2_with (first
    | (go_at_call 18; refine (HG.out _ (hA.below hB0)).mono ?_; rintro e w1 ⟨rfl, hb1⟩; obtain ⟨x0, x1⟩ := HBX.out w1 (by simpa using hb1); have HB1 := Lib.hid (show Below (w.heap.size + 1) (w.alloc (.cells #[.int .i64 s, .int .i64 p] 32)) w1 from by simpa using hb1))
    | (go_at_call 35; refine (HC.out _).mono ?_; rintro e w2 ⟨rfl, hb2⟩; have HB2 := Lib.hid (HB1.out.trans (hb2.mono (by simpa using HB1.out.size))); obtain ⟨y0, y1⟩ := HBX.out w2 HB2.out)
    | (go_at_call 36; refine (HF.out _ (hA.below (hB0.trans (HB2.out.mono (by simp))))).mono ?_; rintro e w3 ⟨rfl, hb3⟩; have HB3 := Lib.hid (HB2.out.trans (hb3.mono (by simpa using HB2.out.size))); clear x0 x1 y0 y1))
  refine (cloneChange_any A _ l c _ rfl hn hc' (hA.below (hB0.trans (HB3.out.mono (by simp))))).mono ?_
  rintro e w4 ⟨v, rfl, ho4, hb4⟩
  have HB4 := Lib.hid (HB3.out.trans (hb4.mono (by simpa using HB3.out.size)))
  have hz4 : w.heap.size + 1 ≤ w3.heap.size := by simpa using HB3.out.size
  obtain ⟨g, c2, rfl⟩ := ho4.some (by have := HJ.out; omega)
  have hgr := ho4.room.2.2.2
  have HO4 := Lib.hid (ho4.mono (show w.heap.size ≤ w3.heap.size by omega))
  obtain ⟨hgg, d0, d1⟩ := ho4.ra.at j _ HY.out
  simp only [Nat.zero_add] at d0 d1
  obtain ⟨x0, x1⟩ := HBX.out w4 HB4.out
  have hji : (j : Int) < (l.length : Int) := by have := HJ.out; omega
  have hz5 : w.heap.size ≤ w4.heap.size := by omega
  clear ho4 hb1 hb2 hb3 hb4
  by_cases he : s' = s
  · subst he
    have HR := Lib.hid (HSAME.out (stp_of HY.out))
    have hown := HO4.out
    unfold Own2 at hown
    have f0 := hown.frozenAt (j * 2)
    have f1 := hown.frozenAt (j * 2 + 1)
    clear hown
    go_wp2_with fail
    go_quiet (fail)
    go_wp2
    go_ret2
    have hB4 := hB0.trans (HB4.out.mono (by simp))
    refine ⟨.slice (some ⟨g, 0, none⟩) l.length c2, by rw [HR.out.1, HR.out.2]; rfl, ?_, ((below_drewN hB4 _).setCell (show w.heap.size ≤ g by omega) _).setCell (show w.heap.size ≤ g by omega) _⟩
    rw [HR.out.1, onlyT_true HR.out.2]
    exact own_put2 HO4.out _ _ _ HJ.out.1
  · have HR := Lib.hid (HNEW.out (by rw [stp_of HY.out]; exact he))
    have hne : (s' == s) = false := by simp [he]
    go_wp2_with fail
    go_quiet (fail)
    go_wp2_with (first
      | (go_at_call 39; refine (insertAll_any g l.length c2 w4.heap.size (j + 1) _ (by omega) l (s, p) w.heap.size w.heap.size w _ rfl (by have := HJ.out; omega) (by have := HJ.out; omega) (HO4.out.below ((below_drewN (Below.refl _ _) _).alloc (Nat.le_refl _) _) (Nat.le_refl _)) (heap_alloc_new (w4.drewN _) _) (by omega) ((below_drewN (hB0.trans (HB4.out.mono (by simp))) _).alloc hz5 _) (by omega) (Nat.le_refl _)).mono ?_; rintro e w5 ⟨v5, rfl, ho5, hB5⟩; have HO5 := Lib.hid ho5; have HB5 := Lib.hid hB5; clear ho5 hB5)
      | (go_at_call 38; refine (temposOnly_any v5 _ w.heap.size w.heap.size w _ (by simp; have := HJ.out; omega) HO5.out HB5.out (Nat.le_refl _)).mono ?_; rintro e w6 ⟨v6, rfl, ho6, hB6⟩))
    go_ret2
    exact ⟨_, by rw [HR.out]; rfl, by rw [HR.out]; exact ho6, hB6⟩

end Go.Proofs.Ytakmlgkcinjecaa
