/- MissingPitches: the program's function. -/
import Derived.Test.YtfgfiahampjfiaaDoorMiss
namespace Go.Proofs.YtfgfiahampjfiaaDoor
open Go.RowKit Go.Sort
set_option linter.unusedVariables false
set_option linter.unusedSimpArgs false

/-- The sort of a row of the call's own. -/
theorem sortI_any (v : Value) (zs : List Int) (base : Nat) (w : World) (hl : zs.length ≤ 1000000) (hv : OwnI w base 3 v zs) :
    Calls Tryd.prog 73 #[v] w fun e w' => e = .returned (.tuple #[]) ∧ OwnI w' base 3 v (zs.mergeSort fun x y => decide (x ≤ y)) ∧ w.grownBy w' v.ownBlock := by
  have hv0 := hv
  rcases hv.2 with ⟨rfl, h0⟩ | ⟨g, cap, cur, rfl, hg, hh, hnc, hm, hs, ht⟩
  · obtain rfl : zs = [] := List.eq_nil_of_length_eq_zero h0
    refine (Tryd.slices_Sort_int_none none 0 w).mono ?_
    rintro e w' ⟨rfl, rfl⟩
    exact ⟨rfl, by simpa using hv0, World.grownBy.refl _ _⟩
  · have ht' : cur.toList.take zs.length = zs.map (Value.int .i64) := by have h := ht; rw [Nat.mul_one] at h; exact h
    refine (Tryd.slices_Sort_int g 0 cap zs w (holds_of_blockI hh ht') (hv0.lt _ rfl).2 (by omega)).mono ?_
    rintro e w' ⟨rfl, n, os, rfl⟩
    refine ⟨rfl, ?_, grownBy_sortedI _⟩
    have h := ownsRow_sortedI (n := n) (os := os) (base := base) (cap := cap) (ss := zs) (ts := zs.mergeSort fun x y => decide (x ≤ y)) (by simp) hg hh hnc hm hs
    unfold OwnI
    rw [List.length_mergeSort]
    exact h

/-- The front of a row of the call's own. -/
theorem OwnI.front {w : World} {base g n cap t : Nat} {a b : List Int} (h : OwnI w base t (.slice (some ⟨g, 0, none⟩) n cap) (a ++ b)) : OwnI w base t (.slice (some ⟨g, 0, none⟩) a.length cap) a := by
  rcases h.2 with ⟨hv, _⟩ | ⟨g', cap', cur, hv, hg, hh, hnc, hm, hs, ht⟩
  · cases hv
  · injection hv with e1 e2 e3
    simp only [Option.some.injEq, Addr.mk.injEq, and_true] at e1
    subst e1 e3
    refine ⟨by simp [ci], .inr ⟨g, cap, cur, rfl, hg, hh, by simp at hnc; omega, hm, hs, ?_⟩⟩
    have : cur.toList.take (a.length * 1) = (cur.toList.take ((a ++ b).length * 1)).take (a.length * 1) := by rw [List.take_take]; congr 1; simp
    rw [this, ht, ci_append, Nat.mul_one, ← ci_length a, List.take_left]

theorem compact_length (zs : List Int) : (Lib.compact zs).length ≤ zs.length := by
  unfold Lib.compact Lib.compactUpTo
  rw [List.length_map]
  exact Nat.le_trans (List.length_filter_le _ _) (by simp)

theorem compactI_any (v : Value) (zs : List Int) (base : Nat) (w : World) (hl : zs.length ≤ 1000000) (hv : OwnI w base 3 v zs) :
    Calls Tryd.prog 74 #[v] w fun e w' => ∃ v', e = .returned v' ∧ OwnI w' base 3 v' (Lib.compact zs) ∧ w.grownBy w' v.ownBlock := by
  have hv0 := hv
  rcases hv.2 with ⟨rfl, h0⟩ | ⟨g, cap, cur, rfl, hg, hh, hnc, hm, hs, ht⟩
  · obtain rfl : zs = [] := List.eq_nil_of_length_eq_zero h0
    refine (Tryd.slices_Compact_int_empty none 0 w).mono ?_
    rintro e w' ⟨rfl, rfl⟩
    exact ⟨_, rfl, by simpa [Lib.compact, Lib.compactUpTo] using hv0, World.grownBy.refl _ _⟩
  · have ht' : cur.toList.take zs.length = zs.map (Value.int .i64) := by have h := ht; rw [Nat.mul_one] at h; exact h
    refine (Tryd.slices_Compact_int g 0 cap zs w (holds_of_blockI hh ht') (by omega) hnc).mono ?_
    rintro e w' ⟨rfl, q, rfl⟩
    have hc := compact_length zs
    have h := ownsRow_sortedI (n := q) (os := #[]) (base := base) (cap := cap) (ss := zs) (ts := Lib.compact zs ++ List.replicate (zs.length - (Lib.compact zs).length) 0) (by simp; omega) hg hh hnc hm hs
    have hgr := grownBy_sortedI (w := w) (g := g) (n := q) (os := #[]) (Lib.compact zs ++ List.replicate (zs.length - (Lib.compact zs).length) 0).toArray
    rw [grow_empty] at h hgr
    refine ⟨_, rfl, ?_, hgr⟩
    refine OwnI.front (n := zs.length) (b := List.replicate (zs.length - (Lib.compact zs).length) 0) ?_
    have e : (Lib.compact zs ++ List.replicate (zs.length - (Lib.compact zs).length) (0 : Int)).length = zs.length := by simp; omega
    unfold OwnI
    rw [e]
    exact h

set_option maxRecDepth 100000 in
set_option maxHeartbeats 4000000 in
theorem implMiss_any (A : Option Addr) (l : List Int) (c : Nat) (r : Int) (M : Option Addr) (m : List Nt) (d : Nat) (w : World) (hn : l.length ≤ 1048576) (hA : RI w A l) (hm : m.length ≤ 1048576) (hM : RA w M m) (hL : Lim w) :
    Calls Tryd.prog 28 #[.agg #[.slice A l.length c, .int .i64 r], .slice M m.length d] w fun e w' => RetI w (atF (misB l) m) (gdI l r && goodB m) e w' := by
  have hb0 : Below w.heap.size w (w.alloc (.cells #[.slice A l.length c, .int .i64 r] 27)) := (Below.refl w.heap.size w).alloc (Nat.le_refl _) _
  obtain ⟨x0, x1, hz⟩ := Box.new w A l.length c r 27
  have hA := hA.below hb0
  have hM := hM.below hb0
  have hL := hL.below hb0
  go_enter Tryd.func28, Tryd.ntmps28
  go_wp2_with fail
  generalize w.alloc (.cells #[.slice A l.length c, .int .i64 r] 27) = W at *
  refine (isIns_any _ _ _ _ _ hn hA hL).mono ?_
  rintro e w1 ⟨rfl, hb1⟩
  have hB1 := hb0.trans (hb1.mono hb0.size)
  cases hg : gdI l r with
  | false =>
    go_wp2
    go_ret2
    rw [hg, Bool.false_and]
    exact ⟨_, rfl, by simpa using OwnI.nil w1 w.heap.size 3, hB1⟩
  | true =>
    have HG := Lib.hid hg
    clear hg
    go_wp2_with fail
    refine (isScore_any _ _ _ _ hm (hM.below hb1)).mono ?_
    rintro e w2 ⟨rfl, hb2⟩
    have hb12 := hb1.trans (hb2.mono hb1.size)
    have hB2 := hB1.trans (hb2.mono hB1.size)
    cases hgb : goodB m with
    | false =>
      have HB := Lib.hid hgb
      go_wp2
      go_ret2
      rw [HG.out, HB.out, Bool.and_false]
      exact ⟨_, rfl, by simpa using OwnI.nil w2 w.heap.size 3, hB2⟩
    | true =>
      have hgood := (goodB_iff m).1 hgb
      have h30 := hgood.2
      have HB := Lib.hid hgb
      clear hgb
      have x0 := (hb12.cell (p := ⟨w.heap.size, 0, none⟩) hz).trans x0
      have x1 := (hb12.cell (p := ⟨w.heap.size, 1, none⟩) hz).trans x1
      have hz := Nat.lt_of_lt_of_le hz hb12.size
      have hA := hA.below hb12
      have hM := hM.below hb12
      clear hb1 hb2 hb12 hL
      go_wp2_with fail
      go_loopw [6, 19] (fun a i wr => ∃ k : Nat, k ≤ m.length ∧ i = .int .i64 k ∧ OwnI wr w2.heap.size 3 a (psF (misB l) (m.take k)) ∧ Below w2.heap.size w2 wr)
        (fun _ i _ => m.length - (intOf i).toNat)
      case atStart => exact ⟨0, Nat.zero_le _, rfl, OwnI.nil _ _ _, Below.refl _ _⟩
      case round =>
        obtain ⟨k, hk, rfl, hown, hb⟩ := hrel
        have HO := Lib.hid hown
        clear hown
        by_cases hlt : k < m.length
        · have hx : m[k]? = some m[k] := List.getElem?_eq_getElem hlt
          generalize m[k] = x at hx
          have hs := psF_snoc (misB l) m k x hx
          obtain ⟨p, s, n⟩ := x
          simp only at hs
          obtain ⟨g, o, rfl, hgb, h0, h1, h2⟩ := (hM.below hb) k _ hx
          simp only at h0 h1 h2
          have i1 : (0 : Int) ≤ (k : Int) := by omega
          have i2 : (k : Int) < (m.length : Int) := by omega
          have HS := Lib.hid hs
          clear hs hx
          have hsz : (psF (misB l) (m.take k)).length ≤ 30 := by have := psF_length (misB l) (m.take k); simp at this; omega
          have y0 := (hb.cell (p := ⟨w.heap.size, 0, none⟩) hz).trans x0
          have y1 := (hb.cell (p := ⟨w.heap.size, 1, none⟩) hz).trans x1
          have hzr : w.heap.size < wr.heap.size := Nat.lt_of_lt_of_le hz hb.size
          have hnb : Below wr.heap.size wr (wr.alloc (.cells #[.int .i64 p, .int .i64 s, .int .i64 n] 74)) := (Below.refl _ _).alloc (Nat.le_refl _) _
          have hAr := (hA.below hb).below hnb
          have hzn : wr.heap.size < (wr.alloc (.cells #[.int .i64 p, .int .i64 s, .int .i64 n] 74)).heap.size := by simp
          have p0 : (wr.alloc (.cells #[.int .i64 p, .int .i64 s, .int .i64 n] 74)).cell? ⟨wr.heap.size, 0, none⟩ = some (.int .i64 p) := by rw [World.cell?_alloc_new]; rfl
          go_wp2_with fail
          generalize wr.alloc (.cells #[.int .i64 p, .int .i64 s, .int .i64 n] 74) = W1 at *
          refine (hasPitch_any _ _ _ _ _ _ hn hAr).mono ?_
          rintro e w3 ⟨rfl, hb3⟩
          have hb13 := hnb.trans (hb3.mono hnb.size)
          have p3 := (hb3.cell (p := ⟨wr.heap.size, 0, none⟩) hzn).trans p0
          clear y0 y1 h0 h1 h2 hAr p0
          cases hh : hasB l p with
          | false =>
            have hbr3 := Lib.hid (show Below wr.heap.size wr (w3.alloc (.cells #[.int .i64 p] 3)) from hb13.alloc hb13.size _)
            have ho3 := Lib.hid (HO.out.below hbr3.out (Nat.le_refl _))
            have hc3 := Lib.hid (one_new w3 p)
            go_wp2_with (at_builtin; go_loud (refine wpList_appI _ rfl (.tmp 28) (.tmp 31) rfl w2.heap.size _ _ rfl ho3.out (some ⟨w3.heap.size, 0, none⟩) 1 1 [p] rfl rfl (fun h => by cases h) (fun j y hy => one_at hc3.out hy) (by simp; omega) (Nat.le_trans hb.size hbr3.out.size) ?_); intro v4 w4 ho4 hg4 hv4)
            go_roundw
            case rel =>
              refine ⟨k + 1, by omega, by go_num, ?_, (hb.trans (hbr3.out.mono hb.size)).grown hg4 (Nat.le_trans hb.size hbr3.out.size) (fun j hj => (ho3.out.lt j hj).1)⟩
              rw [HS.out, if_pos (by simp [misB, hh])]
              exact ho4
            case measure => simp [intOf]; omega
          | true =>
            go_wp2
            go_roundw
            case rel =>
              refine ⟨k + 1, by omega, by go_num, ?_, hb.trans (hb13.mono hb.size)⟩
              rw [HS.out, if_neg (by simp [misB, hh]), List.append_nil]
              exact HO.out.below hb13 (Nat.le_refl _)
            case measure => simp [intOf]; omega
        · obtain rfl : k = m.length := by omega
          rw [List.take_length] at HO
          have hl := psF_length (misB l) m
          go_wp2_with (first
            | (go_at_call 73; refine (sortI_any _ _ w2.heap.size _ (by omega) HO.out).mono ?_; rintro e w3 ⟨rfl, ho3, hg3⟩)
            | (go_at_call 74; refine (compactI_any _ _ w2.heap.size _ (by rw [List.length_mergeSort]; omega) ho3).mono ?_; rintro e w4 ⟨v4, rfl, ho4, hg4⟩))
          go_ret2
          rw [compact_atF] at ho4
          rw [HG.out, HB.out, Bool.and_true]
          have hb3 := hb.grown hg3 hb.size (fun j hj => (HO.out.lt j hj).1)
          refine ⟨_, rfl, by simpa using ho4.mono hB2.size, hB2.trans ((hb3.grown hg4 hb3.size (fun j hj => (ho3.lt j hj).1)).mono hB2.size)⟩
end Go.Proofs.YtfgfiahampjfiaaDoor
