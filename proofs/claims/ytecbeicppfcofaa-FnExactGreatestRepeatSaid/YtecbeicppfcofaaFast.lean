/- The model's inFast: the fast repeats of a score for a repeat time. -/
import Derived.Test.YtecbeicppfcofaaRepN
import Derived.Test.YtecbeicppfcofaaLast
namespace Go.Proofs.Ytecbeicppfcofaa
open Go.RowKit Go.Sort Go.Maps
set_option linter.unusedVariables false
set_option linter.unusedSimpArgs false

set_option maxRecDepth 100000 in
set_option maxHeartbeats 1000000 in
theorem inFast_any (A : Option Addr) (l : List Nt) (c : Nat) (r : Int) (w : World) (hn : l.length ≤ 1048576) (hA : RA w A l) (hg : Good l) :
    Calls Try.prog 70 #[.slice A l.length c, .int .i64 r] w fun e w' => ∃ v, e = .returned v ∧ OwnP w' w.heap.size v (fastL r l l.length) ∧ Below w.heap.size w w' := by
  have h30 := hg.2
  go_enter Try.func70, Try.ntmps70
  go_wp2
  go_loopw [5, 11] (fun a i wr => ∃ k : Nat, k ≤ l.length ∧ i = .int .i64 k ∧ OwnP wr w.heap.size a (fastL r l k) ∧ Below w.heap.size w wr)
    (fun _ i _ => l.length - (intOf i).toNat)
  case atStart => exact ⟨0, Nat.zero_le _, rfl, OwnP.nil _ _, Below.refl _ _⟩
  case round =>
    obtain ⟨k, hk, rfl, hown, hb⟩ := hrel
    by_cases hlt : k < l.length
    · have hx : l[k]? = some l[k] := List.getElem?_eq_getElem hlt
      have hkd : l.getD k (0, 0, 0) = l[k] := by rw [List.getD_eq_getElem?_getD, hx]; rfl
      generalize l[k] = x at hx hkd
      have hs := fastL_succ (r := r) hx
      have hv := (noteN_iff x).1 (hg.1 k x hlt hx).1
      have hlx := lastIx_lt x.1 l k
      obtain ⟨p, s, n⟩ := x
      simp only at hs hv hlx
      have hAr := hA.below hb
      obtain ⟨g, o, rfl, hgb, h0, h1, h2⟩ := hAr k _ hx
      simp only at h0 h1 h2
      have i1 : (0 : Int) ≤ (k : Int) := by omega
      have i2 : (k : Int) < (l.length : Int) := by omega
      have hvlt := hown.blocks
      have HVL := Lib.hid hvlt
      have HS := Lib.hid hs
      have hpl : (fastL r l k).length ≤ 30 := by have := pairsL_length l k; have := List.length_filter_le (fun q => decide (apart l q.1 q.2 < r)) (pairsL l k); unfold fastL; omega
      clear hs hvlt
      have hnb : Below wr.heap.size wr (wr.alloc (.cells #[.int .i64 p, .int .i64 s, .int .i64 n] 66)) := (Below.refl _ _).alloc (Nat.le_refl _) _
      have p1 : (wr.alloc (.cells #[.int .i64 p, .int .i64 s, .int .i64 n] 66)).cell? ⟨wr.heap.size, 1, none⟩ = some (.int .i64 s) := by rw [World.cell?_alloc_new]; rfl
      have hz1 : wr.heap.size < (wr.alloc (.cells #[.int .i64 p, .int .i64 s, .int .i64 n] 66)).heap.size := by simp
      have HX := Lib.hid hx
      have HKD := Lib.hid hkd
      clear hkd
      go_wp2_with fail
      generalize wr.alloc (.cells #[.int .i64 p, .int .i64 s, .int .i64 n] 66) = W1 at *
      refine (inLast_any _ l c k (p, s, n) _ hn (hAr.below hnb) HX.out).mono ?_
      rintro e w2 ⟨rfl, hb2⟩
      have hb12 := hnb.trans (hb2.mono hnb.size)
      have hbw := hb.trans (hb12.mono hb.size)
      have p2 := (hb2.cell (p := ⟨wr.heap.size, 1, none⟩) hz1).trans p1
      have HO := Lib.hid (hown.below hb12 (Nat.le_refl _))
      have hA2 := hAr.below hb12
      have hz2 : wr.heap.size < w2.heap.size := Nat.lt_of_lt_of_le hz1 hb2.size
      clear h0 h1 h2 hown hAr p1 hx hA hb2 hnb hz1
      simp only
      generalize hqq : lastIx p l k = q at *
      have HQQ := Lib.hid hqq
      clear hqq
      have p2 := cell_regrown p2
      by_cases hq : 0 ≤ q
      · have hy : l[q.toNat]? = some l[q.toNat] := List.getElem?_eq_getElem (by omega)
        have hyd : l.getD q.toNat (0, 0, 0) = l[q.toNat] := by rw [List.getD_eq_getElem?_getD, hy]; rfl
        have hvy := (noteN_iff _).1 (hg.1 q.toNat _ (by omega) hy).1
        generalize l[q.toNat] = y at hy hyd hvy
        obtain ⟨py, sy, ny⟩ := y
        simp only at hvy
        obtain ⟨g2, o2, hgo, hg2, y0, y1, y2⟩ := hA2 q.toNat _ hy
        simp only [Option.some.injEq, Addr.mk.injEq, and_true] at hgo
        obtain ⟨rfl, rfl⟩ := hgo
        simp only at y0 y1 y2
        have hap : apart l q k = s - sy := by unfold apart; rw [Int.toNat_natCast, HKD.out, hyd]
        have j2 : q < (l.length : Int) := by omega
        have hw : IntKind.i64.wrap (s - sy) = s - sy := IntWalk.i64_in _ (by omega)
        have HAP := Lib.hid hap
        clear hap hyd hy y0 y2 hA2
        have hd : decide (0 ≤ q) = true := by simp [hq]
        have y1 := cell_regrown y1
        by_cases hlt2 : s - sy < r
        · have hd2 : decide (s - sy < r) = true := by simp [hlt2]
          go_wp2_with fail
          refine wp_region_quiet_below (by kernel_rfl) (by kernel_rfl) ?_
          repeat (go_big_quiet_step (fail))
          refine wpQuiet_nil ?_
          intro _ hw'
          obtain ⟨qr, hw''⟩ := hw'
          subst hw''
          have hbu := below_regrown w2 qr.d qr.os
          have HOU := Lib.hid (HO.out.below hbu (Nat.le_refl _))
          have hbwu := hbw.trans (hbu.mono hbw.size)
          have hbase := hbwu.size
          generalize grow (redrawn w2 qr.d) qr.os = U at *
          have H3 := Lib.hid (show OwnI ((U.alloc (.cells #[.int .i64 q, .int .i64 (k : Int)] 3)).alloc (.cells #[ps2 U.heap.size] 60)) w.heap.size 3 (ps2 U.heap.size) [q, (k : Int)] from (OwnI.pair U w.heap.size q k hbase).below ((Below.refl _ _).alloc (Nat.le_refl _) _) (Nat.le_refl _))
          have HB3 := Lib.hid (show Below U.heap.size U ((U.alloc (.cells #[.int .i64 q, .int .i64 (k : Int)] 3)).alloc (.cells #[ps2 U.heap.size] 60)) from ((Below.refl _ _).alloc (Nat.le_refl _) _).alloc (by simp) _)
          have hc3 : ((U.alloc (.cells #[.int .i64 q, .int .i64 (k : Int)] 3)).alloc (.cells #[ps2 U.heap.size] 60)).cell? ⟨U.heap.size + 1, 0, none⟩ = some (ps2 U.heap.size) := by go_simp
          have HC3 := Lib.hid hc3
          clear hc3 hd hd2 hw y1 p2
          go_wp2_with (at_builtin; go_loud (refine wpList_appP U _ rfl (.tmp 33) (.tmp 37) rfl w.heap.size _ _ rfl HOU.out HB3.out hbase U.heap.size (U.heap.size + 1) (q, (k : Int)) rfl HC3.out H3.out (Nat.le_refl _) (by omega) ?_); intro v4 w4 ho4 hg4)
          go_roundw
          case rel =>
            refine ⟨k + 1, by omega, by go_num, ?_, (hbwu.trans (HB3.out.mono hbwu.size)).grown hg4 (Nat.le_trans hbwu.size HB3.out.size) (fun j hj => (HOU.out.blocks j hj).1)⟩
            rw [HS.out, if_pos ⟨by omega, by rw [HAP.out]; exact hlt2⟩]
            exact ho4
          case measure => simp [intOf]; omega
        · have hd2 : decide (s - sy < r) = false := by simp; omega
          go_wp2_with fail
          refine wp_region_quiet_below (by kernel_rfl) (by kernel_rfl) ?_
          repeat (go_big_quiet_step (fail))
          refine wpQuiet_nil ?_
          intro _ hw'
          obtain ⟨qr, hw''⟩ := hw'
          subst hw''
          go_wp2
          go_roundw
          case rel =>
            refine ⟨k + 1, by omega, by go_num, ?_, hbw.trans ((below_regrown w2 qr.d qr.os).mono hbw.size)⟩
            rw [HS.out, if_neg (fun h => by have := h.2; rw [HAP.out] at this; omega)]
            exact HO.out.below (below_regrown w2 qr.d qr.os) (Nat.le_refl _)
          case measure => simp [intOf]; omega
      · have hd : decide (0 ≤ q) = false := by simp; omega
        go_wp2_with fail
        refine wp_region_quiet_below (by kernel_rfl) (by kernel_rfl) ?_
        repeat (go_big_quiet_step (fail))
        refine wpQuiet_nil ?_
        intro _ hw'
        obtain ⟨qr, hw''⟩ := hw'
        subst hw''
        go_wp2
        go_roundw
        case rel =>
          refine ⟨k + 1, by omega, by go_num, ?_, hbw.trans ((below_regrown w2 qr.d qr.os).mono hbw.size)⟩
          rw [HS.out, if_neg (fun h => by have := h.1; omega)]
          exact HO.out.below (below_regrown w2 qr.d qr.os) (Nat.le_refl _)
        case measure => simp [intOf]; omega
    · obtain rfl : k = l.length := by omega
      go_wp2
      go_ret
      exact ⟨_, rfl, hown, hb⟩
end Go.Proofs.Ytecbeicppfcofaa
