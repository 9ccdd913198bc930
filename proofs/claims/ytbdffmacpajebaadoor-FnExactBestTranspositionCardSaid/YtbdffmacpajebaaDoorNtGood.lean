/- The contract of the model's ntGood. -/
import Derived.Test.YtbdffmacpajebaaDoorGood
import Derived.Test.YtbdffmacpajebaaDoorSlc
import Derived.Lib.QuietBelow
namespace Go.Proofs.YtbdffmacpajebaaDoor
open Go.RowKit Go.Sort
set_option linter.unusedVariables false

set_option maxRecDepth 100000 in
set_option maxHeartbeats 2000000 in
theorem ntGood_any (A : Option Addr) (l : List Nt) (c : Nat) (w : World) (hn : l.length ≤ 1048576) (hc : l.length ≤ c) (hc' : c ≤ 9223372036854775807) (hA : RA w A l) :
    Calls Tryd.prog 62 #[.slice A l.length c] w fun e w' => e = .returned (.bool (goodB l)) ∧ Below w.heap.size w w' := by
  go_enter Tryd.func62, Tryd.ntmps62
  go_wp2
  go_loopw [9] (fun i wr => ∃ k : Nat, k ≤ l.length ∧ i = .int .i64 k ∧ GoodTo l k ∧ Below w.heap.size w wr)
    (fun i _ => l.length - (intOf i).toNat)
  case atStart => exact ⟨0, Nat.zero_le _, rfl, GoodTo.zero l, Below.refl _ _⟩
  case round =>
    obtain ⟨k, hk, rfl, hgood, hb⟩ := hrel
    have HG := Lib.hid hgood
    clear hgood
    by_cases hlt : k < l.length
    · have hx : l[k]? = some l[k] := List.getElem?_eq_getElem hlt
      generalize l[k] = x at hx
      obtain ⟨p, s, n⟩ := x
      obtain ⟨g, o, rfl, hg, h0, h1, h2⟩ := (hA.below hb) k _ hx
      simp only at h0 h1 h2
      have HX := Lib.hid hx
      have i1 : (0 : Int) ≤ (k : Int) := by omega
      have i2 : (k : Int) < (l.length : Int) := by omega
      clear hx
      go_wp2_with fail
      have hRA : RA (wr.alloc (.cells #[.int .i64 p, .int .i64 s, .int .i64 n] 58)) (some ⟨g, o, none⟩) l := (hA.below hb).alloc _
      have hxc : ∀ j, (wr.alloc (.cells #[.int .i64 p, .int .i64 s, .int .i64 n] 58)).cell? ⟨wr.heap.size, j, none⟩ = #[Value.int .i64 p, .int .i64 s, .int .i64 n][j]? := fun j => World.cell?_alloc_new wr _ _ j
      have hbW : Below w.heap.size w (wr.alloc (.cells #[.int .i64 p, .int .i64 s, .int .i64 n] 58)) := hb.alloc hb.size _
      have hzW : wr.heap.size < (wr.alloc (.cells #[.int .i64 p, .int .i64 s, .int .i64 n] 58)).heap.size := by simp
      generalize wr.alloc (.cells #[.int .i64 p, .int .i64 s, .int .i64 n] 58) = W at *
      generalize wr.heap.size = xb at *
      have x0 := cell_regrown ((hxc 0).trans rfl)
      have x1 := cell_regrown ((hxc 1).trans rfl)
      have x2 := cell_regrown ((hxc 2).trans rfl)
      have cN : ∀ d os, Calls Tryd.prog 72 #[.agg #[.int .i64 p, .int .i64 s, .int .i64 n]] (grow (redrawn W d) os) fun e w'' => e = .returned (.bool (noteB p s n)) ∧ ∃ q : Regrown, w'' = grow (redrawn W q.d) q.os :=
        fun d os => Calls.regrown_of (ntNote_any p s n _)
      have hlt' : xb < W.heap.size := hzW
      clear h0 h1 h2 hA
      have HXC := Lib.hid hxc
      clear hxc
      cases hv : noteB p s n with
      | false =>
        have CN := Lib.hid cN
        clear cN
        refine wp_region_quiet_below (by kernel_rfl) (by kernel_rfl) ?_
        repeat (go_big_quiet_step (exact (CN.out _ _)))
        refine wpQuiet_nil ?_
        intro _ hw'
        obtain ⟨q, hw''⟩ := hw'
        subst hw''
        go_wp2
        go_ret
        refine ⟨ret_bool (goodB_false (Good.not_of HX.out fun h => ?_)).symm, hbW.trans ((below_regrown W q.d q.os).mono hbW.size)⟩
        have := h.1
        simp [noteN, hv] at this
      | true =>
        rcases Nat.eq_zero_or_pos k with hk0 | hk0
        · have hd : decide (0 < k) = false := by simp [hk0]
          have HK0 := Lib.hid hk0
          clear hk0
          refine wp_region_quiet_below (by kernel_rfl) (by kernel_rfl) ?_
          repeat (go_big_quiet_step (exact (cN _ _)))
          refine wpQuiet_nil ?_
          intro _ hw'
          obtain ⟨q, hw''⟩ := hw'
          subst hw''
          have HBEF := Lib.hid (show ∀ y, 0 < k → l[k - 1]? = some y → befN y (p, s, n) = true from fun y h => absurd h (by have := HK0.out; omega))
          have hxc := HXC.out
          go_wp2_with fail
          have hbV := hbW.trans ((below_regrown W q.d q.os).mono hbW.size)
          have hxV := fun j => ((below_regrown W q.d q.os).cell (p := ⟨xb, j, none⟩) hzW).trans (hxc j)
          have hRV := hRA.below (below_regrown W q.d q.os)
          have hzV : xb < (grow (redrawn W q.d) q.os).heap.size := Nat.lt_of_lt_of_le hzW (below_regrown W q.d q.os).size
          generalize grow (redrawn W q.d) q.os = V at *
          clear x0 x1 x2 hRA cN
          go_loopw [35] (fun i vr => ∃ j : Nat, j ≤ k ∧ i = .int .i64 j ∧ (∀ i' y, i' < j → l[i']? = some y → meetN (p, s, n) y = false) ∧ Below V.heap.size V vr)
            (fun i _ => k - (intOf i).toNat)
          case atStart => exact ⟨0, Nat.zero_le _, rfl, fun _ _ h => absurd h (by omega), Below.refl _ _⟩
          case round =>
            obtain ⟨j, hj, rfl, hmeet, hbr⟩ := hrel
            have HM := Lib.hid hmeet
            clear hmeet
            by_cases hjk : j < k
            · have hyj : l[j]? = some l[j] := List.getElem?_eq_getElem (by omega)
              generalize l[j] = yj at hyj
              have hvy := (noteN_iff yj).1 (HG.out j yj hjk hyj).1
              obtain ⟨pj, sj, nj⟩ := yj
              simp only at hvy
              have hvx := (noteN_iff (p, s, n)).1 hv
              simp only at hvx
              obtain ⟨g3, o3, hgo3, hg3, z0, z1, z2⟩ := (hRV.below hbr) j _ hyj
              simp only [Option.some.injEq, Addr.mk.injEq, and_true] at hgo3
              obtain ⟨rfl, rfl⟩ := hgo3
              simp only at z0 z1 z2
              have xr0 := (hbr.cell (p := ⟨xb, 0, none⟩) hzV).trans (hxV 0)
              have xr1 := (hbr.cell (p := ⟨xb, 1, none⟩) hzV).trans (hxV 1)
              have xr2 := (hbr.cell (p := ⟨xb, 2, none⟩) hzV).trans (hxV 2)
              have hzr : xb < _ := Nat.lt_of_lt_of_le hzV hbr.size
              have j1 : (0 : Int) ≤ (j : Int) := by omega
              have j2 : (j : Int) < (k : Int) := by omega
              have HYJ := Lib.hid hyj
              have HXV := Lib.hid hxV
              have HVC := Lib.hid hv
              clear hyj hxV hv
              go_wp2_with fail
              refine (ntMeet_any _ _ _ _ _ _ _ (by omega) (by omega) (by omega) (by omega) (by omega) (by omega) (by omega) (by omega)).mono ?_
              rintro e w1 ⟨rfl, hb1⟩
              cases hm : meetB p s n pj sj nj with
              | true =>
                go_wp2
                go_ret
                refine ⟨ret_bool (goodB_false (Good.not_of HX.out fun h => ?_)).symm, hbV.trans ((hbr.mono hbV.size).trans (((Below.refl _ _).alloc (Nat.le_trans hbV.size hbr.size) _).trans (hb1.mono (by simp; have := hbV.size; have := hbr.size; omega))))⟩
                have := h.2.2 j _ hjk HYJ.out
                simp [meetN, hm] at this
              | false =>
                go_wp2
                go_roundw
                case rel =>
                  refine ⟨j + 1, by omega, by go_num, ?_, hbr.trans (((Below.refl _ _).alloc hbr.size _).trans (hb1.mono (by simp; have := hbr.size; omega)))⟩
                  intro i' y hi hy
                  rcases Nat.lt_or_ge i' j with h | h
                  · exact HM.out i' y h hy
                  · obtain rfl : i' = j := by omega
                    have e := HYJ.out.symm.trans hy
                    injection e with e
                    subst e
                    exact hm
                case measure => simp [intOf]; omega
            · obtain rfl : j = k := by omega
              go_wp2
              go_roundw
              case rel => exact ⟨j + 1, by omega, by go_num, HG.out.succ HX.out ⟨hv, HBEF.out, HM.out⟩, hbV.trans (hbr.mono hbV.size)⟩
              case measure => simp [intOf]; omega
        · have hd : (0 : Int) < (k : Int) := by omega
          have hy : l[k - 1]? = some l[k - 1] := List.getElem?_eq_getElem (by omega)
          generalize l[k - 1] = y at hy
          obtain ⟨p', s', n'⟩ := y
          obtain ⟨g2, o2, hgo, hg2, y0, y1, y2⟩ := hRA (k - 1) _ hy
          simp only [Option.some.injEq, Addr.mk.injEq, and_true] at hgo
          obtain ⟨rfl, rfl⟩ := hgo
          simp only at y0 y1 y2
          have y0 := cell_regrown y0
          have y1 := cell_regrown y1
          have y2 := cell_regrown y2
          have HY := Lib.hid hy
          have i3 : (0 : Int) ≤ (k : Int) - 1 := by omega
          have i4 : (k : Int) - 1 < (l.length : Int) := by omega
          have cB : ∀ d os, Calls Tryd.prog 73 #[.agg #[.int .i64 p', .int .i64 s', .int .i64 n'], .agg #[.int .i64 p, .int .i64 s, .int .i64 n]] (grow (redrawn W d) os) fun e w'' => e = .returned (.bool (befB p' s' p s)) ∧ ∃ q : Regrown, w'' = grow (redrawn W q.d) q.os :=
            fun d os => Calls.regrown_of (ntBefore_any p' s' n' p s n _)
          clear hy
          cases hbf : befB p' s' p s with
          | false =>
            refine wp_region_quiet_below (by kernel_rfl) (by kernel_rfl) ?_
            repeat (go_big_quiet_step (first | exact (cN _ _) | exact (cB _ _)))
            refine wpQuiet_nil ?_
            intro _ hw'
            obtain ⟨q, hw''⟩ := hw'
            subst hw''
            go_wp2
            go_ret
            refine ⟨ret_bool (goodB_false (Good.not_of HX.out fun h => ?_)).symm, hbW.trans ((below_regrown W q.d q.os).mono hbW.size)⟩
            have := h.2.1 _ hk0 HY.out
            simp [befN, hbf] at this
          | true =>
            refine wp_region_quiet_below (by kernel_rfl) (by kernel_rfl) ?_
            repeat (go_big_quiet_step (first | exact (cN _ _) | exact (cB _ _)))
            refine wpQuiet_nil ?_
            intro _ hw'
            obtain ⟨q, hw''⟩ := hw'
            subst hw''
            have HBEF := Lib.hid (show ∀ y, 0 < k → l[k - 1]? = some y → befN y (p, s, n) = true from fun y _ hy => by have e := HY.out.symm.trans hy; injection e with e; subst e; exact hbf)
            have hxc := HXC.out
            go_wp2_with fail
            clear hbf
            go_wp2_with fail
            have hbV := hbW.trans ((below_regrown W q.d q.os).mono hbW.size)
            have hxV := fun j => ((below_regrown W q.d q.os).cell (p := ⟨xb, j, none⟩) hzW).trans (hxc j)
            have hRV := hRA.below (below_regrown W q.d q.os)
            have hzV : xb < (grow (redrawn W q.d) q.os).heap.size := Nat.lt_of_lt_of_le hzW (below_regrown W q.d q.os).size
            generalize grow (redrawn W q.d) q.os = V at *
            clear x0 x1 x2 hRA cN cB y0 y1 y2
            go_loopw [35] (fun i vr => ∃ j : Nat, j ≤ k ∧ i = .int .i64 j ∧ (∀ i' y, i' < j → l[i']? = some y → meetN (p, s, n) y = false) ∧ Below V.heap.size V vr)
              (fun i _ => k - (intOf i).toNat)
            case atStart => exact ⟨0, Nat.zero_le _, rfl, fun _ _ h => absurd h (by omega), Below.refl _ _⟩
            case round =>
              obtain ⟨j, hj, rfl, hmeet, hbr⟩ := hrel
              have HM := Lib.hid hmeet
              clear hmeet
              by_cases hjk : j < k
              · have hyj : l[j]? = some l[j] := List.getElem?_eq_getElem (by omega)
                generalize l[j] = yj at hyj
                have hvy := (noteN_iff yj).1 (HG.out j yj hjk hyj).1
                obtain ⟨pj, sj, nj⟩ := yj
                simp only at hvy
                have hvx := (noteN_iff (p, s, n)).1 hv
                simp only at hvx
                obtain ⟨g3, o3, hgo3, hg3, z0, z1, z2⟩ := (hRV.below hbr) j _ hyj
                simp only [Option.some.injEq, Addr.mk.injEq, and_true] at hgo3
                obtain ⟨rfl, rfl⟩ := hgo3
                simp only at z0 z1 z2
                have xr0 := (hbr.cell (p := ⟨xb, 0, none⟩) hzV).trans (hxV 0)
                have xr1 := (hbr.cell (p := ⟨xb, 1, none⟩) hzV).trans (hxV 1)
                have xr2 := (hbr.cell (p := ⟨xb, 2, none⟩) hzV).trans (hxV 2)
                have hzr : xb < _ := Nat.lt_of_lt_of_le hzV hbr.size
                have j1 : (0 : Int) ≤ (j : Int) := by omega
                have j2 : (j : Int) < (k : Int) := by omega
                have HYJ := Lib.hid hyj
                have HXV := Lib.hid hxV
                have HVC := Lib.hid hv
                clear hyj hxV hv
                go_wp2_with fail
                refine (ntMeet_any _ _ _ _ _ _ _ (by omega) (by omega) (by omega) (by omega) (by omega) (by omega) (by omega) (by omega)).mono ?_
                rintro e w1 ⟨rfl, hb1⟩
                cases hm : meetB p s n pj sj nj with
                | true =>
                  go_wp2
                  go_ret
                  refine ⟨ret_bool (goodB_false (Good.not_of HX.out fun h => ?_)).symm, hbV.trans ((hbr.mono hbV.size).trans (((Below.refl _ _).alloc (Nat.le_trans hbV.size hbr.size) _).trans (hb1.mono (by simp; have := hbV.size; have := hbr.size; omega))))⟩
                  have := h.2.2 j _ hjk HYJ.out
                  simp [meetN, hm] at this
                | false =>
                  go_wp2
                  go_roundw
                  case rel =>
                    refine ⟨j + 1, by omega, by go_num, ?_, hbr.trans (((Below.refl _ _).alloc hbr.size _).trans (hb1.mono (by simp; have := hbr.size; omega)))⟩
                    intro i' y hi hy
                    rcases Nat.lt_or_ge i' j with h | h
                    · exact HM.out i' y h hy
                    · obtain rfl : i' = j := by omega
                      have e := HYJ.out.symm.trans hy
                      injection e with e
                      subst e
                      exact hm
                  case measure => simp [intOf]; omega
              · obtain rfl : j = k := by omega
                go_wp2
                go_roundw
                case rel => exact ⟨j + 1, by omega, by go_num, HG.out.succ HX.out ⟨hv, HBEF.out, HM.out⟩, hbV.trans (hbr.mono hbV.size)⟩
                case measure => simp [intOf]; omega
    · obtain rfl : k = l.length := by omega
      have hG := HG.out
      by_cases h30 : l.length ≤ 30
      · go_wp2
        go_ret
        refine ⟨ret_bool ?_, hb⟩
        rw [(goodB_iff l).2 ⟨hG, h30⟩]
        simp
        omega
      · go_wp2
        go_ret
        refine ⟨ret_bool ?_, hb⟩
        rw [goodB_false (fun h => h30 h.2)]
        simp
        omega
end Go.Proofs.YtbdffmacpajebaaDoor
