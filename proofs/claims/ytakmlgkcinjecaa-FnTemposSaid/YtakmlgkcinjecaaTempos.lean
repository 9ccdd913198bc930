/- Contracts: which changes are tempos, of the model and of the program. -/
import Derived.Test.YtakmlgkcinjecaaTmp
import Derived.Lib.QuietBelow
namespace Go.Proofs.Ytakmlgkcinjecaa
open Go.RowKit Go.Sort
set_option linter.unusedVariables false
set_option linter.unusedSimpArgs false

theorem okAt_mk {l : List Nt2} {k : Nat} {s n : Int} (hx : l[k]? = some (s, n)) : okAt l k = (chB (s, n) && (if k = 0 then decide (s = 0) else decide (stp l (k - 1) < s))) := by
  unfold okAt
  rw [stp_of hx, lst_of hx]

set_option maxRecDepth 100000 in
set_option maxHeartbeats 2000000 in
theorem areTempos_any (A : Option Addr) (l : List Nt2) (c : Nat) (w : World) (hn : l.length ≤ 1048576) (hA : RA2 w A l) :
    Calls Try.prog 18 #[.slice A l.length c] w fun e w' => e = .returned (.bool (goodT l)) ∧ Below w.heap.size w w' := by
  by_cases hq : 1 ≤ l.length ∧ l.length ≤ 20
  · obtain ⟨hq1, hq2⟩ := hq
    have hin : inR (l.length : Int) 1 20 = true := inR_true (by omega) (by omega)
    have hx : l[0]? = some l[0] := List.getElem?_eq_getElem (by omega)
    generalize l[0] = x at hx
    obtain ⟨s, n⟩ := x
    obtain ⟨g, o, rfl, hg, h0, h1⟩ := hA 0 _ hx
    simp only [Nat.zero_mul, Nat.add_zero] at h0 h1
    have z1 : (0 : Int) < (l.length : Int) := by omega
    have z2 : 0 < l.length := by omega
    by_cases hs : s = 0
    · have HZ := Lib.hid (show stp l 0 = 0 by rw [stp_of hx]; exact hs)
      subst hs
      clear hx
      go_enter Try.func18, Try.ntmps18
      go_wp2_with (go_at_call 42; refine (inRange_any _ _ _ _).mono ?_; rintro e w2 ⟨rfl, rfl⟩)
      clear h0 h1 hg
      go_loopw [18] (fun i wr => ∃ k : Nat, k ≤ l.length ∧ i = .int .i64 k ∧ (∀ i, i < k → okAt l i = true) ∧ Below w.heap.size w wr)
        (fun i _ => l.length - (intOf i).toNat)
      case atStart => exact ⟨0, Nat.zero_le _, rfl, fun _ h => absurd h (by omega), Below.refl _ _⟩
      case round =>
        obtain ⟨k, hk, rfl, hgood, hb⟩ := hrel
        have HG := Lib.hid hgood
        clear hgood
        by_cases hlt : k < l.length
        · have hx : l[k]? = some l[k] := List.getElem?_eq_getElem hlt
          generalize l[k] = x at hx
          obtain ⟨s, n⟩ := x
          obtain ⟨hg, h0, h1⟩ := (hA.below hb).at k _ hx
          simp only at h0 h1
          have HX := Lib.hid hx
          have i1 : (0 : Int) ≤ (k : Int) := by omega
          have i2 : (k : Int) < (l.length : Int) := by omega
          clear hx
          go_wp2_with fail
          have hxc : ∀ j, (wr.alloc (.cells #[.int .i64 s, .int .i64 n] 32)).cell? ⟨wr.heap.size, j, none⟩ = #[Value.int .i64 s, .int .i64 n][j]? := fun j => World.cell?_alloc_new wr _ _ j
          have hbW : Below w.heap.size w (wr.alloc (.cells #[.int .i64 s, .int .i64 n] 32)) := hb.alloc hb.size _
          have hRA := (hA.below hb).alloc (.cells #[.int .i64 s, .int .i64 n] 32)
          generalize wr.alloc (.cells #[.int .i64 s, .int .i64 n] 32) = W at *
          generalize wr.heap.size = xb at *
          have x0 := cell_regrown ((hxc 0).trans rfl)
          have x1 := cell_regrown ((hxc 1).trans rfl)
          have cN : ∀ d os, Calls Try.prog 35 #[.agg #[.int .i64 s, .int .i64 n]] (grow (redrawn W d) os) fun e w'' => e = .returned (.bool (chB (s, n))) ∧ ∃ q : Regrown, w'' = grow (redrawn W q.d) q.os :=
            fun d os => Calls.regrown_of (isChange_any s n _)
          clear h0 h1
          have hok := okAt_mk HX.out
          cases hv : chB (s, n) with
          | false =>
            refine wp_region_quiet_below (by kernel_rfl) (by kernel_rfl) ?_
            repeat (go_big_quiet_step (exact (cN _ _)))
            refine wpQuiet_nil ?_
            intro _ hw'
            obtain ⟨q, hw''⟩ := hw'
            subst hw''
            go_wp2
            go_ret
            exact ⟨ret_bool (goodT_false hlt (by rw [hok, hv]; rfl)).symm, hbW.trans ((below_regrown W q.d q.os).mono hbW.size)⟩
          | true =>
            rcases Nat.eq_zero_or_pos k with hk0 | hk0
            · subst hk0
              have hs0 : s = 0 := by have := HZ.out; rw [stp_of HX.out] at this; exact this
              have HOK := Lib.hid (show okAt l 0 = true by rw [hok, hv, hs0]; rfl)
              have HS0 := Lib.hid hs0
              clear hok hs0
              refine wp_region_quiet_below (by kernel_rfl) (by kernel_rfl) ?_
              repeat (go_big_quiet_step (exact (cN _ _)))
              refine wpQuiet_nil ?_
              intro _ hw'
              obtain ⟨q, hw''⟩ := hw'
              subst hw''
              go_wp2
              go_roundw
              case rel => exact ⟨1, by omega, by go_num, fun i hi => (show i = 0 by omega) ▸ HOK.out, hbW.trans ((below_regrown W q.d q.os).mono hbW.size)⟩
              case measure => simp [intOf]; omega
            · have hd : (0 : Int) < (k : Int) := by omega
              have hk1 : ((k : Int) == 0) = false := by simp; omega
              have hy : l[k - 1]? = some l[k - 1] := List.getElem?_eq_getElem (by omega)
              generalize l[k - 1] = y at hy
              obtain ⟨s', n'⟩ := y
              obtain ⟨hg2, y0, y1⟩ := hRA.at (k - 1) _ hy
              simp only at y0 y1
              have y0 := cell_regrown y0
              have y1 := cell_regrown y1
              have i3 : (0 : Int) ≤ (k : Int) - 1 := by omega
              have i4 : (k : Int) - 1 < (l.length : Int) := by omega
              have hok' : okAt l k = decide (s' < s) := by rw [hok, hv, if_neg (by omega), stp_of hy, Bool.true_and]
              have HY := Lib.hid hy
              clear hy hok
              by_cases hcz : s' < s
              · have HOK := Lib.hid (show okAt l k = true by rw [hok']; simp [hcz])
                clear hok'
                refine wp_region_quiet_below (by kernel_rfl) (by kernel_rfl) ?_
                repeat (go_big_quiet_step (exact (cN _ _)))
                refine wpQuiet_nil ?_
                intro _ hw'
                obtain ⟨q, hw''⟩ := hw'
                subst hw''
                go_wp2
                go_roundw
                case rel =>
                  refine ⟨k + 1, by omega, by go_num, fun i hi => ?_, hbW.trans ((below_regrown W q.d q.os).mono hbW.size)⟩
                  rcases Nat.lt_or_ge i k with h | h
                  · exact HG.out i h
                  · obtain rfl : i = k := by omega
                    exact HOK.out
                case measure => simp [intOf]; omega
              · have HOK := Lib.hid (show okAt l k = false by rw [hok']; simp [hcz])
                have hcz' : s ≤ s' := by omega
                clear hok'
                refine wp_region_quiet_below (by kernel_rfl) (by kernel_rfl) ?_
                repeat (go_big_quiet_step (exact (cN _ _)))
                refine wpQuiet_nil ?_
                intro _ hw'
                obtain ⟨q, hw''⟩ := hw'
                subst hw''
                go_wp2
                go_ret
                exact ⟨ret_bool (goodT_false hlt HOK.out).symm, hbW.trans ((below_regrown W q.d q.os).mono hbW.size)⟩
        · obtain rfl : k = l.length := by omega
          go_wp2
          go_ret
          exact ⟨ret_bool (goodT_true hq1 hq2 HG.out).symm, hb⟩
    · have hne : (s != 0) = true := by simp [hs]
      have HF := Lib.hid (show goodT l = false from goodT_false (i := 0) (by omega) (by rw [okAt_mk hx]; simp [hs]))
      clear hx
      go_enter Try.func18, Try.ntmps18
      go_wp2_with (go_at_call 42; refine (inRange_any _ _ _ _).mono ?_; rintro e w2 ⟨rfl, rfl⟩)
      go_ret
      exact ⟨ret_bool HF.out.symm, Below.refl _ _⟩
  · have hin : inR (l.length : Int) 1 20 = false := inR_false (by omega)
    have HF := Lib.hid (show goodT l = false from goodT_len (by omega))
    go_enter Try.func18, Try.ntmps18
    go_wp2_with (go_at_call 42; refine (inRange_any _ _ _ _).mono ?_; rintro e w2 ⟨rfl, rfl⟩)
    go_ret
    exact ⟨ret_bool HF.out.symm, Below.refl _ _⟩

set_option maxRecDepth 100000 in
set_option maxHeartbeats 2000000 in
theorem teGood_any (A : Option Addr) (l : List Nt2) (c : Nat) (w : World) (hn : l.length ≤ 1048576) (hA : RA2 w A l) :
    Calls Try.prog 23 #[.slice A l.length c] w fun e w' => e = .returned (.bool (goodT l)) ∧ Below w.heap.size w w' := by
  go_enter Try.func23, Try.ntmps23
  go_wp2
  go_loopw [7] (fun i wr => ∃ k : Nat, k ≤ l.length ∧ i = .int .i64 k ∧ (∀ i, i < k → okAt l i = true) ∧ Below w.heap.size w wr)
    (fun i _ => l.length - (intOf i).toNat)
  case atStart => exact ⟨0, Nat.zero_le _, rfl, fun _ h => absurd h (by omega), Below.refl _ _⟩
  case round =>
    obtain ⟨k, hk, rfl, hgood, hb⟩ := hrel
    have HG := Lib.hid hgood
    clear hgood
    by_cases hlt : k < l.length
    · have hx : l[k]? = some l[k] := List.getElem?_eq_getElem hlt
      generalize l[k] = x at hx
      obtain ⟨s, n⟩ := x
      obtain ⟨g, o, rfl, hg, h0, h1⟩ := (hA.below hb) k _ hx
      simp only at h0 h1
      have HX := Lib.hid hx
      have i1 : (0 : Int) ≤ (k : Int) := by omega
      have i2 : (k : Int) < (l.length : Int) := by omega
      clear hx
      go_wp2_with fail
      have hxc : ∀ j, (wr.alloc (.cells #[.int .i64 s, .int .i64 n] 32)).cell? ⟨wr.heap.size, j, none⟩ = #[Value.int .i64 s, .int .i64 n][j]? := fun j => World.cell?_alloc_new wr _ _ j
      have hbW : Below w.heap.size w (wr.alloc (.cells #[.int .i64 s, .int .i64 n] 32)) := hb.alloc hb.size _
      have hRA := (hA.below hb).alloc (.cells #[.int .i64 s, .int .i64 n] 32)
      generalize wr.alloc (.cells #[.int .i64 s, .int .i64 n] 32) = W at *
      generalize wr.heap.size = xb at *
      have x0 := cell_regrown ((hxc 0).trans rfl)
      have x1 := cell_regrown ((hxc 1).trans rfl)
      have cN : ∀ d os, Calls Try.prog 40 #[.agg #[.int .i64 s, .int .i64 n]] (grow (redrawn W d) os) fun e w'' => e = .returned (.bool (chB (s, n))) ∧ ∃ q : Regrown, w'' = grow (redrawn W q.d) q.os :=
        fun d os => Calls.regrown_of (teChange_any s n _)
      clear h0 h1
      have hok := okAt_mk HX.out
      cases hv : chB (s, n) with
      | false =>
        refine wp_region_quiet_below (by kernel_rfl) (by kernel_rfl) ?_
        repeat (go_big_quiet_step (exact (cN _ _)))
        refine wpQuiet_nil ?_
        intro _ hw'
        obtain ⟨q, hw''⟩ := hw'
        subst hw''
        go_wp2
        go_ret
        exact ⟨ret_bool (goodT_false hlt (by rw [hok, hv]; rfl)).symm, hbW.trans ((below_regrown W q.d q.os).mono hbW.size)⟩
      | true =>
        rcases Nat.eq_zero_or_pos k with hk0 | hk0
        · subst hk0
          by_cases hs0 : s = 0
          · have HOK := Lib.hid (show okAt l 0 = true by rw [hok, hv, hs0]; rfl)
            subst hs0
            clear hok
            refine wp_region_quiet_below (by kernel_rfl) (by kernel_rfl) ?_
            repeat (go_big_quiet_step (exact (cN _ _)))
            refine wpQuiet_nil ?_
            intro _ hw'
            obtain ⟨q, hw''⟩ := hw'
            subst hw''
            go_wp2
            go_roundw
            case rel => exact ⟨1, by omega, by go_num, fun i hi => (show i = 0 by omega) ▸ HOK.out, hbW.trans ((below_regrown W q.d q.os).mono hbW.size)⟩
            case measure => simp [intOf]; omega
          · have HOK := Lib.hid (show okAt l 0 = false by rw [hok, hv]; simp [hs0])
            have hne : (s != 0) = true := by simp [hs0]
            clear hok
            refine wp_region_quiet_below (by kernel_rfl) (by kernel_rfl) ?_
            repeat (go_big_quiet_step (exact (cN _ _)))
            refine wpQuiet_nil ?_
            intro _ hw'
            obtain ⟨q, hw''⟩ := hw'
            subst hw''
            go_wp2
            go_ret
            exact ⟨ret_bool (goodT_false hlt HOK.out).symm, hbW.trans ((below_regrown W q.d q.os).mono hbW.size)⟩
        · have hd : (0 : Int) < (k : Int) := by omega
          have hk1 : ((k : Int) == 0) = false := by simp; omega
          have hy : l[k - 1]? = some l[k - 1] := List.getElem?_eq_getElem (by omega)
          generalize l[k - 1] = y at hy
          obtain ⟨s', n'⟩ := y
          obtain ⟨hg2, y0, y1⟩ := hRA.at (k - 1) _ hy
          simp only at y0 y1
          have y0 := cell_regrown y0
          have y1 := cell_regrown y1
          have i3 : (0 : Int) ≤ (k : Int) - 1 := by omega
          have i4 : (k : Int) - 1 < (l.length : Int) := by omega
          have hok' : okAt l k = decide (s' < s) := by rw [hok, hv, if_neg (by omega), stp_of hy, Bool.true_and]
          have HY := Lib.hid hy
          clear hy hok
          by_cases hcz : s' < s
          · have HOK := Lib.hid (show okAt l k = true by rw [hok']; simp [hcz])
            clear hok'
            refine wp_region_quiet_below (by kernel_rfl) (by kernel_rfl) ?_
            repeat (go_big_quiet_step (exact (cN _ _)))
            refine wpQuiet_nil ?_
            intro _ hw'
            obtain ⟨q, hw''⟩ := hw'
            subst hw''
            go_wp2
            go_roundw
            case rel =>
              refine ⟨k + 1, by omega, by go_num, fun i hi => ?_, hbW.trans ((below_regrown W q.d q.os).mono hbW.size)⟩
              rcases Nat.lt_or_ge i k with h | h
              · exact HG.out i h
              · obtain rfl : i = k := by omega
                exact HOK.out
            case measure => simp [intOf]; omega
          · have HOK := Lib.hid (show okAt l k = false by rw [hok']; simp [hcz])
            have hcz' : s ≤ s' := by omega
            clear hok'
            refine wp_region_quiet_below (by kernel_rfl) (by kernel_rfl) ?_
            repeat (go_big_quiet_step (exact (cN _ _)))
            refine wpQuiet_nil ?_
            intro _ hw'
            obtain ⟨q, hw''⟩ := hw'
            subst hw''
            go_wp2
            go_ret
            exact ⟨ret_bool (goodT_false hlt HOK.out).symm, hbW.trans ((below_regrown W q.d q.os).mono hbW.size)⟩
    · obtain rfl : k = l.length := by omega
      go_wp2_with (go_at_call 44; refine (l1In_any _ _ _ _).mono ?_; rintro e w2 ⟨rfl, rfl⟩)
      go_ret
      refine ⟨ret_bool ?_, hb⟩
      by_cases hq : 1 ≤ l.length ∧ l.length ≤ 20
      · rw [goodT_true hq.1 hq.2 HG.out, inR_true (by omega) (by omega)]
      · rw [goodT_len (by omega), inR_false (by omega)]

theorem implAreTempos_any (A : Option Addr) (l : List Nt2) (c : Nat) (w : World) (hn : l.length ≤ 1048576) (hc : l.length ≤ c) (hc' : c ≤ 9223372036854775807) (hA : RA2 w A l) :
    Calls Try.prog 18 #[.slice A l.length c] w fun e w' => e = .returned (.bool (goodT l)) ∧ Below w.heap.size w w' := areTempos_any A l c w hn hA

end Go.Proofs.Ytakmlgkcinjecaa
