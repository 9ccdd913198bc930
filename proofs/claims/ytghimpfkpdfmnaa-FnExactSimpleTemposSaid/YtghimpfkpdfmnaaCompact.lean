/- The contract of the library's slices.CompactFunc at changes that last as long, in a slice of the call's own. -/
import Derived.Test.YtghimpfkpdfmnaaChangeApp
import Derived.Test.YtghimpfkpdfmnaaStepAt
import Derived.Test.YtghimpfkpdfmnaaSimP
namespace Go.Proofs.Ytghimpfkpdfmnaa
open Go.RowKit
set_option linter.unusedVariables false
set_option linter.unusedSimpArgs false

set_option maxHeartbeats 400000 in
theorem fnSame_any (a n b m : Int) (w : World) :
    Calls Try.prog 56 #[.agg #[.int .i64 a, .int .i64 n], .agg #[.int .i64 b, .int .i64 m]] w fun e w' => e = .returned (.bool (n == m)) ∧ Below w.heap.size w w' := by
  go_enter Try.func56, Try.ntmps56
  go_wp2
  go_ret
  exact ⟨rfl, ((Below.refl _ _).alloc (Nat.le_refl _) _).alloc (by simp) _⟩

set_option maxRecDepth 100000 in
set_option maxHeartbeats 2000000 in
theorem compact_any (g n c : Nat) (l : List Nt2) (base B : Nat) (w0 w : World) (hl : l.length = n) (hn : l.length ≤ 1048576) (hown : Own2 w base 38 (.slice (some ⟨g, 0, none⟩) n c) l) (hB : Below B w0 w) (hBg : B ≤ g) (hB0 : B ≤ w0.heap.size) :
    Calls Try.prog 57 #[.slice (some ⟨g, 0, none⟩) n c, .func (.func 56) #[] #[]] w fun e w' => ∃ v, e = .returned v ∧ Own2 w' base 38 v (simT l n) ∧ Below B w0 w' := by
  obtain ⟨hrx, hnc, hcm, _, hgs⟩ := hown.room
  clear hrx
  unfold maxLen at hcm
  have HL := Lib.hid hl
  by_cases hn2 : n < 2
  · have hO : Own2 w base 38 (.slice (some ⟨g, 0, none⟩) n c) (simT l n) := by
      have : n = 0 ∨ n = 1 := by omega
      rcases this with h | h
      · subst h
        have : l = [] := List.eq_nil_of_length_eq_zero hl
        subst this
        exact hown
      · subst h
        rw [simT_one (by omega), List.take_of_length_le (by omega)]
        exact hown
    have HO := Lib.hid hO
    clear hO hl hown
    go_enter Try.func57, Try.ntmps57
    go_wp2
    go_ret
    exact ⟨_, rfl, HO.out, hB⟩
  · have HO := Lib.hid hown
    clear hl hown
    go_enter Try.func57, Try.ntmps57
    go_wp2
    go_loopw [5] (fun i wr => ∃ k : Nat, k + 1 ≤ n ∧ i = .int .i64 ((k : Int) + 1) ∧ Hid (simT l (k + 1) = l.take (k + 1)) ∧ Hid (Own2 wr base 38 (.slice (some ⟨g, 0, none⟩) n c) l) ∧ Below B w0 wr)
      (fun i _ => n - (intOf i).toNat)
    case atStart => exact ⟨0, by omega, rfl, Lib.hid (simT_one (by rw [HL.out]; omega)), HO, hB⟩
    case round =>
      obtain ⟨k, hk, rfl, HS, HOw, hb⟩ := hrel
      by_cases hlt : k + 1 < n
      · have hx : l[k + 1]? = some (l[k + 1]'(by rw [HL.out]; exact hlt)) := List.getElem?_eq_getElem _
        have hy : l[k]? = some (l[k]'(by rw [HL.out]; omega)) := List.getElem?_eq_getElem _
        generalize l[k + 1]'(by rw [HL.out]; exact hlt) = x at hx
        generalize l[k]'(by rw [HL.out]; omega) = y at hy
        obtain ⟨a, p⟩ := x
        obtain ⟨b, q⟩ := y
        obtain ⟨_, c0, c1⟩ := HOw.out.ra.at _ _ hx
        obtain ⟨_, d0, d1⟩ := HOw.out.ra.at _ _ hy
        simp only [Nat.zero_add] at c0 c1 d0 d1
        have HX := Lib.hid hx
        have HY := Lib.hid hy
        have i1 : (0 : Int) ≤ (k : Int) + 1 := by omega
        have i2 : (k : Int) + 1 < (n : Int) := by omega
        have i3 : (k : Int) < (n : Int) := by omega
        have i4 : (n : Int) ≤ 1048576 := by rw [HL.out] at hn; omega
        have i5 : (0 : Int) ≤ (k : Int) := by omega
        have hwk : IntKind.i64.wrap (k : Int) = (k : Int) := IntWalk.i64_in _ (by omega)
        clear hx hy
        go_wp2_with fail
        refine wp_region_still_tail 10 (by kernel_rfl) (by kernel_rfl) ?_
        change wpStill _ _ (World.drew _) (fun a' => wpList _ _ _ _ a' (World.drew _)) _ _
        simp only [List.take_succ_cons, List.take_zero, List.drop_succ_cons, List.drop_zero]
        repeat still_step
        try refine wpStill_nil ?_
        by_cases he : p = q
        · subst he
          have HI := Lib.hid (SimIs.start (l := l) (k := k + 1) (by omega) (by rw [HL.out]; exact hlt) HS.out (by rw [lst_of HX.out, show k + 1 - 1 = k by omega, lst_of HY.out]))
          have hck : ¬ c = k + 1 := by omega
          have b1 : (k : Int) + 1 ≤ (c : Int) := by omega
          go_wp2_with (go_at_call 56; refine (fnSame_any _ _ _ _ _).mono ?_; rintro e w1 ⟨rfl, hb1⟩)
          have HO2 := Lib.hid (HOw.out.below (w := wr.drew) hb1 (Nat.le_refl _))
          have hB2 := hb.drew.trans (hb1.mono (by simpa using Nat.le_trans hB0 hb.size))
          clear c0 c1 d0 d1 HX HY HS hwk i2 i3
          have HLT := Lib.hid hlt
          clear hlt
          go_wp2_with fail
          generalize hR : n - (k + 1) = R1
          have HR1 : Hid (n = k + 1 + R1 ∧ 1 ≤ R1) := Lib.hid (by have := HLT.out; omega)
          clear hR
          go_loopw [5, 7] (fun i u wr => ∃ (kk jj : Nat) (m : List Nt2), jj + 1 ≤ R1 ∧ i = .int .i64 kk ∧ u = .int .i64 ((jj : Int) + 1) ∧ Hid (SimIs l m kk (k + 1 + jj + 1)) ∧ Hid (Own2 wr base 38 (.slice (some ⟨g, 0, none⟩) n c) m) ∧ Below B w0 wr)
            (fun _ u _ => R1 + 2 - (intOf u).toNat)
          case atStart => exact ⟨k + 1, 0, l, by have := HR1.out; omega, by go_num, rfl, HI, HO2, hB2⟩
          case round =>
            obtain ⟨kk, jj, m, hjr, rfl, rfl, HM, HOm, hbm⟩ := hrel
            have hkk := HM.out.le
            have hR1 := HR1.out.1
            have HRN := Lib.hid hR1
            by_cases hlt : jj + 1 < R1
            · have hx : l[k + 1 + jj + 1]? = some (l[k + 1 + jj + 1]'(by rw [HL.out]; omega)) := List.getElem?_eq_getElem _
              have hy : l[k + 1 + jj]? = some (l[k + 1 + jj]'(by rw [HL.out]; omega)) := List.getElem?_eq_getElem _
              generalize l[k + 1 + jj + 1]'(by rw [HL.out]; omega) = x at hx
              generalize l[k + 1 + jj]'(by rw [HL.out]; omega) = y at hy
              obtain ⟨a2, p2⟩ := x
              obtain ⟨b2, q2⟩ := y
              obtain ⟨hgr, c0, c1⟩ := HOm.out.ra.at _ _ ((HM.out.rest _ (by omega)).trans hx)
              obtain ⟨hgr', d0, d1⟩ := HOm.out.ra.at _ _ ((HM.out.rest _ (by omega)).trans hy)
              simp only [Nat.zero_add] at c0 c1 d0 d1
              rw [show (k + 1 + jj + 1) * 2 = (k + 1) * 2 + (jj + 1) * 2 by omega] at c0 c1
              rw [show (k + 1 + jj) * 2 = (k + 1) * 2 + jj * 2 by omega] at d0 d1
              have HX := Lib.hid hx
              have HY := Lib.hid hy
              have j1 : (0 : Int) ≤ (jj : Int) + 1 := by omega
              have j2 : (jj : Int) + 1 < (R1 : Int) := by omega
              have j3 : (jj : Int) < (R1 : Int) := by omega
              have j4 : (0 : Int) ≤ (jj : Int) := by omega
              have j5 : (jj : Int) ≤ 1048576 := by omega
              have hwj : IntKind.i64.wrap (jj : Int) = (jj : Int) := IntWalk.i64_in _ (by omega)
              have hkn : kk < n := by omega
              clear hx hy hR1
              go_wp2_with fail
              refine wp_region_still_tail 10 (by kernel_rfl) (by kernel_rfl) ?_
              change wpStill _ _ (World.drew _) (fun a' => wpList _ _ _ _ a' (World.drew _)) _ _
              simp only [List.take_succ_cons, List.take_zero, List.drop_succ_cons, List.drop_zero]
              repeat still_step
              try refine wpStill_nil ?_
              by_cases he2 : p2 = q2
              · subst he2
                have HM2 := Lib.hid (HM.out.skip (by omega) (by rw [lst_of HX.out, show k + 1 + jj + 1 - 1 = k + 1 + jj by omega, lst_of HY.out]))
                go_wp2_with (go_at_call 56; refine (fnSame_any _ _ _ _ _).mono ?_; rintro e w2 ⟨rfl, hb2⟩)
                go_roundw
                case rel => exact ⟨kk, jj + 1, m, by omega, rfl, by go_num, HM2, Lib.hid (HOm.out.below (w := wr.drew) hb2 (Nat.le_refl _)), hbm.drew.trans (hb2.mono (by simpa using Nat.le_trans hB0 hbm.size))⟩
                case measure => simp [intOf]; omega
              · have hne2 : (p2 == q2) = false := by simp [he2]
                have HM2 := Lib.hid (HM.out.put (by rw [HL.out]; have := HRN.out; omega) HX.out (by rw [lst_of HX.out, show k + 1 + jj + 1 - 1 = k + 1 + jj by omega, lst_of HY.out]; exact he2))
                have hL : m.length = n := HM.out.len.trans HL.out
                have j6 : (kk : Int) < (n : Int) := by omega
                have j7 : (kk : Int) ≤ 1048576 := by omega
                go_wp2_with fail
                refine (fnSame_any _ _ _ _ _).mono ?_
                rintro e w2 ⟨rfl, hb2⟩
                have hbm2 := hbm.drew.trans (hb2.mono (by simpa using Nat.le_trans hB0 hbm.size))
                have hown := HOm.out.below (w := wr.drew) hb2 (Nat.le_refl _)
                unfold Own2 at hown
                rw [hL] at hown
                have e0 := ((bcell hb2).1 g ((k + 1) * 2 + (jj + 1) * 2) (by simpa using hgr)).trans c0
                have e1 := ((bcell hb2).1 g ((k + 1) * 2 + (jj + 1) * 2 + 1) (by simpa using hgr)).trans c1
                have g0 : ∃ u, w2.cell? ⟨g, kk * 2, none⟩ = some u := by rw [hown.cellAt _ (by omega)]; exact ⟨_, List.getElem?_eq_getElem (by rw [cl2_length, hL]; omega)⟩
                have g1 : ∃ u, w2.cell? ⟨g, kk * 2 + 1, none⟩ = some u := by rw [hown.cellAt _ (by omega)]; exact ⟨_, List.getElem?_eq_getElem (by rw [cl2_length, hL]; omega)⟩
                obtain ⟨u0, g0⟩ := g0
                obtain ⟨u1, g1⟩ := g1
                have f0 := hown.frozenAt (kk * 2)
                have f1 := hown.frozenAt (kk * 2 + 1)
                have HW := Lib.hid hown
                have HLm := Lib.hid hL
                clear hown hL c0 c1 d0 d1
                go_wp2
                go_roundw
                case rel =>
                  refine ⟨kk + 1, jj + 1, m.set kk (a2, p2), by omega, by go_num, by go_num, HM2, ?_, (hbm2.setCell hBg _).setCell hBg _⟩
                  have k2 := ((HW.out.stored (kk * 2) (.int .i64 a2)).1.stored (kk * 2 + 1) (.int .i64 p2)).1
                  rw [cl2_set _ _ (a2, p2) (by rw [HLm.out]; omega)] at k2
                  refine Lib.hid ?_
                  unfold Own2
                  rw [List.length_set, HLm.out]
                  exact k2
                case measure => simp [intOf]; omega
            · have hjn : n = k + 1 + jj + 1 := by omega
              have HJ := Lib.hid hjn
              have j8 : (R1 : Int) ≤ (jj : Int) + 1 := by omega
              have hck2 : ¬ c = kk := by omega
              have j6 : (kk : Int) ≤ (n : Int) := by omega
              have j7 : (kk : Int) ≤ (c : Int) := by omega
              have hL : m.length = n := HM.out.len.trans HL.out
              have HCUT := Lib.hid (HOm.out.cut kk (by omega))
              have HLm := Lib.hid hL
              have hkn : kk ≤ n := by omega
              clear hL hjn hR1
              go_wp2_with fail
              refine clear_thenChange base g kk c _ HCUT.out (fun _ => by first | rfl | simp) (by omega) ?_
              intro w2 ho2 hg2
              have HO3 := Lib.hid ho2
              have HB3 := Lib.hid (hbm.grown hg2 (Nat.le_trans hB0 hbm.size) (fun j hj => by simp at hj; omega))
              clear ho2 hg2
              go_wp2
              go_ret
              exact ⟨_, rfl, by have h := HO3.out; rw [HM.out.keep, ← HJ.out] at h; exact h, HB3.out⟩
        · have hne : (p == q) = false := by simp [he]
          have HSS : Hid (simT l (k + 1 + 1) = l.take (k + 1 + 1)) := Lib.hid (by
            rw [simT_new HX.out (.inr (by rw [lst_of HX.out, show k + 1 - 1 = k by omega, lst_of HY.out]; exact he)), HS.out, List.take_add_one (i := k + 1), HX.out]
            rfl)
          go_wp2_with (go_at_call 56; refine (fnSame_any _ _ _ _ _).mono ?_; rintro e w1 ⟨rfl, hb1⟩)
          go_roundw
          case rel => exact ⟨k + 1, by omega, by go_num, HSS, Lib.hid (HOw.out.below (w := wr.drew) hb1 (Nat.le_refl _)), hb.drew.trans (hb1.mono (by simpa using Nat.le_trans hB0 hb.size))⟩
          case measure => simp [intOf]; omega
      · obtain rfl : n = k + 1 := by omega
        go_wp2
        go_ret
        exact ⟨_, rfl, by rw [HS.out, List.take_of_length_le (by rw [HL.out]; exact Nat.le_refl _)]; exact HOw.out, hb⟩

end Go.Proofs.Ytghimpfkpdfmnaa
