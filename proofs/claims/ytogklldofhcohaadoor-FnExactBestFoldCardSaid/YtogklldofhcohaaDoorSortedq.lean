/- The contract of the model's ntSorted. -/
import Derived.Test.YtogklldofhcohaaDoorM3q
import Derived.Test.YtogklldofhcohaaDoorM4q
import Derived.Test.YtogklldofhcohaaDoorM2q
import Derived.Test.YtogklldofhcohaaDoorM5q
import Derived.Lib.QuietBelow
namespace Go.Proofs.YtogklldofhcohaaDoor
open Go.RowKit Go.Sort
set_option linter.unusedVariables false
set_option linter.unusedSimpArgs false

set_option maxRecDepth 100000 in
set_option maxHeartbeats 8000000 in
theorem ntSorted_any (A : Option Addr) (l : List Nt) (c : Nat) (w : World) (hn : l.length ≤ 100000) (hA : RA w A l) :
    Calls Tryd.prog 36 #[.slice A l.length c] w fun e w' => RetScore w (canon l) (goodB (canon l)) e w' := by
  go_enter Tryd.func36, Tryd.ntmps36
  go_wp2
  go_loopw [4, 10] (fun a i wr => ∃ (k : Nat) (ys : List Nt), k ≤ l.length ∧ i = .int .i64 k ∧ ys.Perm (l.take k) ∧ Srt ys ∧ Own wr w.heap.size 47 a ys ∧ Below w.heap.size w wr)
    (fun _ i _ => l.length - (intOf i).toNat)
  case atStart => exact ⟨0, [], Nat.zero_le _, rfl, List.Perm.refl _, List.Pairwise.nil, Own.nil _ _ _, Below.refl _ _⟩
  case round =>
    obtain ⟨k, ys, hk, rfl, hperm, hsrt, hown, hb⟩ := hrel
    by_cases hlt : k < l.length
    · obtain rfl : k = ys.length := by have := hperm.length_eq; simp at this; omega
      obtain ⟨O, oc, rfl, hO, hoc, hocm⟩ := hown.form'
      unfold maxLen at hocm
      have hx : l[ys.length]? = some l[ys.length] := List.getElem?_eq_getElem hlt
      generalize l[ys.length] = x at hx
      obtain ⟨p, s, n⟩ := x
      obtain ⟨g, o, rfl, hg, h0, h1, h2⟩ := (hA.below hb) _ _ hx
      simp only at h0 h1 h2
      have i1 : (0 : Int) ≤ (ys.length : Int) := by omega
      have i2 : (ys.length : Int) < (l.length : Int) := by omega
      have HP := Lib.hid hperm
      have HS := Lib.hid hsrt
      have HW := Lib.hid hown
      have HX := Lib.hid hx
      clear hx hperm hsrt hown
      go_wp2_with fail
      have hxc : ∀ j, (wr.alloc (.cells #[.int .i64 p, .int .i64 s, .int .i64 n] 47)).cell? ⟨wr.heap.size, j, none⟩ = #[Value.int .i64 p, .int .i64 s, .int .i64 n][j]? := fun j => World.cell?_alloc_new wr _ _ j
      have hbW : Below w.heap.size w (wr.alloc (.cells #[.int .i64 p, .int .i64 s, .int .i64 n] 47)) := hb.alloc hb.size _
      have hbR : Below wr.heap.size wr (wr.alloc (.cells #[.int .i64 p, .int .i64 s, .int .i64 n] 47)) := (Below.refl _ _).alloc (Nat.le_refl _) _
      have hzW : wr.heap.size < (wr.alloc (.cells #[.int .i64 p, .int .i64 s, .int .i64 n] 47)).heap.size := by simp
      generalize wr.alloc (.cells #[.int .i64 p, .int .i64 s, .int .i64 n] 47) = W at *
      have HXC := Lib.hid hxc
      have HOR := Lib.hid (hO.below hbR)
      have HOW := Lib.hid (HW.out.below hbR (Nat.le_refl _))
      clear h0 h1 h2 hxc hO HW hbR hb
      generalize wr.heap.size = xb at *
      go_loopw [7] (fun i vr => ∃ j : Nat, j ≤ ys.length ∧ i = .int .i64 j ∧ (∀ (j' : Nat) (y : Nt), j ≤ j' → ys[j']? = some y → befN (p, s, n) y = true) ∧ Below W.heap.size W vr)
        (fun i _ => (intOf i).toNat)
      case atStart => exact ⟨ys.length, Nat.le_refl _, rfl, fun j' y h hy => absurd (List.getElem?_eq_some_iff.1 hy).1 (by omega), Below.refl _ _⟩
      case round =>
        obtain ⟨j, hj, rfl, hafter, hbr⟩ := hrel
        have HA := Lib.hid hafter
        clear hafter
        have x0 := cell_regrown ((hbr.cell (p := ⟨xb, 0, none⟩) hzW).trans (HXC.out 0))
        have x1 := cell_regrown ((hbr.cell (p := ⟨xb, 1, none⟩) hzW).trans (HXC.out 1))
        have x2 := cell_regrown ((hbr.cell (p := ⟨xb, 2, none⟩) hzW).trans (HXC.out 2))
        rcases Nat.eq_zero_or_pos j with hj0 | hj0
        · subst hj0
          go_wp2_with fail
          refine wp_region_quiet_below (by kernel_rfl) (by kernel_rfl) ?_
          repeat (go_big_quiet_step (fail))
          refine wpQuiet_nil ?_
          intro _ hw'
          obtain ⟨q, hw''⟩ := hw'
          subst hw''
          go_wp2_with fail
          have hbV := hbr.trans ((below_regrown wr q.d q.os).mono hbr.size)
          have hxV := fun i => ((hbV.cell (p := ⟨xb, i, none⟩) hzW).trans (HXC.out i))
          have hzV : xb < (grow (redrawn wr q.d) q.os).heap.size := Nat.lt_of_lt_of_le hzW hbV.size
          have hOV := Lib.hid (HOW.out.below hbV (Nat.le_refl _))
          have hRV := Lib.hid (HOR.out.below hbV)
          generalize grow (redrawn wr q.d) q.os = V at *
          have hbef := Lib.hid (show ∀ y, 0 < 0 → ys[0 - 1]? = some y → befN (p, s, n) y = false from fun y h => absurd h (by omega))
          clear x0 x1 x2 
          have x0 : V.cell? ⟨xb, 0, none⟩ = some (.int .i64 p) := hxV 0
          have x1 : V.cell? ⟨xb, 1, none⟩ = some (.int .i64 s) := hxV 1
          have x2 : V.cell? ⟨xb, 2, none⟩ = some (.int .i64 n) := hxV 2
          clear hxV
          obtain ⟨hO0, hO1⟩ := HOW.out.form3
          cases O with
          | none =>
            obtain rfl := hO0 rfl
            obtain rfl : ys = [] := List.eq_nil_of_length_eq_zero (by omega)
            clear hO0 hO1
            
            have hne : xb ≠ V.heap.size := by omega
            have j1 : (0 : Int) ≤ (0 : Int) := by omega
            have j2 : (0 : Int) ≤ (([] : List Nt).length : Int) := by omega
            have j3 : (0 : Int) ≤ (0 : Int) := by omega
            go_region_held3 (fun w' => w'.cell? ⟨xb, 0, none⟩ = some (.int .i64 p) ∧ w'.cell? ⟨xb, 1, none⟩ = some (.int .i64 s) ∧ w'.cell? ⟨xb, 2, none⟩ = some (.int .i64 n))
              (first | go_keep | assumption)
              (first
                | ((refine step_appN rfl (.tmp 29) (.tmp 32) rfl V.heap.size _ [] rfl (Own.empty (by first | exact heap_alloc_new _ _ | exact heap_old (heap_alloc_new _ _) | exact heap_new1 _ _ _) (by first | exact Nat.le_refl _ | (simp; done))) _ 0 _ (([] : List Nt).take 0) rfl (by simp; try omega) (fun _ => rfl) (RA.take (by first | exact hRV.out.alloc _ | exact (hRV.out.alloc _).alloc _) _) (by simp; try omega) (by simp; try omega) ?_); intro v1 w1 ho1 hg1; go_loud (have hB1 := Lib.hid (show Below V.heap.size V w1 from Below.grown (by first | exact bel1 _ _ | exact bel2 _ _ _) hg1 (by first | exact (bel1 _ _).size | exact (bel2 _ _ _).size) (fun k hk => by first | exact Nat.le_of_eq (own_row hk) | exact Nat.le_trans (Nat.le_succ _) (Nat.le_of_eq (own_row hk))))); have s1 : w1.cell? ⟨xb, 0, none⟩ = some (.int .i64 p) ∧ w1.cell? ⟨xb, 1, none⟩ = some (.int .i64 s) ∧ w1.cell? ⟨xb, 2, none⟩ = some (.int .i64 n) := ⟨(hB1.out.cell (p := ⟨xb, 0, none⟩) hzV).trans x0, (hB1.out.cell (p := ⟨xb, 1, none⟩) hzV).trans x1, (hB1.out.cell (p := ⟨xb, 2, none⟩) hzV).trans x2⟩; have HO1 := Lib.hid ho1; have HG1 := Lib.hid (show World.grownBy _ w1 (some _) from hg1); clear ho1 hg1)
                | (go_loud (refine step_appN rfl (.tmp 33) (.tmp 35) rfl V.heap.size _ _ rfl (by first | exact HO1.out | exact HO1.out.alloc _) _ 1 1 [(p, s, n)] rfl rfl (fun h => by cases h) (RA.one (by first | exact heap_alloc_new _ _ | exact (HG1.out.block _ (by first | (simp; done) | (simp; omega)) (by first | (simp; done) | (simp; omega))).trans (by first | exact heap_alloc_new _ _ | exact heap_old (heap_alloc_new _ _) | exact heap_new1 _ _ _))) (by simp; try omega) (by first | exact hB1.out.size | exact (hB1.out.alloc hB1.out.size _).size) ?_); intro v2 w2 ho2 hg2; have hB2 := Lib.hid (show Below V.heap.size V w2 from Below.grown (by first | exact hB1.out | exact hB1.out.alloc hB1.out.size _) hg2 (by first | exact hB1.out.size | exact (hB1.out.alloc hB1.out.size _).size) (fun k hk => (HO1.out.lt k hk).1)); have s2 : w2.cell? ⟨xb, 0, none⟩ = some (.int .i64 p) ∧ w2.cell? ⟨xb, 1, none⟩ = some (.int .i64 s) ∧ w2.cell? ⟨xb, 2, none⟩ = some (.int .i64 n) := ⟨(hB2.out.cell (p := ⟨xb, 0, none⟩) hzV).trans x0, (hB2.out.cell (p := ⟨xb, 1, none⟩) hzV).trans x1, (hB2.out.cell (p := ⟨xb, 2, none⟩) hzV).trans x2⟩; have HO2 := Lib.hid ho2; clear ho2 hg2)
                | (go_loud (refine step_appN rfl (.tmp 36) (.tmp 39) rfl V.heap.size _ _ rfl HO2.out _ 0 _ [] rfl (by simp) (fun _ => rfl) (fun i x hx => by simp at hx) (by simp; try omega) hB2.out.size ?_); intro v3 w3 ho3 hg3; have hB3 := Lib.hid (hB2.out.grown hg3 hB2.out.size (fun k hk => (HO2.out.lt k hk).1)); have s3 : w3.cell? ⟨xb, 0, none⟩ = some (.int .i64 p) ∧ w3.cell? ⟨xb, 1, none⟩ = some (.int .i64 s) ∧ w3.cell? ⟨xb, 2, none⟩ = some (.int .i64 n) := ⟨(hB3.out.cell (p := ⟨xb, 0, none⟩) hzV).trans x0, (hB3.out.cell (p := ⟨xb, 1, none⟩) hzV).trans x1, (hB3.out.cell (p := ⟨xb, 2, none⟩) hzV).trans x2⟩; have HO3 := Lib.hid ho3; clear ho3 hg3))
            all_goals
              go_wp2
              go_roundw
              case rel =>
                have hbV2 := hbW.trans (hbV.mono hbW.size)
                refine ⟨([] : List Nt).length + 1, ([] : List Nt).take 0 ++ [(p, s, n)] ++ ([] : List Nt).drop 0, by omega, by go_num, ?_, srt_ins HS.out hj HA.out hbef.out, ?_, hbV2.trans (hB3.out.mono hbV2.size)⟩
                · refine (ins_perm ([] : List Nt) (p, s, n) 0).trans ?_
                  rw [List.take_add_one, HX.out]
                  exact List.Perm.append_right _ HP.out
                · have h := HO3.out.mono hbV2.size
                  simpa using h
              case measure => simp [intOf]; omega
          | some ad =>
            obtain ⟨g2, rfl, hg2⟩ := hO1 ad rfl
            clear hO0 hO1
            
            by_cases hcj : oc = 0
            · have hne : xb ≠ V.heap.size := by omega
              have j1 : (0 : Int) ≤ (0 : Int) := by omega
              have j2 : (0 : Int) ≤ (ys.length : Int) := by omega
              have j3 : (0 : Int) ≤ (oc : Int) := by omega
              go_region_held3 (fun w' => w'.cell? ⟨xb, 0, none⟩ = some (.int .i64 p) ∧ w'.cell? ⟨xb, 1, none⟩ = some (.int .i64 s) ∧ w'.cell? ⟨xb, 2, none⟩ = some (.int .i64 n))
                (first | go_keep | assumption)
                (first
                  | ((refine step_appN rfl (.tmp 29) (.tmp 32) rfl V.heap.size _ [] rfl (Own.empty (by first | exact heap_alloc_new _ _ | exact heap_old (heap_alloc_new _ _) | exact heap_new1 _ _ _) (by first | exact Nat.le_refl _ | (simp; done))) _ 0 _ (ys.take 0) rfl (by simp; try omega) (fun h => by cases h) (RA.take (by first | exact hRV.out.alloc _ | exact (hRV.out.alloc _).alloc _) _) (by simp; try omega) (by simp; try omega) ?_); intro v1 w1 ho1 hg1; go_loud (have hB1 := Lib.hid (show Below V.heap.size V w1 from Below.grown (by first | exact bel1 _ _ | exact bel2 _ _ _) hg1 (by first | exact (bel1 _ _).size | exact (bel2 _ _ _).size) (fun k hk => by first | exact Nat.le_of_eq (own_row hk) | exact Nat.le_trans (Nat.le_succ _) (Nat.le_of_eq (own_row hk))))); have s1 : w1.cell? ⟨xb, 0, none⟩ = some (.int .i64 p) ∧ w1.cell? ⟨xb, 1, none⟩ = some (.int .i64 s) ∧ w1.cell? ⟨xb, 2, none⟩ = some (.int .i64 n) := ⟨(hB1.out.cell (p := ⟨xb, 0, none⟩) hzV).trans x0, (hB1.out.cell (p := ⟨xb, 1, none⟩) hzV).trans x1, (hB1.out.cell (p := ⟨xb, 2, none⟩) hzV).trans x2⟩; have HO1 := Lib.hid ho1; have HG1 := Lib.hid (show World.grownBy _ w1 (some _) from hg1); clear ho1 hg1)
                  | (go_loud (refine step_appN rfl (.tmp 33) (.tmp 35) rfl V.heap.size _ _ rfl (by first | exact HO1.out | exact HO1.out.alloc _) _ 1 1 [(p, s, n)] rfl rfl (fun h => by cases h) (RA.one (by first | exact heap_alloc_new _ _ | exact (HG1.out.block _ (by first | (simp; done) | (simp; omega)) (by first | (simp; done) | (simp; omega))).trans (by first | exact heap_alloc_new _ _ | exact heap_old (heap_alloc_new _ _) | exact heap_new1 _ _ _))) (by simp; try omega) (by first | exact hB1.out.size | exact (hB1.out.alloc hB1.out.size _).size) ?_); intro v2 w2 ho2 hg2; have hB2 := Lib.hid (show Below V.heap.size V w2 from Below.grown (by first | exact hB1.out | exact hB1.out.alloc hB1.out.size _) hg2 (by first | exact hB1.out.size | exact (hB1.out.alloc hB1.out.size _).size) (fun k hk => (HO1.out.lt k hk).1)); have s2 : w2.cell? ⟨xb, 0, none⟩ = some (.int .i64 p) ∧ w2.cell? ⟨xb, 1, none⟩ = some (.int .i64 s) ∧ w2.cell? ⟨xb, 2, none⟩ = some (.int .i64 n) := ⟨(hB2.out.cell (p := ⟨xb, 0, none⟩) hzV).trans x0, (hB2.out.cell (p := ⟨xb, 1, none⟩) hzV).trans x1, (hB2.out.cell (p := ⟨xb, 2, none⟩) hzV).trans x2⟩; have HO2 := Lib.hid ho2; clear ho2 hg2)
                  | (go_loud (refine step_appN rfl (.tmp 36) (.tmp 39) rfl V.heap.size _ _ rfl HO2.out _ ys.length _ (ys.drop 0) rfl (by simp) (by intro h; first | (cases h; done) | (split at h <;> cases h)) (RA.drop (hRV.out.below hB2.out) hoc (by intro h; first | exact absurd hcj h | rfl | simp [h])) (by simp; try omega) hB2.out.size ?_); intro v3 w3 ho3 hg3; have hB3 := Lib.hid (hB2.out.grown hg3 hB2.out.size (fun k hk => (HO2.out.lt k hk).1)); have s3 : w3.cell? ⟨xb, 0, none⟩ = some (.int .i64 p) ∧ w3.cell? ⟨xb, 1, none⟩ = some (.int .i64 s) ∧ w3.cell? ⟨xb, 2, none⟩ = some (.int .i64 n) := ⟨(hB3.out.cell (p := ⟨xb, 0, none⟩) hzV).trans x0, (hB3.out.cell (p := ⟨xb, 1, none⟩) hzV).trans x1, (hB3.out.cell (p := ⟨xb, 2, none⟩) hzV).trans x2⟩; have HO3 := Lib.hid ho3; clear ho3 hg3))
              all_goals
                go_wp2
                go_roundw
                case rel =>
                  have hbV2 := hbW.trans (hbV.mono hbW.size)
                  refine ⟨ys.length + 1, ys.take 0 ++ [(p, s, n)] ++ ys.drop 0, by omega, by go_num, ?_, srt_ins HS.out hj HA.out hbef.out, ?_, hbV2.trans (hB3.out.mono hbV2.size)⟩
                  · refine (ins_perm ys (p, s, n) 0).trans ?_
                    rw [List.take_add_one, HX.out]
                    exact List.Perm.append_right _ HP.out
                  · have h := HO3.out.mono hbV2.size
                    simpa using h
                case measure => simp [intOf]; omega
            · have hne : xb ≠ V.heap.size := by omega
              have j1 : (0 : Int) ≤ (0 : Int) := by omega
              have j2 : (0 : Int) ≤ (ys.length : Int) := by omega
              have j3 : (0 : Int) ≤ (oc : Int) := by omega
              go_region_held3 (fun w' => w'.cell? ⟨xb, 0, none⟩ = some (.int .i64 p) ∧ w'.cell? ⟨xb, 1, none⟩ = some (.int .i64 s) ∧ w'.cell? ⟨xb, 2, none⟩ = some (.int .i64 n))
                (first | go_keep | assumption)
                (first
                  | ((refine step_appN rfl (.tmp 29) (.tmp 32) rfl V.heap.size _ [] rfl (Own.empty (by first | exact heap_alloc_new _ _ | exact heap_old (heap_alloc_new _ _) | exact heap_new1 _ _ _) (by first | exact Nat.le_refl _ | (simp; done))) _ 0 _ (ys.take 0) rfl (by simp; try omega) (fun h => by cases h) (RA.take (by first | exact hRV.out.alloc _ | exact (hRV.out.alloc _).alloc _) _) (by simp; try omega) (by simp; try omega) ?_); intro v1 w1 ho1 hg1; go_loud (have hB1 := Lib.hid (show Below V.heap.size V w1 from Below.grown (by first | exact bel1 _ _ | exact bel2 _ _ _) hg1 (by first | exact (bel1 _ _).size | exact (bel2 _ _ _).size) (fun k hk => by first | exact Nat.le_of_eq (own_row hk) | exact Nat.le_trans (Nat.le_succ _) (Nat.le_of_eq (own_row hk))))); have s1 : w1.cell? ⟨xb, 0, none⟩ = some (.int .i64 p) ∧ w1.cell? ⟨xb, 1, none⟩ = some (.int .i64 s) ∧ w1.cell? ⟨xb, 2, none⟩ = some (.int .i64 n) := ⟨(hB1.out.cell (p := ⟨xb, 0, none⟩) hzV).trans x0, (hB1.out.cell (p := ⟨xb, 1, none⟩) hzV).trans x1, (hB1.out.cell (p := ⟨xb, 2, none⟩) hzV).trans x2⟩; have HO1 := Lib.hid ho1; have HG1 := Lib.hid (show World.grownBy _ w1 (some _) from hg1); clear ho1 hg1)
                  | (go_loud (refine step_appN rfl (.tmp 33) (.tmp 35) rfl V.heap.size _ _ rfl (by first | exact HO1.out | exact HO1.out.alloc _) _ 1 1 [(p, s, n)] rfl rfl (fun h => by cases h) (RA.one (by first | exact heap_alloc_new _ _ | exact (HG1.out.block _ (by first | (simp; done) | (simp; omega)) (by first | (simp; done) | (simp; omega))).trans (by first | exact heap_alloc_new _ _ | exact heap_old (heap_alloc_new _ _) | exact heap_new1 _ _ _))) (by simp; try omega) (by first | exact hB1.out.size | exact (hB1.out.alloc hB1.out.size _).size) ?_); intro v2 w2 ho2 hg2; have hB2 := Lib.hid (show Below V.heap.size V w2 from Below.grown (by first | exact hB1.out | exact hB1.out.alloc hB1.out.size _) hg2 (by first | exact hB1.out.size | exact (hB1.out.alloc hB1.out.size _).size) (fun k hk => (HO1.out.lt k hk).1)); have s2 : w2.cell? ⟨xb, 0, none⟩ = some (.int .i64 p) ∧ w2.cell? ⟨xb, 1, none⟩ = some (.int .i64 s) ∧ w2.cell? ⟨xb, 2, none⟩ = some (.int .i64 n) := ⟨(hB2.out.cell (p := ⟨xb, 0, none⟩) hzV).trans x0, (hB2.out.cell (p := ⟨xb, 1, none⟩) hzV).trans x1, (hB2.out.cell (p := ⟨xb, 2, none⟩) hzV).trans x2⟩; have HO2 := Lib.hid ho2; clear ho2 hg2)
                  | (go_loud (refine step_appN rfl (.tmp 36) (.tmp 39) rfl V.heap.size _ _ rfl HO2.out _ ys.length _ (ys.drop 0) rfl (by simp) (by intro h; first | (cases h; done) | (split at h <;> cases h)) (RA.drop (hRV.out.below hB2.out) hoc (by intro h; first | exact absurd hcj h | rfl | simp [h])) (by simp; try omega) hB2.out.size ?_); intro v3 w3 ho3 hg3; have hB3 := Lib.hid (hB2.out.grown hg3 hB2.out.size (fun k hk => (HO2.out.lt k hk).1)); have s3 : w3.cell? ⟨xb, 0, none⟩ = some (.int .i64 p) ∧ w3.cell? ⟨xb, 1, none⟩ = some (.int .i64 s) ∧ w3.cell? ⟨xb, 2, none⟩ = some (.int .i64 n) := ⟨(hB3.out.cell (p := ⟨xb, 0, none⟩) hzV).trans x0, (hB3.out.cell (p := ⟨xb, 1, none⟩) hzV).trans x1, (hB3.out.cell (p := ⟨xb, 2, none⟩) hzV).trans x2⟩; have HO3 := Lib.hid ho3; clear ho3 hg3))
              all_goals
                go_wp2
                go_roundw
                case rel =>
                  have hbV2 := hbW.trans (hbV.mono hbW.size)
                  refine ⟨ys.length + 1, ys.take 0 ++ [(p, s, n)] ++ ys.drop 0, by omega, by go_num, ?_, srt_ins HS.out hj HA.out hbef.out, ?_, hbV2.trans (hB3.out.mono hbV2.size)⟩
                  · refine (ins_perm ys (p, s, n) 0).trans ?_
                    rw [List.take_add_one, HX.out]
                    exact List.Perm.append_right _ HP.out
                  · have h := HO3.out.mono hbV2.size
                    simpa using h
                case measure => simp [intOf]; omega
        · have hd : (0 : Int) < (j : Int) := by omega
          have hy : ys[j - 1]? = some ys[j - 1] := List.getElem?_eq_getElem (by omega)
          generalize ys[j - 1] = y at hy
          obtain ⟨p', s', n'⟩ := y
          obtain ⟨g2, o2, rfl, hg2, y0, y1, y2⟩ := (HOR.out.below hbr) (j - 1) _ hy
          simp only at y0 y1 y2
          have y0 := cell_regrown y0
          have y1 := cell_regrown y1
          have y2 := cell_regrown y2
          have HY := Lib.hid hy
          have i3 : (0 : Int) ≤ (j : Int) - 1 := by omega
          have i4 : (j : Int) - 1 < (ys.length : Int) := by omega
          have cB : ∀ d os, Calls Tryd.prog 47 #[.agg #[.int .i64 p, .int .i64 s, .int .i64 n], .agg #[.int .i64 p', .int .i64 s', .int .i64 n']] (grow (redrawn wr d) os) fun e w'' => e = .returned (.bool (befB p s p' s')) ∧ ∃ q : Regrown, w'' = grow (redrawn wr q.d) q.os :=
            fun d os => Calls.regrown_of (ntBefore_any p s n p' s' n' _)
          clear hy
          go_wp2_with fail
          cases hbf : befB p s p' s' with
          | false =>
            refine wp_region_quiet_below (by kernel_rfl) (by kernel_rfl) ?_
            repeat (go_big_quiet_step (exact (cB _ _)))
            refine wpQuiet_nil ?_
            intro _ hw'
            obtain ⟨q, hw''⟩ := hw'
            subst hw''
            go_wp2_with fail
            have hbV := hbr.trans ((below_regrown wr q.d q.os).mono hbr.size)
            have hxV := fun i => ((hbV.cell (p := ⟨xb, i, none⟩) hzW).trans (HXC.out i))
            have hzV : xb < (grow (redrawn wr q.d) q.os).heap.size := Nat.lt_of_lt_of_le hzW hbV.size
            have hOV := Lib.hid (HOW.out.below hbV (Nat.le_refl _))
            have hRV := Lib.hid (HOR.out.below hbV)
            generalize grow (redrawn wr q.d) q.os = V at *
            have hbef := Lib.hid (show ∀ y, 0 < j → ys[j - 1]? = some y → befN (p, s, n) y = false from fun y _ hy => by have e := HY.out.symm.trans hy; injection e with e; subst e; exact hbf)
            clear x0 x1 x2 y0 y1 y2 cB
            have x0 : V.cell? ⟨xb, 0, none⟩ = some (.int .i64 p) := hxV 0
            have x1 : V.cell? ⟨xb, 1, none⟩ = some (.int .i64 s) := hxV 1
            have x2 : V.cell? ⟨xb, 2, none⟩ = some (.int .i64 n) := hxV 2
            clear hxV
            obtain ⟨hO0, hO1⟩ := HOW.out.form3
            obtain ⟨g3, hg3, hg4⟩ := hO1 _ rfl
            simp only [Addr.mk.injEq, and_true] at hg3
            obtain ⟨rfl, rfl⟩ := hg3
            clear hO0 hO1
            by_cases hcj : oc = j
            · have hne : xb ≠ V.heap.size := by omega
              have j1 : (0 : Int) ≤ (j : Int) := by omega
              have j2 : (j : Int) ≤ (ys.length : Int) := by omega
              have j3 : (j : Int) ≤ (oc : Int) := by omega
              go_region_held3 (fun w' => w'.cell? ⟨xb, 0, none⟩ = some (.int .i64 p) ∧ w'.cell? ⟨xb, 1, none⟩ = some (.int .i64 s) ∧ w'.cell? ⟨xb, 2, none⟩ = some (.int .i64 n))
                (first | go_keep | assumption)
                (first
                  | ((refine step_appN rfl (.tmp 29) (.tmp 32) rfl V.heap.size _ [] rfl (Own.empty (by first | exact heap_alloc_new _ _ | exact heap_old (heap_alloc_new _ _) | exact heap_new1 _ _ _) (by first | exact Nat.le_refl _ | (simp; done))) _ j _ (ys.take j) rfl (by simp; try omega) (fun h => by cases h) (RA.take (by first | exact hRV.out.alloc _ | exact (hRV.out.alloc _).alloc _) _) (by simp; try omega) (by simp; try omega) ?_); intro v1 w1 ho1 hg1; go_loud (have hB1 := Lib.hid (show Below V.heap.size V w1 from Below.grown (by first | exact bel1 _ _ | exact bel2 _ _ _) hg1 (by first | exact (bel1 _ _).size | exact (bel2 _ _ _).size) (fun k hk => by first | exact Nat.le_of_eq (own_row hk) | exact Nat.le_trans (Nat.le_succ _) (Nat.le_of_eq (own_row hk))))); have s1 : w1.cell? ⟨xb, 0, none⟩ = some (.int .i64 p) ∧ w1.cell? ⟨xb, 1, none⟩ = some (.int .i64 s) ∧ w1.cell? ⟨xb, 2, none⟩ = some (.int .i64 n) := ⟨(hB1.out.cell (p := ⟨xb, 0, none⟩) hzV).trans x0, (hB1.out.cell (p := ⟨xb, 1, none⟩) hzV).trans x1, (hB1.out.cell (p := ⟨xb, 2, none⟩) hzV).trans x2⟩; have HO1 := Lib.hid ho1; have HG1 := Lib.hid (show World.grownBy _ w1 (some _) from hg1); clear ho1 hg1)
                  | (go_loud (refine step_appN rfl (.tmp 33) (.tmp 35) rfl V.heap.size _ _ rfl (by first | exact HO1.out | exact HO1.out.alloc _) _ 1 1 [(p, s, n)] rfl rfl (fun h => by cases h) (RA.one (by first | exact heap_alloc_new _ _ | exact (HG1.out.block _ (by first | (simp; done) | (simp; omega)) (by first | (simp; done) | (simp; omega))).trans (by first | exact heap_alloc_new _ _ | exact heap_old (heap_alloc_new _ _) | exact heap_new1 _ _ _))) (by simp; try omega) (by first | exact hB1.out.size | exact (hB1.out.alloc hB1.out.size _).size) ?_); intro v2 w2 ho2 hg2; have hB2 := Lib.hid (show Below V.heap.size V w2 from Below.grown (by first | exact hB1.out | exact hB1.out.alloc hB1.out.size _) hg2 (by first | exact hB1.out.size | exact (hB1.out.alloc hB1.out.size _).size) (fun k hk => (HO1.out.lt k hk).1)); have s2 : w2.cell? ⟨xb, 0, none⟩ = some (.int .i64 p) ∧ w2.cell? ⟨xb, 1, none⟩ = some (.int .i64 s) ∧ w2.cell? ⟨xb, 2, none⟩ = some (.int .i64 n) := ⟨(hB2.out.cell (p := ⟨xb, 0, none⟩) hzV).trans x0, (hB2.out.cell (p := ⟨xb, 1, none⟩) hzV).trans x1, (hB2.out.cell (p := ⟨xb, 2, none⟩) hzV).trans x2⟩; have HO2 := Lib.hid ho2; clear ho2 hg2)
                  | (go_loud (refine step_appN rfl (.tmp 36) (.tmp 39) rfl V.heap.size _ _ rfl HO2.out _ (ys.length - j) _ (ys.drop j) rfl (by simp) (by intro h; first | (cases h; done) | (split at h <;> cases h)) (RA.drop (hRV.out.below hB2.out) hoc (by intro h; first | exact absurd hcj h | rfl | simp [h])) (by simp; try omega) hB2.out.size ?_); intro v3 w3 ho3 hg3; have hB3 := Lib.hid (hB2.out.grown hg3 hB2.out.size (fun k hk => (HO2.out.lt k hk).1)); have s3 : w3.cell? ⟨xb, 0, none⟩ = some (.int .i64 p) ∧ w3.cell? ⟨xb, 1, none⟩ = some (.int .i64 s) ∧ w3.cell? ⟨xb, 2, none⟩ = some (.int .i64 n) := ⟨(hB3.out.cell (p := ⟨xb, 0, none⟩) hzV).trans x0, (hB3.out.cell (p := ⟨xb, 1, none⟩) hzV).trans x1, (hB3.out.cell (p := ⟨xb, 2, none⟩) hzV).trans x2⟩; have HO3 := Lib.hid ho3; clear ho3 hg3))
              all_goals
                go_wp2
                go_roundw
                case rel =>
                  have hbV2 := hbW.trans (hbV.mono hbW.size)
                  refine ⟨ys.length + 1, ys.take j ++ [(p, s, n)] ++ ys.drop j, by omega, by go_num, ?_, srt_ins HS.out hj HA.out hbef.out, ?_, hbV2.trans (hB3.out.mono hbV2.size)⟩
                  · refine (ins_perm ys (p, s, n) j).trans ?_
                    rw [List.take_add_one, HX.out]
                    exact List.Perm.append_right _ HP.out
                  · have h := HO3.out.mono hbV2.size
                    simpa using h
                case measure => simp [intOf]; omega
            · have hne : xb ≠ V.heap.size := by omega
              have j1 : (0 : Int) ≤ (j : Int) := by omega
              have j2 : (j : Int) ≤ (ys.length : Int) := by omega
              have j3 : (j : Int) ≤ (oc : Int) := by omega
              go_region_held3 (fun w' => w'.cell? ⟨xb, 0, none⟩ = some (.int .i64 p) ∧ w'.cell? ⟨xb, 1, none⟩ = some (.int .i64 s) ∧ w'.cell? ⟨xb, 2, none⟩ = some (.int .i64 n))
                (first | go_keep | assumption)
                (first
                  | ((refine step_appN rfl (.tmp 29) (.tmp 32) rfl V.heap.size _ [] rfl (Own.empty (by first | exact heap_alloc_new _ _ | exact heap_old (heap_alloc_new _ _) | exact heap_new1 _ _ _) (by first | exact Nat.le_refl _ | (simp; done))) _ j _ (ys.take j) rfl (by simp; try omega) (fun h => by cases h) (RA.take (by first | exact hRV.out.alloc _ | exact (hRV.out.alloc _).alloc _) _) (by simp; try omega) (by simp; try omega) ?_); intro v1 w1 ho1 hg1; go_loud (have hB1 := Lib.hid (show Below V.heap.size V w1 from Below.grown (by first | exact bel1 _ _ | exact bel2 _ _ _) hg1 (by first | exact (bel1 _ _).size | exact (bel2 _ _ _).size) (fun k hk => by first | exact Nat.le_of_eq (own_row hk) | exact Nat.le_trans (Nat.le_succ _) (Nat.le_of_eq (own_row hk))))); have s1 : w1.cell? ⟨xb, 0, none⟩ = some (.int .i64 p) ∧ w1.cell? ⟨xb, 1, none⟩ = some (.int .i64 s) ∧ w1.cell? ⟨xb, 2, none⟩ = some (.int .i64 n) := ⟨(hB1.out.cell (p := ⟨xb, 0, none⟩) hzV).trans x0, (hB1.out.cell (p := ⟨xb, 1, none⟩) hzV).trans x1, (hB1.out.cell (p := ⟨xb, 2, none⟩) hzV).trans x2⟩; have HO1 := Lib.hid ho1; have HG1 := Lib.hid (show World.grownBy _ w1 (some _) from hg1); clear ho1 hg1)
                  | (go_loud (refine step_appN rfl (.tmp 33) (.tmp 35) rfl V.heap.size _ _ rfl (by first | exact HO1.out | exact HO1.out.alloc _) _ 1 1 [(p, s, n)] rfl rfl (fun h => by cases h) (RA.one (by first | exact heap_alloc_new _ _ | exact (HG1.out.block _ (by first | (simp; done) | (simp; omega)) (by first | (simp; done) | (simp; omega))).trans (by first | exact heap_alloc_new _ _ | exact heap_old (heap_alloc_new _ _) | exact heap_new1 _ _ _))) (by simp; try omega) (by first | exact hB1.out.size | exact (hB1.out.alloc hB1.out.size _).size) ?_); intro v2 w2 ho2 hg2; have hB2 := Lib.hid (show Below V.heap.size V w2 from Below.grown (by first | exact hB1.out | exact hB1.out.alloc hB1.out.size _) hg2 (by first | exact hB1.out.size | exact (hB1.out.alloc hB1.out.size _).size) (fun k hk => (HO1.out.lt k hk).1)); have s2 : w2.cell? ⟨xb, 0, none⟩ = some (.int .i64 p) ∧ w2.cell? ⟨xb, 1, none⟩ = some (.int .i64 s) ∧ w2.cell? ⟨xb, 2, none⟩ = some (.int .i64 n) := ⟨(hB2.out.cell (p := ⟨xb, 0, none⟩) hzV).trans x0, (hB2.out.cell (p := ⟨xb, 1, none⟩) hzV).trans x1, (hB2.out.cell (p := ⟨xb, 2, none⟩) hzV).trans x2⟩; have HO2 := Lib.hid ho2; clear ho2 hg2)
                  | (go_loud (refine step_appN rfl (.tmp 36) (.tmp 39) rfl V.heap.size _ _ rfl HO2.out _ (ys.length - j) _ (ys.drop j) rfl (by simp) (by intro h; first | (cases h; done) | (split at h <;> cases h)) (RA.drop (hRV.out.below hB2.out) hoc (by intro h; first | exact absurd hcj h | rfl | simp [h])) (by simp; try omega) hB2.out.size ?_); intro v3 w3 ho3 hg3; have hB3 := Lib.hid (hB2.out.grown hg3 hB2.out.size (fun k hk => (HO2.out.lt k hk).1)); have s3 : w3.cell? ⟨xb, 0, none⟩ = some (.int .i64 p) ∧ w3.cell? ⟨xb, 1, none⟩ = some (.int .i64 s) ∧ w3.cell? ⟨xb, 2, none⟩ = some (.int .i64 n) := ⟨(hB3.out.cell (p := ⟨xb, 0, none⟩) hzV).trans x0, (hB3.out.cell (p := ⟨xb, 1, none⟩) hzV).trans x1, (hB3.out.cell (p := ⟨xb, 2, none⟩) hzV).trans x2⟩; have HO3 := Lib.hid ho3; clear ho3 hg3))
              all_goals
                go_wp2
                go_roundw
                case rel =>
                  have hbV2 := hbW.trans (hbV.mono hbW.size)
                  refine ⟨ys.length + 1, ys.take j ++ [(p, s, n)] ++ ys.drop j, by omega, by go_num, ?_, srt_ins HS.out hj HA.out hbef.out, ?_, hbV2.trans (hB3.out.mono hbV2.size)⟩
                  · refine (ins_perm ys (p, s, n) j).trans ?_
                    rw [List.take_add_one, HX.out]
                    exact List.Perm.append_right _ HP.out
                  · have h := HO3.out.mono hbV2.size
                    simpa using h
                case measure => simp [intOf]; omega
          | true =>
            refine wp_region_quiet_below (by kernel_rfl) (by kernel_rfl) ?_
            repeat (go_big_quiet_step (exact (cB _ _)))
            refine wpQuiet_nil ?_
            intro _ hw'
            obtain ⟨q, hw''⟩ := hw'
            subst hw''
            go_wp2
            go_roundw
            case rel =>
              refine ⟨j - 1, by omega, by go_num, ?_, hbr.trans ((below_regrown wr q.d q.os).mono hbr.size)⟩
              intro j' z hj' hz
              rcases Nat.lt_or_ge j' j with h | h
              · obtain rfl : j' = j - 1 := by omega
                have e := HY.out.symm.trans hz
                injection e with e
                subst e
                exact hbf
              · exact HA.out j' z h hz
            case measure => simp [intOf]; omega
    · obtain rfl : k = l.length := by omega
      rw [List.take_length] at hperm
      obtain ⟨O, oc, rfl, hO, hoc, hocm⟩ := hown.form'
      unfold maxLen at hocm
      have HCG := Lib.hid (canon_good hperm hsrt)
      have HW := Lib.hid hown
      have HPM := Lib.hid hperm
      have hlen : ys.length ≤ 1048576 := by rw [hperm.length_eq]; omega
      clear hperm hsrt hown
      cases hgb : goodB ys with
      | false =>
        go_wp2_with (go_at_call 33; refine (ntGood_any _ _ _ _ hlen hoc (by omega) hO).mono ?_; rintro e w2 ⟨rfl, hb2⟩)
        go_ret2
        have hcg := HCG.out
        rw [hgb] at hcg
        rw [← hcg.1]
        exact ⟨_, rfl, by simpa using Own.nil _ _ _, hb.trans (hb2.mono hb.size)⟩
      | true =>
        go_wp2_with (go_at_call 33; refine (ntGood_any _ _ _ _ hlen hoc (by omega) hO).mono ?_; rintro e w2 ⟨rfl, hb2⟩)
        go_ret2
        have hcg := HCG.out
        rw [hgb] at hcg
        have h2 := hcg.2
        rw [← hcg.1] at h2
        rw [if_pos rfl, if_pos rfl] at h2
        rw [← hcg.1]
        refine ⟨_, rfl, ?_, hb.trans (hb2.mono hb.size)⟩
        rw [if_pos rfl, ← h2]
        exact HW.out.below hb2 (Nat.le_refl _)
end Go.Proofs.YtogklldofhcohaaDoor
