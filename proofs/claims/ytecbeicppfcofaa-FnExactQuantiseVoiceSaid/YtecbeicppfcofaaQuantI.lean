/- The program's notes of a voice on a grid. -/
import Derived.Test.YtecbeicppfcofaaQuant
namespace Go.Proofs.Ytecbeicppfcofaa
open Go.RowKit Go.Sort
set_option linter.unusedVariables false
set_option linter.unusedSimpArgs false

set_option maxRecDepth 100000 in
set_option maxHeartbeats 4000000 in
theorem implQuantiseVoice_any (g : Nat) (l : List Nt) (c : Nat) (r : Int) (w : World) (hn : l.length ≤ 1048576) (hc : l.length ≤ c) (hc' : c ≤ 9223372036854775807) (hA : RA w (some ⟨g, 0, none⟩) l) :
    Calls Try.prog 23 #[.slice (some ⟨g, 0, none⟩) l.length c, .int .i64 r] w fun e w' => ∃ v, e = .returned (.tuple #[v, .bool (quantiseB l r)]) ∧ Own w' w.heap.size 66 v (quantiseG l r) ∧ Below w.heap.size w w' := by
  cases hg : goodV l with
  | false =>
    have hr : quantiseB l r = false := by simp [quantiseB, hg]
    have hr2 : quantiseG l r = [] := by simp [quantiseG, hr]
    rw [hr, hr2]
    go_enter Try.func23, Try.ntmps23
    go_wp2_with fail
    refine (implIsVoice_any' _ _ _ _ hn hA).mono ?_
    rintro e w1 ⟨rfl, hb1⟩
    go_wp2
    go_ret2
    exact ⟨_, rfl, Own.nil _ _ _, hb1⟩
  | true =>
    cases hi : inR r 1 48 with
    | false =>
      have hr : quantiseB l r = false := by simp [quantiseB, hi]
      have hr2 : quantiseG l r = [] := by simp [quantiseG, hr]
      rw [hr, hr2]
      go_enter Try.func23, Try.ntmps23
      go_wp2_with fail
      refine (implIsVoice_any' _ _ _ _ hn hA).mono ?_
      rintro e w1 ⟨rfl, hb1⟩
      go_wp2_with (go_at_call 55; refine (isGrid_any _ _).mono ?_; rintro e w2 ⟨rfl, rfl⟩)
      go_ret2
      exact ⟨_, rfl, Own.nil _ _ _, hb1⟩
    | true =>
      have hi' : 1 ≤ r ∧ r ≤ 48 := by simpa [inR] using hi
      have hB : quantiseB l r = goodB (quantTo r l l.length) := by simp [quantiseB, hg, hi]
      have h20 := ((goodV_iff l).1 hg).2
      have hok := okT_of hg
      have HEV := Lib.hid ((goodV_iff l).1 hg).1
      have HT := Lib.hid (tks_of hg)
      have HE := Lib.hid (fun W hA => edgesOf_any (some ⟨g, 0, none⟩) l c W h20 hok hA)
      have HA := Lib.hid hA
      have HB := Lib.hid hB
      clear hok hA hB
      go_enter Try.func23, Try.ntmps23
      go_wp2_with fail
      refine (implIsVoice_any' _ _ _ _ hn HA.out).mono ?_
      rintro e w0 ⟨rfl, hb0⟩
      go_wp2_with fail
      refine (isGrid_any _ _).mono ?_
      rintro e w1 ⟨rfl, rfl⟩
      go_wp2_with fail
      refine (HE.out _ (HA.out.below hb0)).mono ?_
      rintro e w1 ⟨ve, rfl, hoe, hbe⟩
      have hb1 := hb0.trans (hbe.mono hb0.size)
      have HA1 := Lib.hid (HA.out.below hb1)
      have HCE := Lib.hid (fun k hk => edges_cell (k := k) hoe hk)
      obtain ⟨ge, ce, rfl, hge, _⟩ := edges_cell hoe (Nat.zero_le _)
      clear hoe hb0 hbe
      go_wp2_with fail
      go_loopw [7, 24] (fun p a wr => ∃ k : Nat, k ≤ l.length ∧ a = .int .i64 (k : Int) ∧ Own wr w1.heap.size 66 p (quantTo r l k) ∧ Below w1.heap.size w1 wr)
        (fun _ a _ => l.length - (intOf a).toNat)
      case atStart => exact ⟨0, Nat.zero_le _, rfl, Own.nil _ _ _, Below.refl _ _⟩
      case round =>
        obtain ⟨k, hk, rfl, hown, hb⟩ := hrel
        by_cases hkl : k < l.length
        · have j1 : (k : Int) < (l.length : Int) := by omega
          have j2 : (0 : Int) ≤ (k : Int) := by omega
          have j3 : (k : Int) < (l.length : Int) + 1 := by omega
          have j4 : (k : Int) + 1 < (l.length : Int) + 1 := by omega
          have hx : l[k]? = some l[k] := List.getElem?_eq_getElem hkl
          generalize l[k] = x at hx
          have hq := quantTo_succ (g := r) hx
          have hql := quantTo_length r l k
          have hev := (evN_iff x).1 (HEV.out x (List.mem_of_getElem? hx))
          have hT0 := HT.out k
          have hT1 := HT.out (k + 1)
          have HS0 := Lib.hid (fun W => roundedStep_any (tks (l.take k)) r W hT0.1 (by omega) hi'.1 hi'.2)
          have HS1 := Lib.hid (fun W => roundedStep_any (tks (l.take (k + 1))) r W hT1.1 (by omega) hi'.1 hi'.2)
          have hs0 := stepOf_bounds hT0.1 (by omega) hi'.1 hi'.2
          have hs1 := stepOf_bounds hT1.1 (by omega) hi'.1 hi'.2
          obtain ⟨ge1, ce1, he1, _, hc0⟩ := HCE.out k hk
          obtain ⟨ge2, ce2, he2, _, hc1⟩ := HCE.out (k + 1) hkl
          injection he1 with e1 e2 e3
          injection he2 with e4 e5 e6
          simp only [Option.some.injEq, Addr.mk.injEq, and_true] at e1 e4
          subst e1 e3 e4 e6
          clear e2 e5
          obtain ⟨p, n, d⟩ := x
          obtain ⟨g', o', hgo, hg', h0, h1, h2⟩ := (HA1.out.below hb) k _ hx
          simp only [Option.some.injEq, Addr.mk.injEq, and_true] at hgo
          obtain ⟨rfl, rfl⟩ := hgo
          simp only [Nat.zero_add] at h0 h1 h2 hq
          generalize stepOf (tks (l.take k)) r = s at *
          generalize stepOf (tks (l.take (k + 1))) r = t at *
          generalize tks (l.take k) = T0 at *
          generalize tks (l.take (k + 1)) = T1 at *
          have HQ := Lib.hid hq
          have HO := Lib.hid hown
          have hnb : Below wr.heap.size wr (wr.alloc (.cells #[.int .i64 p, .int .i64 n, .int .i64 d] 52)) := (Below.refl _ _).alloc (Nat.le_refl _) _
          have q0 : (wr.alloc (.cells #[.int .i64 p, .int .i64 n, .int .i64 d] 52)).cell? ⟨wr.heap.size, 0, none⟩ = some (.int .i64 p) := by rw [World.cell?_alloc_new]; rfl
          have q1 : (wr.alloc (.cells #[.int .i64 p, .int .i64 n, .int .i64 d] 52)).cell? ⟨wr.heap.size, 1, none⟩ = some (.int .i64 n) := by rw [World.cell?_alloc_new]; rfl
          have q2 : (wr.alloc (.cells #[.int .i64 p, .int .i64 n, .int .i64 d] 52)).cell? ⟨wr.heap.size, 2, none⟩ = some (.int .i64 d) := by rw [World.cell?_alloc_new]; rfl
          have hz1 : (wr.alloc (.cells #[.int .i64 p, .int .i64 n, .int .i64 d] 52)).heap.size = wr.heap.size + 1 := by simp
          have hs0' := hs0.2.1
          have hs1' := hs1.2.1
          have hs0'' := hs0.1
          have hs1'' := hs1.1
          have hgr : ge < wr.heap.size := Nat.lt_of_lt_of_le hge hb.size
          have hc0 := (hnb.cell (p := ⟨ge, k, none⟩) hgr).trans ((hb.cell (p := ⟨ge, k, none⟩) hge).trans hc0)
          have hc1 := (hnb.cell (p := ⟨ge, k + 1, none⟩) hgr).trans ((hb.cell (p := ⟨ge, k + 1, none⟩) hge).trans hc1)
          clear hq hx hown hs0 hs1 hT0 hT1
          go_wp2_with fail
          generalize wr.alloc (.cells #[.int .i64 p, .int .i64 n, .int .i64 d] 52) = W at *
          have c0 := cell_regrown hc0
          have c1 := cell_regrown hc1
          have cS0 : ∀ D os, Calls Try.prog 56 #[.int .i64 T0, .int .i64 r] (grow (redrawn W D) os) fun e w'' => e = .returned (.int .i64 s) ∧ ∃ q : Regrown, w'' = grow (redrawn W q.d) q.os :=
            fun D os => Calls.regrown_of ((HS0.out _).mono fun e w' ⟨he, hw⟩ => ⟨he, by subst hw; exact Below.refl _ _⟩)
          have cS1 : ∀ D os, Calls Try.prog 56 #[.int .i64 T1, .int .i64 r] (grow (redrawn W D) os) fun e w'' => e = .returned (.int .i64 t) ∧ ∃ q : Regrown, w'' = grow (redrawn W q.d) q.os :=
            fun D os => Calls.regrown_of ((HS1.out _).mono fun e w' ⟨he, hw⟩ => ⟨he, by subst hw; exact Below.refl _ _⟩)
          refine wp_region_quiet_below (by kernel_rfl) (by kernel_rfl) ?_
          repeat (go_big_quiet_step (first | exact (cS0 _ _) | exact (cS1 _ _)))
          refine wpQuiet_nil ?_
          intro _ hw'
          obtain ⟨q, hw''⟩ := hw'
          subst hw''
          have hbV := hnb.trans ((below_regrown W q.d q.os).mono hnb.size)
          have HBV := Lib.hid hbV
          have r0 := ((below_regrown W q.d q.os).cell (p := ⟨wr.heap.size, 0, none⟩) (by show wr.heap.size < _; omega)).trans q0
          have r1 := ((below_regrown W q.d q.os).cell (p := ⟨wr.heap.size, 1, none⟩) (by show wr.heap.size < _; omega)).trans q1
          have r2 := ((below_regrown W q.d q.os).cell (p := ⟨wr.heap.size, 2, none⟩) (by show wr.heap.size < _; omega)).trans q2
          have hzV : wr.heap.size < (grow (redrawn W q.d) q.os).heap.size := Nat.lt_of_lt_of_le (by omega) (below_regrown W q.d q.os).size
          go_wp2_with fail
          generalize grow (redrawn W q.d) q.os = V at *
          refine (isRest_any _ _ _ _).mono ?_
          rintro e w4 ⟨rfl, hb4⟩
          have hnb4 := hbV.trans (hb4.mono hbV.size)
          have hBB := Lib.hid (hb.trans (hnb4.mono hb.size))
          have p4 := (hb4.cell (p := ⟨wr.heap.size, 0, none⟩) hzV).trans r0
          have HO4 := Lib.hid (HO.out.below hnb4 (Nat.le_refl _))
          clear c0 c1 cS0 cS1 q0 q1 q2 r0 r1 r2 h0 h1 h2 hc0 hc1 hb4 hbV hnb hnb4
          by_cases hp : p = 0
          · have hd : decide (p = 0) = true := by simp [hp]
            have e1 : qn p s t = [] := by simp [qn, hp]
            have HP := Lib.hid hp
            rw [e1, List.append_nil] at HQ
            clear hp
            go_wp2
            go_roundw
            case rel => exact ⟨k + 1, by omega, by go_num, by rw [HQ.out]; exact HO4.out, hBB.out⟩
            case measure => simp [intOf]; omega
          · have hd : decide (p = 0) = false := by simp [hp]
            have hp0 : 0 < p := by have := hev.1; omega
            by_cases hst : s < t
            · have e1 : qn p s t = [(p, s, t - s)] := by simp [qn, hp0, hst]
              rw [e1] at HQ
              have HO5 := Lib.hid (HO4.out.below (B := w4.heap.size) ((Below.refl _ _).alloc (Nat.le_refl _) (.cells #[.int .i64 p, .int .i64 s, .int .i64 (t - s)] 66)) (Nat.le_refl _))
              have HB5 := Lib.hid (hBB.out.alloc hBB.out.size (.cells #[.int .i64 p, .int .i64 s, .int .i64 (t - s)] 66))
              go_wp2_with (at_builtin; go_loud (refine wpList_appN _ rfl (.tmp 50) (.tmp 58) rfl w1.heap.size _ _ rfl HO5.out _ 1 1 [(p, s, t - s)] rfl rfl (fun h => by cases h) (RA.one (heap_alloc_new _ _)) (by omega) HB5.out.size ?_); intro v6 w6 ho6 hg6; have hB6 := Lib.hid (HB5.out.grown hg6 HB5.out.size (fun j hj => (HO5.out.lt j hj).1)))
              go_roundw
              case rel => exact ⟨k + 1, by omega, by go_num, by rw [HQ.out]; exact ho6, hB6.out⟩
              case measure => simp [intOf]; omega
            · have e1 : qn p s t = [] := by simp [qn, hst]
              rw [e1, List.append_nil] at HQ
              go_wp2
              go_roundw
              case rel => exact ⟨k + 1, by omega, by go_num, by rw [HQ.out]; exact HO4.out, hBB.out⟩
              case measure => simp [intOf]; omega
        · obtain rfl : k = l.length := by omega
          have hql := quantTo_length r l l.length
          have hB2 := Lib.hid (hb1.trans (hb.mono hb1.size))
          have HSO := Lib.hid (scoreOnly_any _ _ _ _ (by omega) hown)
          obtain ⟨O, oc, rfl, hO⟩ := hown.form
          clear hO hown
          go_wp2_with (go_at_call 58; refine HSO.out.mono ?_; rintro e w3 ⟨u, rfl, ho3, hb3⟩)
          go_ret2
          refine ⟨_, by rw [HB.out]; rfl, ?_, hB2.out.trans (hb3.mono hB2.out.size)⟩
          have hG : quantiseG l r = if goodB (quantTo r l l.length) = true then quantTo r l l.length else [] := by simp [quantiseG, HB.out]
          rw [hG]
          exact ho3.mono hb1.size

end Go.Proofs.Ytecbeicppfcofaa
