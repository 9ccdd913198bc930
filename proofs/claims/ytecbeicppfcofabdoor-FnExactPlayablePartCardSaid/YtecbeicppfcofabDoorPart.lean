/- The model's PlayablePart. -/
import Derived.Test.YtecbeicppfcofabDoorPartI
import Derived.Test.YtecbeicppfcofabDoorMiss
import Derived.Test.YtecbeicppfcofabDoorLast
import Derived.Lib.QuietBelow
namespace Go.Proofs.YtecbeicppfcofabDoor
open Go.RowKit Go.Sort
set_option linter.unusedVariables false
set_option linter.unusedSimpArgs false

theorem own_row {b n c k : Nat} (h : (Value.slice (some ⟨b, 0, none⟩) n c).ownBlock = some k) : b = k := by simpa [Value.ownBlock] using h
theorem bel1 (V : World) (x : Obj) : Below V.heap.size V (V.drew.alloc x) := (Below.refl _ _).drew.alloc (Nat.le_refl _) _
theorem bel2 (V : World) (x y : Obj) : Below V.heap.size V ((V.drew.alloc x).alloc y) := (bel1 V x).alloc (bel1 V x).size _
theorem heap_old {W : World} {b : Nat} {o e : Obj} (h : W.heap[b]? = some e) : (W.alloc o).heap[b]? = some e := by
  have := (Array.getElem?_eq_some_iff.1 h).1
  show (W.heap.push o)[b]? = _
  rw [Array.getElem?_push, if_neg (by omega)]
  exact h
theorem heap_new1 (V : World) (x e : Obj) : ((V.drew.alloc x).alloc e).heap[V.heap.size + 1]? = some e := by
  have := heap_alloc_new (V.drew.alloc x) e
  simpa using this
theorem Own.form3 {w : World} {base t n c : Nat} {A : Option Addr} {l : List Nt} (h : Own w base t (.slice A n c) l) : (A = none → c = 0) ∧ ∀ ad, A = some ad → ∃ g, ad = ⟨g, 0, none⟩ ∧ base ≤ g := by
  rcases h.2 with ⟨hf, hn⟩ | ⟨g, cap, cur, hf, hg, hh, hnc, hm, hs, ht⟩
  · injection hf with e1 e2 e3
    subst e1 e3
    exact ⟨fun _ => rfl, fun ad h => (by cases h)⟩
  · injection hf with e1 e2 e3
    subst e1
    exact ⟨fun h => (by cases h), fun ad h => ⟨g, (by injection h with h; exact h.symm), hg⟩⟩

set_option maxRecDepth 100000 in
set_option maxHeartbeats 8000000 in
theorem inPart_any (A : Option Addr) (l : List Int) (c : Nat) (r : Int) (M : Option Addr) (m : List Nt) (d : Nat) (w : World) (hn : l.length ≤ 1048576) (hA : RI w A l) (hgood : Good m) (hrr : 0 ≤ r ∧ r ≤ 1000000) (hM : RA w M m) :
    Calls Tryd.prog 17 #[.agg #[.slice A l.length c, .int .i64 r], .slice M m.length d] w fun e w' => ∃ v, e = .returned v ∧ Own w' w.heap.size 44 v (partTo l r m m.length) ∧ Below w.heap.size w w' := by
  have h30 := hgood.2
  have hb0 : Below w.heap.size w (w.alloc (.cells #[.slice A l.length c, .int .i64 r] 31)) := (Below.refl w.heap.size w).alloc (Nat.le_refl _) _
  obtain ⟨b0, b1, hz⟩ := Box.new w A l.length c r 31
  have hA := hA.below hb0
  have hM := hM.below hb0
  go_enter Tryd.func17, Tryd.ntmps17
  go_wp2_with fail
  generalize w.alloc (.cells #[.slice A l.length c, .int .i64 r] 31) = W at *
  go_loopw [5, 12] (fun a i wr => ∃ (k : Nat), k ≤ m.length ∧ i = .int .i64 k ∧ Own wr W.heap.size 44 a (partTo l r m k) ∧ Below W.heap.size W wr)
    (fun _ i _ => m.length - (intOf i).toNat)
  case atStart => exact ⟨0, Nat.zero_le _, rfl, Own.nil _ _ _, Below.refl _ _⟩
  case round =>
    obtain ⟨k, hk, rfl, hown, hb⟩ := hrel
    by_cases hlt : k < m.length
    · have hx : m[k]? = some m[k] := List.getElem?_eq_getElem hlt
      generalize m[k] = x at hx
      have hs := partTo_succ (P := l) (r := r) hx
      have hpl := partTo_length l r m k
      have hpg := partTo_good (P := l) (r := r) hgood k
      have hv := (noteN_iff x).1 (hgood.1 k x hlt hx).1
      generalize hout : partTo l r m k = L at *
      have hln := last_note (p := x.1) hpg
      have hlx := lastIx_app x.1 L [x]
      have hlb := lastIx_lt x.1 L L.length
      have hIL := fun A c W hR => inLast_any A (L ++ [x]) c L.length x W (by simp; omega) hR (by simp)
      rw [hlx] at hIL
      unfold keepB at hs
      obtain ⟨p, s, n⟩ := x
      simp only at hs hv hln hlx hlb hIL
      obtain ⟨g, o, rfl, hgb, h0, h1, h2⟩ := (hM.below hb) k _ hx
      simp only at h0 h1 h2
      have i1 : (0 : Int) ≤ (k : Int) := by omega
      have i2 : (k : Int) < (m.length : Int) := by omega
      obtain ⟨O, oc, rfl, hO, hoc, hocm⟩ := hown.form'
      unfold maxLen at hocm
      have HO0 := Lib.hid hown.form3.1
      have HS := Lib.hid hs
      have HIL := Lib.hid hIL
      have HLX := Lib.hid hlx
      have HOUT := Lib.hid hout
      have hzr : w.heap.size < wr.heap.size := Nat.lt_of_lt_of_le hz hb.size
      have hnb : Below wr.heap.size wr (wr.alloc (.cells #[.int .i64 p, .int .i64 s, .int .i64 n] 44)) := (Below.refl _ _).alloc (Nat.le_refl _) _
      have x0 : (wr.alloc (.cells #[.int .i64 p, .int .i64 s, .int .i64 n] 44)).cell? ⟨wr.heap.size, 0, none⟩ = some (.int .i64 p) := by rw [World.cell?_alloc_new]; rfl
      have x1 : (wr.alloc (.cells #[.int .i64 p, .int .i64 s, .int .i64 n] 44)).cell? ⟨wr.heap.size, 1, none⟩ = some (.int .i64 s) := by rw [World.cell?_alloc_new]; rfl
      have x2 : (wr.alloc (.cells #[.int .i64 p, .int .i64 s, .int .i64 n] 44)).cell? ⟨wr.heap.size, 2, none⟩ = some (.int .i64 n) := by rw [World.cell?_alloc_new]; rfl
      have hzV : wr.heap.size < (wr.alloc (.cells #[.int .i64 p, .int .i64 s, .int .i64 n] 44)).heap.size := by simp
      have hbV := hb.trans (hnb.mono hb.size)
      have hOV := Lib.hid (hown.below hnb (Nat.le_refl _))
      have hRV := Lib.hid (hO.below hnb)
      clear hs hx hown hpg hIL hlx hO hout
      go_upto_region 5 with fail
      generalize wr.alloc (.cells #[.int .i64 p, .int .i64 s, .int .i64 n] 44) = V at *
      clear h0 h1 h2
      have hVs := hbV.size
      obtain ⟨xb, hxb⟩ : ∃ xb, xb = wr.heap.size := ⟨_, rfl⟩
      rw [← hxb] at x0 x1 x2 hzV ⊢
      have HXB := Lib.hid hxb
      clear hxb
      have hne : xb ≠ V.heap.size := by omega
      go_cut [8] (fun b wx => Own wx V.heap.size 44 b (L ++ [(p, s, n)]) ∧ Below V.heap.size V wx)
      case first =>
        go_region_held3 (fun w' => w'.cell? ⟨xb, 0, none⟩ = some (.int .i64 p) ∧ w'.cell? ⟨xb, 1, none⟩ = some (.int .i64 s) ∧ w'.cell? ⟨xb, 2, none⟩ = some (.int .i64 n))
          (first | go_keep | assumption)
          (first
            | ((refine step_appN rfl (.tmp 16) (.tmp 17) rfl V.heap.size _ [] rfl (Own.empty (by first | exact heap_alloc_new _ _ | exact heap_old (heap_alloc_new _ _) | exact heap_new1 _ _ _) (by first | exact Nat.le_refl _ | (simp; done))) O L.length oc L rfl rfl HO0.out (by first | exact hRV.out.alloc _ | exact (hRV.out.alloc _).alloc _) (by simp; try omega) (by simp; try omega) ?_); intro v1 w1 ho1 hg1; go_loud (have hB1 := Lib.hid (show Below V.heap.size V w1 from Below.grown (by first | exact bel1 _ _ | exact bel2 _ _ _) hg1 (by first | exact (bel1 _ _).size | exact (bel2 _ _ _).size) (fun k hk => by first | exact Nat.le_of_eq (own_row hk) | exact Nat.le_trans (Nat.le_succ _) (Nat.le_of_eq (own_row hk))))); have s1 : w1.cell? ⟨xb, 0, none⟩ = some (.int .i64 p) ∧ w1.cell? ⟨xb, 1, none⟩ = some (.int .i64 s) ∧ w1.cell? ⟨xb, 2, none⟩ = some (.int .i64 n) := ⟨(hB1.out.cell (p := ⟨xb, 0, none⟩) hzV).trans x0, (hB1.out.cell (p := ⟨xb, 1, none⟩) hzV).trans x1, (hB1.out.cell (p := ⟨xb, 2, none⟩) hzV).trans x2⟩; have HO1 := Lib.hid ho1; have HG1 := Lib.hid (show World.grownBy _ w1 (some _) from hg1); clear ho1 hg1)
            | (go_loud (refine step_appN rfl (.tmp 18) (.tmp 20) rfl V.heap.size _ _ rfl (by first | exact HO1.out | exact HO1.out.alloc _) _ 1 1 [(p, s, n)] rfl rfl (fun h => by cases h) (RA.one (by first | exact heap_alloc_new _ _ | exact (HG1.out.block _ (by first | (simp; done) | (simp; omega)) (by first | (simp; done) | (simp; omega))).trans (by first | exact heap_alloc_new _ _ | exact heap_old (heap_alloc_new _ _) | exact heap_new1 _ _ _))) (by simp; try omega) (by first | exact hB1.out.size | exact (hB1.out.alloc hB1.out.size _).size) ?_); intro v2 w2 ho2 hg2; have hB2 := Lib.hid (show Below V.heap.size V w2 from Below.grown (by first | exact hB1.out | exact hB1.out.alloc hB1.out.size _) hg2 (by first | exact hB1.out.size | exact (hB1.out.alloc hB1.out.size _).size) (fun k hk => (HO1.out.lt k hk).1)); have s2 : w2.cell? ⟨xb, 0, none⟩ = some (.int .i64 p) ∧ w2.cell? ⟨xb, 1, none⟩ = some (.int .i64 s) ∧ w2.cell? ⟨xb, 2, none⟩ = some (.int .i64 n) := ⟨(hB2.out.cell (p := ⟨xb, 0, none⟩) hzV).trans x0, (hB2.out.cell (p := ⟨xb, 1, none⟩) hzV).trans x1, (hB2.out.cell (p := ⟨xb, 2, none⟩) hzV).trans x2⟩; have HO2 := Lib.hid ho2; clear ho2 hg2))
        all_goals
          go_wp2_with fail
          go_meet
          case rel => exact ⟨by simpa using HO2.out, hB2.out⟩
      case rest =>
      obtain ⟨hnx, hbc⟩ := hcut
      obtain ⟨w3, rfl⟩ : ∃ x, x = wc := ⟨wc, rfl⟩
      obtain ⟨N, nc, rfl, hN, hnc, hncm⟩ := hnx.form'
      rw [show (L ++ [((p, s, n) : Nt)]).length = L.length + 1 by simp] at hnx hnc ⊢
      have HNX := Lib.hid hnx
      have HILN := Lib.hid (HIL.out N nc w3 hN)
      rw [show (L ++ [((p, s, n) : Nt)]).length = L.length + 1 by simp] at HILN
      have hbV3 := hbV.trans (hbc.mono hbV.size)
      have HO3 := Lib.hid (hOV.out.below hbc (Nat.le_refl _))
      clear hnx
      generalize hqq : lastIx p L L.length = q at *
      go_wp2_with fail
      refine HILN.out.mono ?_
      rintro e w4 ⟨rfl, hb4⟩
      have hBw4 := hbV3.trans (hb4.mono hbV3.size)
      have hBc4 := hbc.trans (hb4.mono hbc.size)
      have HO4 := Lib.hid (HO3.out.below hb4 (Nat.le_refl _))
      have HN4 := Lib.hid (HNX.out.below hb4 (Nat.le_refl _))
      have hN4 := hN.below hb4
      have hA4 := hA.below hBw4
      have b0r := cell_regrown ((hBw4.cell (p := ⟨w.heap.size, 0, none⟩) hz).trans b0)
      have b1r := cell_regrown ((hBw4.cell (p := ⟨w.heap.size, 1, none⟩) hz).trans b1)
      have x0r := cell_regrown ((hBc4.cell (p := ⟨xb, 0, none⟩) hzV).trans x0)
      have x1r := cell_regrown ((hBc4.cell (p := ⟨xb, 1, none⟩) hzV).trans x1)
      have x2r := cell_regrown ((hBc4.cell (p := ⟨xb, 2, none⟩) hzV).trans x2)
      have cT : ∀ D os, Calls Tryd.prog 29 #[.agg #[.slice A l.length c, .int .i64 r], .int .i64 p] (grow (redrawn w4 D) os) fun e w'' => e = .returned (.int .i64 (trk p l)) ∧ ∃ q : Regrown, w'' = grow (redrawn w4 q.d) q.os :=
        fun D os => Calls.regrown_of (inTrack_any A l c r p _ hn (hA4.below (below_regrown w4 D os)))
      have hht := hasB_trk l p
      generalize trk p l = T at *
      clear b0 b1 x0 x1 x2 hb4 hbc hN HNX HO3 HILN HIL
      have HHT := Lib.hid hht
      by_cases hT : 0 ≤ T
      · have hdT : decide (0 ≤ T) = true := by simp [hT]
        rw [hht, hdT, Bool.true_and] at HS
        by_cases hq : q < 0
        · have hdq : decide (q < 0) = true := by simp [hq]
          rw [hdq, Bool.true_or, if_pos rfl] at HS
          have HE := HS
          clear hht hln
          go_wp2_with fail
          refine wp_region_quiet_below (by kernel_rfl) (by kernel_rfl) ?_
          repeat (go_big_quiet_step (exact (cT _ _)))
          refine wpQuiet_nil ?_
          intro _ hw'
          obtain ⟨qr, hw''⟩ := hw'
          subst hw''
          have hbq := below_regrown w4 qr.d qr.os
          have HBQ := Lib.hid (hBw4.trans (hbq.mono hBw4.size))
          have HOQ := Lib.hid (HN4.out.below hbq (Nat.le_refl _))
          clear cT b0r b1r x0r x1r x2r
          go_wp2
          go_roundw
          case rel => exact ⟨k + 1, by omega, by go_num, by rw [HE.out]; exact HOQ.out.mono hVs, HBQ.out⟩
          case measure => simp [intOf]; omega
        · have hdq : decide (q < 0) = false := by simp [hq]
          obtain ⟨y, hy, hyd, hy0, hy1⟩ := hln (by omega)
          rw [hdq, Bool.false_or, hyd] at HS
          obtain ⟨py, sy, ny⟩ := y
          simp only at hy0 hy1 HS
          have hyN : (L ++ [((p, s, n) : Nt)])[q.toNat]? = some (py, sy, ny) := by rw [List.getElem?_append_left (by omega)]; exact hy
          obtain ⟨g2, o2, rfl, hg2, y0, y1, y2⟩ := hN4 q.toNat _ hyN
          simp only at y0 y1 y2
          have y1r := cell_regrown y1
          have j1 : (0 : Int) ≤ q := by omega
          have j2 : q < ((L.length + 1 : Nat) : Int) := by omega
          have j3 : q < (L.length : Int) + 1 := by omega
          have hwst : IntKind.i64.wrap (s - sy) = s - sy := IntWalk.i64_in _ (by omega)
          clear hht hln hy hyd hyN y0 y2 hN4
          by_cases hlt2 : r ≤ s - sy
          · have hd2 : decide (r ≤ s - sy) = true := by simp [hlt2]
            rw [hd2, if_pos rfl] at HS
            have HE := HS
            go_wp2_with fail
            refine wp_region_quiet_below (by kernel_rfl) (by kernel_rfl) ?_
            repeat (go_big_quiet_step (exact (cT _ _)))
            refine wpQuiet_nil ?_
            intro _ hw'
            obtain ⟨qr, hw''⟩ := hw'
            subst hw''
            have hbq := below_regrown w4 qr.d qr.os
            have HBQ := Lib.hid (hBw4.trans (hbq.mono hBw4.size))
            have HOQ := Lib.hid (HN4.out.below hbq (Nat.le_refl _))
            clear cT b0r b1r x0r x1r x2r y1r
            go_wp2
            go_roundw
            case rel => exact ⟨k + 1, by omega, by go_num, by rw [HE.out]; exact HOQ.out.mono hVs, HBQ.out⟩
            case measure => simp [intOf]; omega
          · have hd2 : decide (r ≤ s - sy) = false := by simp [hlt2]
            rw [hd2, if_neg (by simp)] at HS
            have HE := HS
            go_wp2_with fail
            refine wp_region_quiet_below (by kernel_rfl) (by kernel_rfl) ?_
            repeat (go_big_quiet_step (exact (cT _ _)))
            refine wpQuiet_nil ?_
            intro _ hw'
            obtain ⟨qr, hw''⟩ := hw'
            subst hw''
            have hbq := below_regrown w4 qr.d qr.os
            have HBQ := Lib.hid (hBw4.trans (hbq.mono hBw4.size))
            have HOQ := Lib.hid (HO4.out.below hbq (Nat.le_refl _))
            clear cT b0r b1r x0r x1r x2r y1r
            go_wp2
            go_roundw
            case rel => exact ⟨k + 1, by omega, by go_num, by rw [HE.out]; exact HOQ.out, HBQ.out⟩
            case measure => simp [intOf]; omega
      · have hdT : decide (0 ≤ T) = false := by simp [hT]
        rw [hht, hdT, Bool.false_and, if_neg (by simp)] at HS
        have HE := HS
        clear hht hln
        go_wp2_with fail
        refine wp_region_quiet_below (by kernel_rfl) (by kernel_rfl) ?_
        repeat (go_big_quiet_step (exact (cT _ _)))
        refine wpQuiet_nil ?_
        intro _ hw'
        obtain ⟨qr, hw''⟩ := hw'
        subst hw''
        have hbq := below_regrown w4 qr.d qr.os
        have HBQ := Lib.hid (hBw4.trans (hbq.mono hBw4.size))
        have HOQ := Lib.hid (HO4.out.below hbq (Nat.le_refl _))
        clear cT b0r b1r x0r x1r x2r
        go_wp2
        go_roundw
        case rel => exact ⟨k + 1, by omega, by go_num, by rw [HE.out]; exact HOQ.out, HBQ.out⟩
        case measure => simp [intOf]; omega
    · obtain rfl : k = m.length := by omega
      go_wp2
      go_ret
      exact ⟨_, rfl, hown.mono hb0.size, hb0.trans (hb.mono hb0.size)⟩

set_option maxRecDepth 100000 in
set_option maxHeartbeats 2000000 in
theorem specPart_any (A : Option Addr) (l : List Int) (c : Nat) (r : Int) (M : Option Addr) (m : List Nt) (d : Nat) (w : World) (hn : l.length ≤ 1048576) (hA : RI w A l) (hm : m.length ≤ 1048576) (hd : m.length ≤ d) (hd' : d ≤ 9223372036854775807) (hM : RA w M m) :
    Calls Tryd.prog 6 #[.agg #[.slice A l.length c, .int .i64 r], .slice M m.length d] w fun e w' => RetNt w (partTo l r m m.length) (gdI l r && goodB m) e w' := by
  have hb0 : Below w.heap.size w (w.alloc (.cells #[.slice A l.length c, .int .i64 r] 31)) := (Below.refl w.heap.size w).alloc (Nat.le_refl _) _
  obtain ⟨b0, b1, hz⟩ := Box.new w A l.length c r 31
  have hA := hA.below hb0
  have hM := hM.below hb0
  cases hok : (gdI l r && goodB m) with
  | false =>
    go_enter Tryd.func6, Tryd.ntmps6
    go_wp2_with fail
    generalize w.alloc (.cells #[.slice A l.length c, .int .i64 r] 31) = W at *
    refine (inAsked_any _ _ _ _ _ _ _ _ hn hA hm hd hd' hM).mono ?_
    rintro e w1 ⟨rfl, hb1⟩
    go_wp2
    go_ret2
    exact ⟨_, rfl, by simpa using Own.nil w1 w.heap.size 44, hb0.trans (hb1.mono hb0.size)⟩
  | true =>
    obtain ⟨hg, hgb⟩ := Bool.and_eq_true_iff.1 hok
    have hgood := (goodB_iff m).1 hgb
    have hrr : 0 ≤ r ∧ r ≤ 1000000 := by have := (gdI_iff l r).1 hg; omega
    go_enter Tryd.func6, Tryd.ntmps6
    go_wp2_with fail
    generalize w.alloc (.cells #[.slice A l.length c, .int .i64 r] 31) = W at *
    refine (inAsked_any _ _ _ _ _ _ _ _ hn hA hm hd hd' hM).mono ?_
    rintro e w1 ⟨rfl, hb1⟩
    have b0 := (hb1.cell (p := ⟨w.heap.size, 0, none⟩) hz).trans b0
    have b1 := (hb1.cell (p := ⟨w.heap.size, 1, none⟩) hz).trans b1
    have hB1 := hb0.trans (hb1.mono hb0.size)
    go_wp2_with fail
    refine (inPart_any _ _ _ _ _ _ _ _ hn (hA.below hb1) hgood hrr (hM.below hb1)).mono ?_
    rintro e w2 ⟨v, rfl, ho, hb2⟩
    go_wp2
    go_ret2
    exact ⟨_, rfl, by simpa using ho.mono hB1.size, hB1.trans (hb2.mono hB1.size)⟩

end Go.Proofs.YtecbeicppfcofabDoor
