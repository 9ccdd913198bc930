/- The contract of the program's IsScore. -/
import Derived.Test.YtbdffmacpajebaaDoorGood
import Derived.Test.YtbdffmacpajebaaDoorSlc
import Derived.Test.YtbdffmacpajebaaDoorCmp
import Derived.Lib.QuietBelow
import Derived.Deep.OwnRows
import Derived.Deep.RegionHeld3
namespace Go.Proofs.YtbdffmacpajebaaDoor
open Go.RowKit Go.Sort
set_option linter.unusedVariables false

def zero97 : Array Value := Array.mk (List.replicate 97 (.int .i64 0))
theorem zero97_size : zero97.size = 97 := by kernel_rfl
theorem zero97_ne : zero97 ≠ #[] := fun h => by have := congrArg Array.size h; rw [zero97_size] at this; simp at this
theorem zeroV97 (w : World) : (zeroValue 77).run Tryd.prog w = .ok (.agg zero97) w := by kernel_rfl
theorem zeros97 : zero97.toList = List.replicate 97 (.int .i64 0) := rfl
/-- The array of ends: for each pitch the end of its last note among the first k ones. -/
def Ends (w : World) (g : Nat) (l : List Nt) (k : Nat) : Prop := w.rowIs g 77 97 (fun j => .int .i64 (endsF (j : Int) (l.take k) 0))
theorem Ends.zero (w : World) (l : List Nt) : Ends (w.alloc (.cells zero97 77)) w.heap.size l 0 := by
  have hs : zero97.size = 97 := by rw [← Array.length_toList, zeros97]; rfl
  have h := World.rowIs_alloc w zero97 77 (fun j => .int .i64 (endsF (j : Int) (l.take 0) 0)) (fun i hi => by
    rw [← Array.getElem?_toList, zeros97, List.getElem?_replicate, if_pos (by omega)]; rfl)
  rw [hs] at h
  exact h
theorem Ends.below {w w' : World} {g : Nat} {l : List Nt} {k : Nat} (h : Ends w g l k) (hb : Below w.heap.size w w') : Ends w' g l k := World.rowIs.of_block h (hb.block g h.lt)
theorem Ends.step {w : World} {g : Nat} {l : List Nt} {k : Nat} {p s n : Int} (h : Ends w g l k) (hx : l[k]? = some (p, s, n)) (hp : 0 ≤ p) : Ends (w.setCell ⟨g, p.toNat, none⟩ (.int .i64 (s + n))) g l (k + 1) := by
  refine (World.rowIs.set h p.toNat (.int .i64 (s + n))).congr fun i hi => ?_
  rw [endsF_take _ _ _ _ hx]
  by_cases hip : i = p.toNat
  · subst hip
    rw [if_pos rfl, if_pos (by simp only; omega)]
  · rw [if_neg hip, if_neg (by simp only; omega)]

set_option maxRecDepth 100000 in
set_option maxHeartbeats 2000000 in
theorem isScore_any (A : Option Addr) (l : List Nt) (c : Nat) (w : World) (hn : l.length ≤ 1048576) (hA : RA w A l) :
    Calls Tryd.prog 46 #[.slice A l.length c] w fun e w' => e = .returned (.bool (goodB l)) ∧ Below w.heap.size w w' := by
  by_cases h30 : l.length ≤ 30
  · go_enter Tryd.func46, Tryd.ntmps46
    have hq : ¬ (30 < (l.length : Int)) := by omega
    have hzv := zeroV97
    have hzn := zero97_ne
    go_wp2_with fail
    clear hzv hzn
    have hE0 := Ends.zero w l
    have hb0 : Below w.heap.size w (w.alloc (.cells zero97 77)) := (Below.refl _ _).alloc (Nat.le_refl _) _
    generalize w.alloc (.cells zero97 77) = W0 at *
    go_loopw [11] (fun i wr => ∃ k : Nat, k ≤ l.length ∧ i = .int .i64 k ∧ GoodTo l k ∧ Ends wr w.heap.size l k ∧ Below w.heap.size w wr)
      (fun i _ => l.length - (intOf i).toNat)
    case atStart => exact ⟨0, Nat.zero_le _, rfl, GoodTo.zero l, hE0, hb0⟩
    case round =>
      obtain ⟨k, hk, rfl, hgood, hE, hb⟩ := hrel
      have HG := Lib.hid hgood
      clear hgood
      by_cases hlt : k < l.length
      · have hx : l[k]? = some l[k] := List.getElem?_eq_getElem hlt
        generalize l[k] = x at hx
        obtain ⟨p, s, n⟩ := x
        obtain ⟨g, o, rfl, hg, h0, h1, h2⟩ := (hA.below hb) k _ hx
        simp only at h0 h1 h2
        have HX := Lib.hid hx
        have i1 : (0 : Int) ≤ (k : Int) := by omega
        have i2 : (k : Int) < (l.length : Int) := by omega
        clear hx
        go_wp2_with fail
        have hRA : RA (wr.alloc (.cells #[.int .i64 p, .int .i64 s, .int .i64 n] 58)) (some ⟨g, o, none⟩) l := (hA.below hb).alloc _
        have hxc : ∀ j, (wr.alloc (.cells #[.int .i64 p, .int .i64 s, .int .i64 n] 58)).cell? ⟨wr.heap.size, j, none⟩ = #[Value.int .i64 p, .int .i64 s, .int .i64 n][j]? := fun j => World.cell?_alloc_new wr _ _ j
        have hbW : Below w.heap.size w (wr.alloc (.cells #[.int .i64 p, .int .i64 s, .int .i64 n] 58)) := hb.alloc hb.size _
        have hzW : wr.heap.size < (wr.alloc (.cells #[.int .i64 p, .int .i64 s, .int .i64 n] 58)).heap.size := by simp
        have hEW : Ends (wr.alloc (.cells #[.int .i64 p, .int .i64 s, .int .i64 n] 58)) w.heap.size l k := World.rowIs.alloc hE _
        generalize wr.alloc (.cells #[.int .i64 p, .int .i64 s, .int .i64 n] 58) = W at *
        have hEx : w.heap.size < wr.heap.size := World.rowIs.lt hE
        generalize wr.heap.size = xb at *
        have x0 := cell_regrown ((hxc 0).trans rfl)
        have x1 := cell_regrown ((hxc 1).trans rfl)
        have x2 := cell_regrown ((hxc 2).trans rfl)
        have cN : ∀ d os, Calls Tryd.prog 65 #[.agg #[.int .i64 p, .int .i64 s, .int .i64 n]] (grow (redrawn W d) os) fun e w'' => e = .returned (.bool (noteB p s n)) ∧ ∃ q : Regrown, w'' = grow (redrawn W q.d) q.os :=
          fun d os => Calls.regrown_of (implIsNote_any p s n _)
        clear h0 h1 h2
        cases hv : noteB p s n with
        | false =>
          refine wp_region_quiet_below (by kernel_rfl) (by kernel_rfl) ?_
          repeat (go_big_quiet_step (exact (cN _ _)))
          refine wpQuiet_nil ?_
          intro _ hw'
          obtain ⟨q, hw''⟩ := hw'
          subst hw''
          go_wp2
          go_ret
          refine ⟨ret_bool (goodB_false (Good.not_of HX.out fun h => ?_)).symm, hbW.trans ((below_regrown W q.d q.os).mono hbW.size)⟩
          have := h.1
          simp [noteN, hv] at this
        | true =>
          have hv' := (noteN_iff (p, s, n)).1 hv
          simp only at hv'
          have hp1 : (0 : Int) ≤ p := by omega
          have hp2 : p < 97 := by omega
          have e0 := hEW.cell (i := p.toNat) (by omega)
          have hpp : ((p.toNat : Nat) : Int) = p := by omega
          rw [hpp] at e0
          have e0 := cell_regrown e0
          by_cases hse : s < endsF p (l.take k) 0
          · generalize hEE : endsF p (l.take k) 0 = E at *
            have HEE := Lib.hid hEE
            have HPP := Lib.hid hpp
            clear hEE hpp
            refine wp_region_quiet_below (by kernel_rfl) (by kernel_rfl) ?_
            repeat (go_big_quiet_step (exact (cN _ _)))
            refine wpQuiet_nil ?_
            intro _ hw'
            obtain ⟨q, hw''⟩ := hw'
            subst hw''
            go_wp2
            go_ret
            refine ⟨ret_bool (goodB_false (Good.not_of HX.out fun h => ?_)).symm, hbW.trans ((below_regrown W q.d q.os).mono hbW.size)⟩
            have := (okAt_iff HG.out (by omega) h.1 h.2.1).1 h
            rw [HEE.out] at this
            exact this hse
          · have HSE := Lib.hid hse
            generalize hEE : endsF p (l.take k) 0 = E at *
            have HEE := Lib.hid hEE
            have HPP := Lib.hid hpp
            clear hEE hpp
            refine wp_region_quiet_below (by kernel_rfl) (by kernel_rfl) ?_
            repeat (go_big_quiet_step (exact (cN _ _)))
            refine wpQuiet_nil ?_
            intro _ hw'
            obtain ⟨q, hw''⟩ := hw'
            subst hw''
            go_wp2_with fail
            have hbU := hbW.trans ((below_regrown W q.d q.os).mono hbW.size)
            have hxU := fun j => ((below_regrown W q.d q.os).cell (p := ⟨xb, j, none⟩) hzW).trans (hxc j)
            have hRU := hRA.below (below_regrown W q.d q.os)
            have heU := hEW.below (below_regrown W q.d q.os)
            have hzU : xb < (grow (redrawn W q.d) q.os).heap.size := Nat.lt_of_lt_of_le hzW (below_regrown W q.d q.os).size
            generalize grow (redrawn W q.d) q.os = U at *
            have hxU0 := cell_regrown ((hxU 0).trans rfl)
            have hxU1 := cell_regrown ((hxU 1).trans rfl)
            have hxU2 := cell_regrown ((hxU 2).trans rfl)
            clear x0 x1 x2 cN e0
            rcases Nat.eq_zero_or_pos k with hk0 | hk0
            · have hd : decide (0 < k) = false := by simp [hk0]
              have HBEF := Lib.hid (show ∀ y, 0 < k → l[k - 1]? = some y → befN y (p, s, n) = true from fun y h => absurd h (by omega))
              clear hk0
              refine wp_region_quiet_below (by kernel_rfl) (by kernel_rfl) ?_
              repeat (go_big_quiet_step (fail))
              refine wpQuiet_nil ?_
              intro _ hw'
              obtain ⟨q2, hw''⟩ := hw'
              subst hw''
              go_wp2_with fail
              have hbV := hbU.trans ((below_regrown U q2.d q2.os).mono hbU.size)
              have hxV := fun j => ((below_regrown U q2.d q2.os).cell (p := ⟨xb, j, none⟩) hzU).trans (hxU j)
              have heV := heU.below (below_regrown U q2.d q2.os)
              have hzV : xb < (grow (redrawn U q2.d) q2.os).heap.size := Nat.lt_of_lt_of_le hzU (below_regrown U q2.d q2.os).size
              generalize grow (redrawn U q2.d) q2.os = V at *
              have ux0 := (hxV 0).trans rfl
              have ux1 := (hxV 1).trans rfl
              have ux2 := (hxV 2).trans rfl
              simp only [List.getElem?_toArray] at ux0 ux1 ux2
              have ue := heV.cell (i := p.toNat) (by omega)
              have uf := heV.frozen p.toNat
              have hzE : w.heap.size < V.heap.size := heV.lt
              clear hxU hxV hxc hRA hRU hxU0 hxU1 hxU2
              have hne1 : ¬ (xb = w.heap.size) := by omega
              have hne2 : ¬ (w.heap.size = xb) := by omega
              go_region_held3 (fun w' => w'.cell? ⟨xb, 0, none⟩ = some (.int .i64 p) ∧ w'.cell? ⟨xb, 1, none⟩ = some (.int .i64 s) ∧ w'.cell? ⟨xb, 2, none⟩ = some (.int .i64 n))
                (first | go_keep | (go_split_ands; refine ⟨?_, ?_, ?_⟩ <;> (refine ((bcell hb1).1 _ _ ?_).trans ?_) <;> first | assumption | simpa using hzV))
                (first | (go_at_call 67; refine (endOfNote_any _ _ _ _ (by omega) (by omega) (by omega) (by omega)).mono ?_; rintro e w1 ⟨rfl, hb1⟩; have ue1 := ((bcell hb1).1 _ p.toNat (by simpa using hzE)).trans ue; have uf1 := ((bcell hb1).2 _ p.toNat (by simpa using hzE)).trans uf))
              go_wp2
              go_roundw
              case rel =>
                have hok : okAt l k (p, s, n) := (okAt_iff (x := (p, s, n)) HG.out (by omega) (show noteN (p, s, n) = true from hv) HBEF.out).2 (by rw [HEE.out]; have := HSE.out; simp only; omega)
                have he1 : Ends w1 w.heap.size l k := Ends.below (w := V.drew) heV hb1
                exact ⟨k + 1, by omega, by go_num, HG.out.succ HX.out hok, he1.step HX.out hp1, ((hbV.drew).trans (hb1.mono hbV.size)).setCell (Nat.le_refl _) _⟩
              case measure => simp [intOf]; omega
            · have hd : (0 : Int) < (k : Int) := by omega
              have hy : l[k - 1]? = some l[k - 1] := List.getElem?_eq_getElem (by omega)
              generalize l[k - 1] = y at hy
              obtain ⟨p', s', n'⟩ := y
              obtain ⟨g2, o2, hgo, hg2, y0, y1, y2⟩ := hRU (k - 1) _ hy
              simp only [Option.some.injEq, Addr.mk.injEq, and_true] at hgo
              obtain ⟨rfl, rfl⟩ := hgo
              simp only at y0 y1 y2
              have y0 := cell_regrown y0
              have y1 := cell_regrown y1
              have y2 := cell_regrown y2
              have HY := Lib.hid hy
              have i3 : (0 : Int) ≤ (k : Int) - 1 := by omega
              have i4 : (k : Int) - 1 < (l.length : Int) := by omega
              have cB : ∀ d os, Calls Tryd.prog 66 #[.agg #[.int .i64 p', .int .i64 s', .int .i64 n'], .agg #[.int .i64 p, .int .i64 s, .int .i64 n]] (grow (redrawn U d) os) fun e w'' => e = .returned (.int .i64 (cmpN p' s' p s)) ∧ ∃ q : Regrown, w'' = grow (redrawn U q.d) q.os :=
                fun d os => Calls.regrown_of (compareNotes_any p' s' n' p s n _)
              have hcb := cmpN_bef (p', s', n') (p, s, n)
              simp only at hcb
              clear hy
              generalize cmpN p' s' p s = cz at *
              have HCB := Lib.hid hcb
              clear hcb
              by_cases hcz : cz < 0
              · have HBEF := Lib.hid (show ∀ y, 0 < k → l[k - 1]? = some y → befN y (p, s, n) = true from fun y _ hy => by have e := HY.out.symm.trans hy; injection e with e; subst e; exact HCB.out.1 hcz)
                refine wp_region_quiet_below (by kernel_rfl) (by kernel_rfl) ?_
                repeat (go_big_quiet_step (exact (cB _ _)))
                refine wpQuiet_nil ?_
                intro _ hw'
                obtain ⟨q2, hw''⟩ := hw'
                subst hw''
                go_wp2_with fail
                have hbV := hbU.trans ((below_regrown U q2.d q2.os).mono hbU.size)
                have hxV := fun j => ((below_regrown U q2.d q2.os).cell (p := ⟨xb, j, none⟩) hzU).trans (hxU j)
                have heV := heU.below (below_regrown U q2.d q2.os)
                have hzV : xb < (grow (redrawn U q2.d) q2.os).heap.size := Nat.lt_of_lt_of_le hzU (below_regrown U q2.d q2.os).size
                generalize grow (redrawn U q2.d) q2.os = V at *
                have ux0 := (hxV 0).trans rfl
                have ux1 := (hxV 1).trans rfl
                have ux2 := (hxV 2).trans rfl
                simp only [List.getElem?_toArray] at ux0 ux1 ux2
                have ue := heV.cell (i := p.toNat) (by omega)
                have uf := heV.frozen p.toNat
                have hzE : w.heap.size < V.heap.size := heV.lt
                clear hxU hxV hxc hRA hRU hxU0 hxU1 hxU2
                have hne1 : ¬ (xb = w.heap.size) := by omega
                have hne2 : ¬ (w.heap.size = xb) := by omega
                go_region_held3 (fun w' => w'.cell? ⟨xb, 0, none⟩ = some (.int .i64 p) ∧ w'.cell? ⟨xb, 1, none⟩ = some (.int .i64 s) ∧ w'.cell? ⟨xb, 2, none⟩ = some (.int .i64 n))
                  (first | go_keep | (go_split_ands; refine ⟨?_, ?_, ?_⟩ <;> (refine ((bcell hb1).1 _ _ ?_).trans ?_) <;> first | assumption | simpa using hzV))
                  (first | (go_at_call 67; refine (endOfNote_any _ _ _ _ (by omega) (by omega) (by omega) (by omega)).mono ?_; rintro e w1 ⟨rfl, hb1⟩; have ue1 := ((bcell hb1).1 _ p.toNat (by simpa using hzE)).trans ue; have uf1 := ((bcell hb1).2 _ p.toNat (by simpa using hzE)).trans uf))
                go_wp2
                go_roundw
                case rel =>
                  have hok : okAt l k (p, s, n) := (okAt_iff (x := (p, s, n)) HG.out (by omega) (show noteN (p, s, n) = true from hv) HBEF.out).2 (by rw [HEE.out]; have := HSE.out; simp only; omega)
                  have he1 : Ends w1 w.heap.size l k := Ends.below (w := V.drew) heV hb1
                  exact ⟨k + 1, by omega, by go_num, HG.out.succ HX.out hok, he1.step HX.out hp1, ((hbV.drew).trans (hb1.mono hbV.size)).setCell (Nat.le_refl _) _⟩
                case measure => simp [intOf]; omega
              · have hcz : 0 ≤ cz := by omega
                refine wp_region_quiet_below (by kernel_rfl) (by kernel_rfl) ?_
                repeat (go_big_quiet_step (exact (cB _ _)))
                refine wpQuiet_nil ?_
                intro _ hw'
                obtain ⟨q2, hw''⟩ := hw'
                subst hw''
                go_wp2
                go_ret
                refine ⟨ret_bool (goodB_false (Good.not_of HX.out fun h => ?_)).symm, hbU.trans ((below_regrown U q2.d q2.os).mono hbU.size)⟩
                have := HCB.out.2 (h.2.1 _ hk0 HY.out)
                omega
      · obtain rfl : k = l.length := by omega
        go_wp2
        go_ret
        exact ⟨ret_bool ((goodB_iff l).2 ⟨HG.out, h30⟩).symm, hb⟩
  · go_enter Tryd.func46, Tryd.ntmps46
    have hq : 30 < (l.length : Int) := by omega
    go_wp2
    go_ret
    exact ⟨ret_bool (goodB_false fun h => h30 h.2).symm, Below.refl _ _⟩
end Go.Proofs.YtbdffmacpajebaaDoor
