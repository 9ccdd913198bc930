/- The program's PlayablePart. -/
import Derived.Test.YtecbeicppfcofabDoorPartP
import Derived.Test.YtecbeicppfcofabDoorAppN
import Derived.Test.YtecbeicppfcofabDoorMapK
import Derived.Test.YtecbeicppfcofabDoorInsF
import Derived.Test.YtecbeicppfcofabDoorIsScore
import Derived.LoopTactic
import Derived.Deep.Onto
import Derived.Deep.DeepCutAuto
namespace Go.Proofs.YtecbeicppfcofabDoor
open Go.RowKit Go.Sort Go.Maps
set_option linter.unusedVariables false
set_option linter.unusedSimpArgs false

theorem Own.mono {w : World} {base base' t : Nat} {v : Value} {l : List Nt} (h : Own w base t v l) (hb : base' ≤ base) : Own w base' t v l :=
  ⟨h.1, h.2.imp id fun ⟨g, cap, cur, a, b, c⟩ => ⟨g, cap, cur, a, Nat.le_trans hb b, c⟩⟩
/-- A call returned notes of its own, or nil and false; below the heap's old size nothing has turned. -/
def RetNt (B : World) (l : List Nt) (ok : Bool) (e : Ending) (w' : World) : Prop :=
  ∃ v, e = .returned (.tuple #[v, .bool ok]) ∧ Own w' B.heap.size 44 v (if ok = true then l else []) ∧ Below B.heap.size B w'

/-- What the program's map says of the notes that are kept. -/
def PSeen (D : DataW Unit) (out : List Nt) : Prop := IsMap D ∧ ∀ p : Int, Maps.has D (.int .i64 p) = decide (0 ≤ lastIx p out out.length) ∧ (0 ≤ lastIx p out out.length → D.atKey (.int .i64 p) (.lit (.int .i64 0)) = .lit (.int .i64 (out.getD (lastIx p out out.length).toNat (0, 0, 0)).2.1))
theorem PSeen.zero : PSeen (.map []) [] := ⟨⟨[], rfl⟩, fun p => ⟨rfl, fun h => by simp [lastIx] at h⟩⟩
theorem PSeen.step {D : DataW Unit} {out : List Nt} {x : Nt} (h : PSeen D out) : PSeen (D.put (.int .i64 x.1) (.lit (.int .i64 x.2.1))) (out ++ [x]) := by
  refine ⟨h.1.put _ _, fun p => ?_⟩
  have hx : (out ++ [x])[out.length]? = some x := by simp
  have hl : lastIx p (out ++ [x]) (out ++ [x]).length = if x.1 = p then (out.length : Int) else lastIx p out out.length := by
    rw [show (out ++ [x]).length = out.length + 1 by simp, lastIx_succ hx, lastIx_app]
  rw [hl]
  by_cases hp : x.1 = p
  · subst hp
    rw [if_pos rfl]
    refine ⟨?_, fun _ => ?_⟩
    · rw [has_put_same h.1 (show WideAt.IsKeyLit (.int .i64 x.1) from trivial)]; simp
    · rw [atKey_put_same h.1 (show WideAt.IsKeyLit (.int .i64 x.1) from trivial)]
      simp [List.getD]
  · rw [if_neg hp, has_put_other (fun e => hp (by injection e with _ e; exact e.symm)), atKey_put_other (fun e => hp (by injection e with _ e; exact e.symm))]
    refine ⟨(h.2 p).1, fun hq => ?_⟩
    have hlt := (lastIx_lt p out out.length).2
    rw [(h.2 p).2 hq]
    have : (out ++ [x]).getD (lastIx p out out.length).toNat (0, 0, 0) = out.getD (lastIx p out out.length).toNat (0, 0, 0) := by
      rw [List.getD_eq_getElem?_getD, List.getD_eq_getElem?_getD, List.getElem?_append_left (by omega)]
    rw [this]

set_option maxRecDepth 100000 in
set_option maxHeartbeats 4000000 in
theorem implPart_any (A : Option Addr) (l : List Int) (c : Nat) (r : Int) (M : Option Addr) (m : List Nt) (d : Nat) (w : World) (hn : l.length ≤ 1048576) (hA : RI w A l) (hm : m.length ≤ 1048576) (hM : RA w M m) (hL : Lim w) :
    Calls Tryd.prog 9 #[.agg #[.slice A l.length c, .int .i64 r], .slice M m.length d] w fun e w' => RetNt w (partTo l r m m.length) (gdI l r && goodB m) e w' := by
  have hb0 : Below w.heap.size w (w.alloc (.cells #[.slice A l.length c, .int .i64 r] 31)) := (Below.refl w.heap.size w).alloc (Nat.le_refl _) _
  obtain ⟨x0, x1, hz⟩ := Box.new w A l.length c r 31
  have hA := hA.below hb0
  have hM := hM.below hb0
  have hL := hL.below hb0
  have hmm := @run_makeMap Tryd.prog
  go_enter Tryd.func9, Tryd.ntmps9
  go_wp2_with fail
  generalize w.alloc (.cells #[.slice A l.length c, .int .i64 r] 31) = W at *
  refine (isIns_any _ _ _ _ _ hn hA hL).mono ?_
  rintro e w1 ⟨rfl, hb1⟩
  have hB1 := hb0.trans (hb1.mono hb0.size)
  cases hg : gdI l r with
  | false =>
    go_wp2
    go_ret2
    rw [hg, Bool.false_and]
    exact ⟨_, rfl, by simpa using Own.nil w1 w.heap.size 44, hB1⟩
  | true =>
    have hrr : 0 ≤ r ∧ r ≤ 1000000 := by have := (gdI_iff l r).1 hg; omega
    have HG := Lib.hid hg
    clear hg
    go_wp2_with fail
    refine (isScore_any _ _ _ _ hm (hM.below hb1)).mono ?_
    rintro e w2 ⟨rfl, hb2⟩
    have hb12 := hb1.trans (hb2.mono hb1.size)
    have hB2 := hB1.trans (hb2.mono hB1.size)
    cases hgb : goodB m with
    | false =>
      have HB := Lib.hid hgb
      go_wp2
      go_ret2
      rw [HG.out, HB.out, Bool.and_false]
      exact ⟨_, rfl, by simpa using Own.nil w2 w.heap.size 44, hB2⟩
    | true =>
      have hgood := (goodB_iff m).1 hgb
      have h30 := hgood.2
      have HB := Lib.hid hgb
      clear hgb
      have x0 := (hb12.cell (p := ⟨w.heap.size, 0, none⟩) hz).trans x0
      have x1 := (hb12.cell (p := ⟨w.heap.size, 1, none⟩) hz).trans x1
      have hz := Nat.lt_of_lt_of_le hz hb12.size
      have hA := hA.below hb12
      have hM := hM.below hb12
      have hbm : Below w2.heap.size w2 (w2.alloc (.map #[] 0)) := (Below.refl w2.heap.size w2).alloc (Nat.le_refl _) _
      have hm0 : (w2.alloc (.map #[] 0)).ownsMap Tryd.prog 3 (plainElem (H := Unit) Tryd.prog 3) w2.heap.size 0 (.map []) := World.ownsMap_made _ _ _ _
      have hz0 : w2.heap.size + 1 ≤ (w2.alloc (.map #[] 0)).heap.size := by simp
      clear hb1 hb2 hb12 hL
      go_wp2_with fail
      generalize w2.alloc (.map #[] 0) = W3 at *
      go_loopw [6, 23] (fun a i wr => ∃ (k : Nat) (D : DataW Unit), k ≤ m.length ∧ i = .int .i64 k ∧ Own wr (w2.heap.size + 1) 44 a (partTo l r m k) ∧ wr.ownsMap Tryd.prog 3 (plainElem Tryd.prog 3) w2.heap.size k D ∧ PSeen D (partTo l r m k) ∧ Below w2.heap.size w2 wr ∧ W3.heap.size ≤ wr.heap.size)
        (fun _ i _ => m.length - (intOf i).toNat)
      case atStart => exact ⟨0, .map [], Nat.zero_le _, rfl, Own.nil _ _ _, hm0, PSeen.zero, hbm, Nat.le_refl _⟩
      case round =>
        obtain ⟨k, D, hk, rfl, hown, hmap, hseen, hb, hsz⟩ := hrel
        by_cases hlt : k < m.length
        · have hx : m[k]? = some m[k] := List.getElem?_eq_getElem hlt
          generalize m[k] = x at hx
          have hs := partTo_succ (P := l) (r := r) hx
          have hpl := partTo_length l r m k
          have hpg := partTo_good (P := l) (r := r) hgood k
          have hv := (noteN_iff x).1 (hgood.1 k x hlt hx).1
          generalize hout : partTo l r m k = out at *
          have hsp := hseen.2 x.1
          have hst := PSeen.step (x := x) hseen
          have hln := last_note (p := x.1) hpg
          unfold keepB at hs
          obtain ⟨p, s, n⟩ := x
          simp only at hs hst hv hsp hln
          obtain ⟨g, o, rfl, hgb, h0, h1, h2⟩ := (hM.below hb) k _ hx
          simp only at h0 h1 h2
          have i1 : (0 : Int) ≤ (k : Int) := by omega
          have i2 : (k : Int) < (m.length : Int) := by omega
          have HS := Lib.hid hs
          have HST := Lib.hid hst
          have HOUT := Lib.hid hout
          have HO := Lib.hid hown
          have HVL := Lib.hid hown.lt
          have y0 := (hb.cell (p := ⟨w.heap.size, 0, none⟩) hz).trans x0
          have y1 := (hb.cell (p := ⟨w.heap.size, 1, none⟩) hz).trans x1
          have hzr : w.heap.size < wr.heap.size := Nat.lt_of_lt_of_le hz hb.size
          have hgz : w2.heap.size < wr.heap.size := by omega
          have hnb : Below wr.heap.size wr (wr.alloc (.cells #[.int .i64 p, .int .i64 s, .int .i64 n] 44)) := (Below.refl _ _).alloc (Nat.le_refl _) _
          have hAr := (hA.below hb).below hnb
          have hmap1 := hmap.alloc (.cells #[.int .i64 p, .int .i64 s, .int .i64 n] 44)
          have p0 : (wr.alloc (.cells #[.int .i64 p, .int .i64 s, .int .i64 n] 44)).cell? ⟨wr.heap.size, 0, none⟩ = some (.int .i64 p) := by rw [World.cell?_alloc_new]; rfl
          have p1 : (wr.alloc (.cells #[.int .i64 p, .int .i64 s, .int .i64 n] 44)).cell? ⟨wr.heap.size, 1, none⟩ = some (.int .i64 s) := by rw [World.cell?_alloc_new]; rfl
          have p2 : (wr.alloc (.cells #[.int .i64 p, .int .i64 s, .int .i64 n] 44)).cell? ⟨wr.heap.size, 2, none⟩ = some (.int .i64 n) := by rw [World.cell?_alloc_new]; rfl
          have hz1 : (wr.alloc (.cells #[.int .i64 p, .int .i64 s, .int .i64 n] 44)).heap.size = wr.heap.size + 1 := by simp
          have hkey := keyI p (by omega) (by omega)
          have hwf := wf64 s (by omega) (by omega)
          have y0 := (hnb.cell (p := ⟨w.heap.size, 0, none⟩) hzr).trans y0
          have y1 := (hnb.cell (p := ⟨w.heap.size, 1, none⟩) hzr).trans y1
          have HSEEN := Lib.hid hseen
          have hvne : some wr.heap.size ≠ u6.ownBlock := fun e => by have := HVL.out _ e.symm; omega
          clear hs hst hx hown hseen hpg
          go_upto_region 8 with fail
          generalize wr.alloc (.cells #[.int .i64 p, .int .i64 s, .int .i64 n] 44) = W1 at *
          have hb1 := hb.trans (hnb.mono hb.size)
          have hyz : w.heap.size < W1.heap.size := by omega
          have hpz : wr.heap.size < W1.heap.size := by omega
          clear h0 h1 h2 hmap
          generalize hqq : lastIx p out out.length = q at *
          have HP := Lib.hid (fun W h => hasPitch_any A l c r p W hn h)
          have HO1 := Lib.hid (HO.out.below hnb (Nat.le_refl _))
          have hs1 : W3.heap.size ≤ W1.heap.size := Nat.le_trans hsz hnb.size
          by_cases hq : 0 ≤ q
          · obtain ⟨y, _, hyd, hy0, hy1⟩ := hln hq
            have hat0 := hsp.2 hq
            have hhas : Maps.has D (.int .i64 p) = true := by rw [hsp.1]; simp [hq]
            rw [hyd] at hat0 HS
            have hqn : decide (q < 0) = false := by simp; omega
            generalize y.2.1 = st at *
            rw [hqn, Bool.false_or] at HS
            clear hln hsp hyd hqn
            cases hh : hasB l p with
            | false =>
              rw [hh, Bool.false_and, if_neg (by simp)] at HS
              have HE := HS
              go_wp2_with (first
                | (at_lookup; refine wpList_lookup_own_ok_int _ rfl _ _ 49 rfl 3 3 .i64 mapLaw Tryd.underlying49 Tryd.underlying3 (zeroInt _) w2.heap.size k D rfl hmap1 _ _ rfl hkey ?_; intro cL hat hwc; rw [hhas]; (obtain rfl : st = cL := by have e := hat0.symm.trans hat; injection e with e; injection e); clear hat hwc)
                | (go_at_call 22; refine (HP.out _ hAr).mono ?_; rintro e w3 ⟨rfl, hb3⟩; have s0 := (hb3.cell (p := ⟨wr.heap.size, 0, none⟩) hpz).trans p0; have s1 := (hb3.cell (p := ⟨wr.heap.size, 1, none⟩) hpz).trans p1; have s2 := (hb3.cell (p := ⟨wr.heap.size, 2, none⟩) hpz).trans p2; have t1 := (hb3.cell (p := ⟨w.heap.size, 1, none⟩) hyz).trans y1; have HM3 := Lib.hid (ownsMap_below hmap1 hb3); have HB3 := Lib.hid (hb1.trans (hb3.mono hb1.size)); have HO3 := Lib.hid (HO1.out.below hb3 (Nat.le_refl _)); have HX4 := Lib.hid (show Below w3.heap.size w3 (w3.alloc (.cells #[.int .i64 p, .int .i64 s, .int .i64 n] 44)) from (Below.refl _ _).alloc (Nat.le_refl _) _); have HO4 := Lib.hid (HO3.out.below HX4.out (Nat.le_refl _)); have HM4 := Lib.hid (ownsMap_below HM3.out HX4.out); have HB4 := Lib.hid (HB3.out.trans (HX4.out.mono HB3.out.size)); have hz4 : W3.heap.size ≤ (w3.alloc (.cells #[.int .i64 p, .int .i64 s, .int .i64 n] 44)).heap.size := Nat.le_trans hs1 (Nat.le_trans hb3.size HX4.out.size)))
              go_roundw
              case rel =>
                exact ⟨k + 1, _, by omega, by go_num, by rw [HE.out]; exact HO3.out, HM3.out.mono (by omega), by rw [HE.out]; exact HSEEN.out, HB3.out, by have := hb3.size; omega⟩
              case measure => simp [intOf]; omega
            | true =>
              rw [hh, Bool.true_and] at HS
              have hwst : IntKind.i64.wrap (s - st) = s - st := IntWalk.i64_in _ (by omega)
              by_cases hlt2 : s - st < r
              · have hd2 : decide (r ≤ s - st) = false := by simp; omega
                rw [hd2, if_neg (by simp)] at HS
                have HE := HS
                clear hd2
                go_wp2_with (first
                  | (at_lookup; refine wpList_lookup_own_ok_int _ rfl _ _ 49 rfl 3 3 .i64 mapLaw Tryd.underlying49 Tryd.underlying3 (zeroInt _) w2.heap.size k D rfl hmap1 _ _ rfl hkey ?_; intro cL hat hwc; rw [hhas]; (obtain rfl : st = cL := by have e := hat0.symm.trans hat; injection e with e; injection e); clear hat hwc)
                  | (go_at_call 22; refine (HP.out _ hAr).mono ?_; rintro e w3 ⟨rfl, hb3⟩; have s0 := (hb3.cell (p := ⟨wr.heap.size, 0, none⟩) hpz).trans p0; have s1 := (hb3.cell (p := ⟨wr.heap.size, 1, none⟩) hpz).trans p1; have s2 := (hb3.cell (p := ⟨wr.heap.size, 2, none⟩) hpz).trans p2; have t1 := (hb3.cell (p := ⟨w.heap.size, 1, none⟩) hyz).trans y1; have HM3 := Lib.hid (ownsMap_below hmap1 hb3); have HB3 := Lib.hid (hb1.trans (hb3.mono hb1.size)); have HO3 := Lib.hid (HO1.out.below hb3 (Nat.le_refl _)); have HX4 := Lib.hid (show Below w3.heap.size w3 (w3.alloc (.cells #[.int .i64 p, .int .i64 s, .int .i64 n] 44)) from (Below.refl _ _).alloc (Nat.le_refl _) _); have HO4 := Lib.hid (HO3.out.below HX4.out (Nat.le_refl _)); have HM4 := Lib.hid (ownsMap_below HM3.out HX4.out); have HB4 := Lib.hid (HB3.out.trans (HX4.out.mono HB3.out.size)); have hz4 : W3.heap.size ≤ (w3.alloc (.cells #[.int .i64 p, .int .i64 s, .int .i64 n] 44)).heap.size := Nat.le_trans hs1 (Nat.le_trans hb3.size HX4.out.size)))
                go_roundw
                case rel =>
                  exact ⟨k + 1, _, by omega, by go_num, by rw [HE.out]; exact HO3.out, HM3.out.mono (by omega), by rw [HE.out]; exact HSEEN.out, HB3.out, by have := hb3.size; omega⟩
                case measure => simp [intOf]; omega
              · have hd2 : decide (r ≤ s - st) = true := by simp; omega
                rw [hd2, if_pos rfl] at HS
                have HE := HS
                clear hd2
                go_wp2_with (first
                  | (at_lookup; refine wpList_lookup_own_ok_int _ rfl _ _ 49 rfl 3 3 .i64 mapLaw Tryd.underlying49 Tryd.underlying3 (zeroInt _) w2.heap.size k D rfl hmap1 _ _ rfl hkey ?_; intro cL hat hwc; rw [hhas]; (obtain rfl : st = cL := by have e := hat0.symm.trans hat; injection e with e; injection e); clear hat hwc)
                  | (go_at_call 22; refine (HP.out _ hAr).mono ?_; rintro e w3 ⟨rfl, hb3⟩; have s0 := (hb3.cell (p := ⟨wr.heap.size, 0, none⟩) hpz).trans p0; have s1 := (hb3.cell (p := ⟨wr.heap.size, 1, none⟩) hpz).trans p1; have s2 := (hb3.cell (p := ⟨wr.heap.size, 2, none⟩) hpz).trans p2; have t1 := (hb3.cell (p := ⟨w.heap.size, 1, none⟩) hyz).trans y1; have HM3 := Lib.hid (ownsMap_below hmap1 hb3); have HB3 := Lib.hid (hb1.trans (hb3.mono hb1.size)); have HO3 := Lib.hid (HO1.out.below hb3 (Nat.le_refl _)); have HX4 := Lib.hid (show Below w3.heap.size w3 (w3.alloc (.cells #[.int .i64 p, .int .i64 s, .int .i64 n] 44)) from (Below.refl _ _).alloc (Nat.le_refl _) _); have HO4 := Lib.hid (HO3.out.below HX4.out (Nat.le_refl _)); have HM4 := Lib.hid (ownsMap_below HM3.out HX4.out); have HB4 := Lib.hid (HB3.out.trans (HX4.out.mono HB3.out.size)); have hz4 : W3.heap.size ≤ (w3.alloc (.cells #[.int .i64 p, .int .i64 s, .int .i64 n] 44)).heap.size := Nat.le_trans hs1 (Nat.le_trans hb3.size HX4.out.size))
                  | (at_mapUpdate; go_loud (refine wpList_mapUpdate_own _ rfl _ _ _ 49 rfl 3 3 mapLaw Tryd.underlying49 _ w2.heap.size k D rfl HM6.out (by unfold maxLen; omega) _ _ _ rfl rfl hkey _ [] (plainElem_int Tryd.underlying3 hwf) ?_); intro w7 hmap7 hg7; have HM7 := Lib.hid hmap7; have HG7 := Lib.hid hg7)
                  | (at_builtin; go_loud (refine wpList_appN _ rfl (.tmp 51) (.tmp 53) rfl (w2.heap.size + 1) _ _ rfl HO4.out _ 1 1 [(p, s, n)] rfl rfl (fun h => by cases h) (RA.one (heap_alloc_new _ _)) (by omega) (Nat.le_trans hz0 hz4) ?_); intro v6 w6 ho6 hg6; have HV6 := Lib.hid (fun j hj => (HO4.out.lt j hj).1); have HM6 := Lib.hid (HM4.out.kept hg6 (fun e => by have := HV6.out _ e.symm; omega)); have HB6 := Lib.hid (HB4.out.grown hg6 HB4.out.size (fun j hj => by have := HV6.out j hj; omega)); have r0 := hg6.cell ((HX4.out.cell (p := ⟨wr.heap.size, 0, none⟩) (Nat.lt_of_lt_of_le hpz hb3.size)).trans s0) hvne; have r1 := hg6.cell ((HX4.out.cell (p := ⟨wr.heap.size, 1, none⟩) (Nat.lt_of_lt_of_le hpz hb3.size)).trans s1) hvne; have hz6 := hg6.size))
                go_roundw
                case rel =>
                  refine ⟨k + 1, _, by omega, by go_num, ?_, HM7.out, by rw [HE.out]; exact HST.out, HB6.out.grown HG7.out HB6.out.size (fun j hj => by injection hj with hj; omega), by have := HG7.out.size; omega⟩
                  rw [HE.out]
                  exact ho6.grown HG7.out (by
                    cases hv : v6.ownBlock with
                    | none => exact .inl rfl
                    | some j => exact .inr fun e => by injection e with e; have := (ho6.lt j hv).1; omega)
                case measure => simp [intOf]; omega
          · have hhas : Maps.has D (.int .i64 p) = false := by rw [hsp.1]; simp [hq]
            have hqn : decide (q < 0) = true := by simp; omega
            rw [hqn, Bool.true_or, Bool.and_true] at HS
            clear hln hsp hqn
            cases hh : hasB l p with
            | false =>
              rw [hh, if_neg (by simp)] at HS
              have HE := HS
              go_wp2_with (first
                | (at_lookup; refine wpList_lookup_own_ok_int _ rfl _ _ 49 rfl 3 3 .i64 mapLaw Tryd.underlying49 Tryd.underlying3 (zeroInt _) w2.heap.size k D rfl hmap1 _ _ rfl hkey ?_; intro cL hat hwc; rw [hhas]; clear hat)
                | (go_at_call 22; refine (HP.out _ hAr).mono ?_; rintro e w3 ⟨rfl, hb3⟩; have s0 := (hb3.cell (p := ⟨wr.heap.size, 0, none⟩) hpz).trans p0; have s1 := (hb3.cell (p := ⟨wr.heap.size, 1, none⟩) hpz).trans p1; have s2 := (hb3.cell (p := ⟨wr.heap.size, 2, none⟩) hpz).trans p2; have t1 := (hb3.cell (p := ⟨w.heap.size, 1, none⟩) hyz).trans y1; have HM3 := Lib.hid (ownsMap_below hmap1 hb3); have HB3 := Lib.hid (hb1.trans (hb3.mono hb1.size)); have HO3 := Lib.hid (HO1.out.below hb3 (Nat.le_refl _)); have HX4 := Lib.hid (show Below w3.heap.size w3 (w3.alloc (.cells #[.int .i64 p, .int .i64 s, .int .i64 n] 44)) from (Below.refl _ _).alloc (Nat.le_refl _) _); have HO4 := Lib.hid (HO3.out.below HX4.out (Nat.le_refl _)); have HM4 := Lib.hid (ownsMap_below HM3.out HX4.out); have HB4 := Lib.hid (HB3.out.trans (HX4.out.mono HB3.out.size)); have hz4 : W3.heap.size ≤ (w3.alloc (.cells #[.int .i64 p, .int .i64 s, .int .i64 n] 44)).heap.size := Nat.le_trans hs1 (Nat.le_trans hb3.size HX4.out.size)))
              go_roundw
              case rel =>
                exact ⟨k + 1, _, by omega, by go_num, by rw [HE.out]; exact HO3.out, HM3.out.mono (by omega), by rw [HE.out]; exact HSEEN.out, HB3.out, by have := hb3.size; omega⟩
              case measure => simp [intOf]; omega
            | true =>
              rw [hh, if_pos rfl] at HS
              have HE := HS
              go_wp2_with (first
                | (at_lookup; refine wpList_lookup_own_ok_int _ rfl _ _ 49 rfl 3 3 .i64 mapLaw Tryd.underlying49 Tryd.underlying3 (zeroInt _) w2.heap.size k D rfl hmap1 _ _ rfl hkey ?_; intro cL hat hwc; rw [hhas]; clear hat)
                | (go_at_call 22; refine (HP.out _ hAr).mono ?_; rintro e w3 ⟨rfl, hb3⟩; have s0 := (hb3.cell (p := ⟨wr.heap.size, 0, none⟩) hpz).trans p0; have s1 := (hb3.cell (p := ⟨wr.heap.size, 1, none⟩) hpz).trans p1; have s2 := (hb3.cell (p := ⟨wr.heap.size, 2, none⟩) hpz).trans p2; have t1 := (hb3.cell (p := ⟨w.heap.size, 1, none⟩) hyz).trans y1; have HM3 := Lib.hid (ownsMap_below hmap1 hb3); have HB3 := Lib.hid (hb1.trans (hb3.mono hb1.size)); have HO3 := Lib.hid (HO1.out.below hb3 (Nat.le_refl _)); have HX4 := Lib.hid (show Below w3.heap.size w3 (w3.alloc (.cells #[.int .i64 p, .int .i64 s, .int .i64 n] 44)) from (Below.refl _ _).alloc (Nat.le_refl _) _); have HO4 := Lib.hid (HO3.out.below HX4.out (Nat.le_refl _)); have HM4 := Lib.hid (ownsMap_below HM3.out HX4.out); have HB4 := Lib.hid (HB3.out.trans (HX4.out.mono HB3.out.size)); have hz4 : W3.heap.size ≤ (w3.alloc (.cells #[.int .i64 p, .int .i64 s, .int .i64 n] 44)).heap.size := Nat.le_trans hs1 (Nat.le_trans hb3.size HX4.out.size))
                | (at_mapUpdate; go_loud (refine wpList_mapUpdate_own _ rfl _ _ _ 49 rfl 3 3 mapLaw Tryd.underlying49 _ w2.heap.size k D rfl HM6.out (by unfold maxLen; omega) _ _ _ rfl rfl hkey _ [] (plainElem_int Tryd.underlying3 hwf) ?_); intro w7 hmap7 hg7; have HM7 := Lib.hid hmap7; have HG7 := Lib.hid hg7)
                | (at_builtin; go_loud (refine wpList_appN _ rfl (.tmp 51) (.tmp 53) rfl (w2.heap.size + 1) _ _ rfl HO4.out _ 1 1 [(p, s, n)] rfl rfl (fun h => by cases h) (RA.one (heap_alloc_new _ _)) (by omega) (Nat.le_trans hz0 hz4) ?_); intro v6 w6 ho6 hg6; have HV6 := Lib.hid (fun j hj => (HO4.out.lt j hj).1); have HM6 := Lib.hid (HM4.out.kept hg6 (fun e => by have := HV6.out _ e.symm; omega)); have HB6 := Lib.hid (HB4.out.grown hg6 HB4.out.size (fun j hj => by have := HV6.out j hj; omega)); have r0 := hg6.cell ((HX4.out.cell (p := ⟨wr.heap.size, 0, none⟩) (Nat.lt_of_lt_of_le hpz hb3.size)).trans s0) hvne; have r1 := hg6.cell ((HX4.out.cell (p := ⟨wr.heap.size, 1, none⟩) (Nat.lt_of_lt_of_le hpz hb3.size)).trans s1) hvne; have hz6 := hg6.size))
              go_roundw
              case rel =>
                refine ⟨k + 1, _, by omega, by go_num, ?_, HM7.out, by rw [HE.out]; exact HST.out, HB6.out.grown HG7.out HB6.out.size (fun j hj => by injection hj with hj; omega), by have := HG7.out.size; omega⟩
                rw [HE.out]
                exact ho6.grown HG7.out (by
                  cases hv : v6.ownBlock with
                  | none => exact .inl rfl
                  | some j => exact .inr fun e => by injection e with e; have := (ho6.lt j hv).1; omega)
              case measure => simp [intOf]; omega
        · obtain rfl : k = m.length := by omega
          go_wp2
          go_ret2
          rw [HG.out, HB.out, Bool.and_true]
          exact ⟨_, rfl, by simpa using hown.mono (by have := hB2.size; omega), hB2.trans (hb.mono hB2.size)⟩
end Go.Proofs.YtecbeicppfcofabDoor
