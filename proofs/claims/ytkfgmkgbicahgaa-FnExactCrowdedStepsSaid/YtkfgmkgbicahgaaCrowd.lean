/- In how many steps more than so many tracks are open: the model's and the program's functions have one answer. -/
import Derived.Test.YtkfgmkgbicahgaaQuick
import Derived.Test.YtkfgmkgbicahgaaCrowdP
import Derived.Deep.OwnRows
import Derived.Deep.WholeRow
namespace Go.Proofs.Ytkfgmkgbicahgaa
open Go.RowKit
set_option linter.unusedVariables false
set_option linter.unusedSimpArgs false

def zeroN : Array Value := Array.mk (List.replicate 2000 (.int .i64 0))
theorem zeroN_list : zeroN.toList = List.replicate 2000 (.int .i64 0) := rfl
theorem zeroN_size : zeroN.size = 2000 := by rw [← Array.length_toList, zeroN_list, List.length_replicate]
theorem zeroN_ne : zeroN ≠ #[] := fun h => by have := congrArg Array.size h; rw [zeroN_size] at this; simp at this
set_option maxRecDepth 100000 in
theorem infoN : (Try.prog.info? 48).map (fun i => (i.zero, i.size)) = some (some (.agg zeroN), 2000) := by kernel_rfl
theorem zeroVN (w : World) : (zeroValue 48).run Try.prog w = .ok (.agg zeroN) w := (zero_of_info infoN).1 w

theorem Try.info_intN : (Try.prog.info? 3).map (fun i => (i.zero, i.size, i.bytes)) = some (some (.int .i64 0), 1, 8) := by kernel_rfl
theorem make_intsN (W : World) :
    (Instr.makeSlice 24 (.int .i64 2000) (.int .i64 2000)).run Try.prog W = .ok (.slice (some ⟨W.heap.size, 0, none⟩) 2000 2000) (W.alloc (.cells (madeCells #[.int .i64 0] 2000) 3)) := by
  obtain ⟨i, hi, hz, hs, hb⟩ := info_parts Try.info_intN
  have h := run_make (P := Try.prog) W 24 3 i _ Try.underlying24 hi hz .i64 .i64 2000 2000 (by omega) (by omega) (by rw [hb]; omega) (by omega)
  rw [hs] at h
  exact h

theorem index_any6 (t : TypeId) (NS : Array Value) (k : Nat) (v : Int) (hk : k < 2000) (h : NS[k]? = some (.int .i64 v)) (w : World) :
    (Instr.index 48 (.agg NS) (.int .i64 (k : Int))).run Try.prog w = .ok (.int .i64 v) w := by
  have hz : ∀ w, (Go.sizeOf 3).run Try.prog w = .ok 1 w := Try.sizeOf3
  have ha : ∀ w, (isAgg 3).run Try.prog w = .ok false w := Try.isAgg3
  simp [Instr.index, go_sem, run_underlying Try.underlying48, asIntOf, h, hz, part, ha]
  intro h'
  omega
/-- The array of how many holes are open, as one value. -/
def cntV (l : List Nt) : Array Value := ((List.range 2000).map fun j => Value.int .i64 (cnt l j)).toArray
theorem cntV_get (l : List Nt) (j : Nat) (hj : j < 2000) : (cntV l)[j]? = some (.int .i64 (cnt l j)) := by
  unfold cntV
  simp [hj]
theorem index_N (l : List Nt) (j : Nat) (hj : j < 2000) (w : World) : (Instr.index 48 (.agg (cntV l)) (.int .i64 (j : Int))).run Try.prog w = .ok (.int .i64 (cnt l j)) w :=
  index_any6 0 _ j _ hj (cntV_get l j hj) w

/-- The row of how many holes are open. -/
def Opens (w : World) (g t : Nat) (f : Nat → Int) : Prop := w.rowIs g t 2000 (fun j => .int .i64 (f j))
theorem Opens.congr {w : World} {g t : Nat} {f f' : Nat → Int} (h : Opens w g t f) (e : ∀ j, f j = f' j) : Opens w g t f' := by
  have : f = f' := funext e
  rw [← this]; exact h
theorem Opens.zero (w : World) : Opens (w.alloc (.cells zeroN 48)) w.heap.size 48 (fun _ => 0) := by
  have h := World.rowIs_alloc w zeroN 48 (fun _ => .int .i64 0) (fun i hi => by
    rw [← Array.getElem?_toList, zeroN_list, List.getElem?_replicate, if_pos (by rw [zeroN_size] at hi; exact hi)])
  rw [zeroN_size] at h
  exact h
theorem Opens.made (w : World) : Opens (w.alloc (.cells (madeCells #[.int .i64 0] 2000) 3)) w.heap.size 3 (fun _ => 0) := World.rowIs_made w (.int .i64 0) 2000 3
theorem Opens.below {w w' : World} {g t : Nat} {f : Nat → Int} (h : Opens w g t f) (hb : Below w.heap.size w w') : Opens w' g t f := World.rowIs.of_block h (hb.block g (World.rowIs.lt h))
theorem Opens.at {w : World} {g t : Nat} {f : Nat → Int} (h : Opens w g t f) {j : Int} (h0 : 0 ≤ j) (h1 : j < 2000) : w.cell? ⟨g, j.toNat, none⟩ = some (.int .i64 (f j.toNat)) := World.rowIs.cell h (by omega)
theorem Opens.step {w : World} {g t : Nat} {l : List Nt} {k : Nat} {s i : Int} (h : Opens w g t (part l k s i)) (hs : 0 ≤ s) (hi : 0 ≤ i) : Opens (w.setCell ⟨g, (s + i).toNat, none⟩ (.int .i64 (part l k s i (s + i).toNat + 1))) g t (part l k s (i + 1)) := by
  refine (World.rowIs.set h (s + i).toNat _).congr fun j hj => ?_
  rw [part_step l k s i j hi hs]
  by_cases e : j = (s + i).toNat
  · rw [if_pos e, if_pos e, e]
  · rw [if_neg e, if_neg e]

theorem readN {w : World} {g : Nat} {l : List Nt} (h : Opens w g 48 (cnt l)) : (loadVar 48 ⟨g, 0, none⟩).run Try.prog w = .ok (.agg (cntV l)) w := by
  have ha : (isAgg 48).run Try.prog w = .ok true w := by simp [isAgg, go_sem, run_underlying Try.underlying48]
  have hz : (Go.sizeOf 48).run Try.prog w = .ok 2000 w := by
    have := (zero_of_info infoN).2
    cases hq : Try.prog.info? 48 with
    | none => simp [hq] at this
    | some i => simp [hq] at this; simp [Go.sizeOf, typeInfo, hq, this]
  have hc := run_loadCells (P := Try.prog) w ⟨g, 0, none⟩ 2000 (fun j => .int .i64 (cnt l j)) (fun j hj => by
    have hadd : (⟨g, 0, none⟩ : Addr).add j = ⟨g, j, none⟩ := by unfold Addr.add; split <;> simp_all
    rw [hadd]; exact World.rowIs.cell h hj)
  simp only [loadVar, Sem.run_bind, ha, Result.andThen, if_true, hz, hc, Sem.run_pure]
  rfl

theorem wpList_loadN {P : Program} {ops : Array Oper} {rest : List Oper} {o : Oper} {a : Act} {w : World} {Q : Exit → Act → World → Prop} (hgd : o.guard = none) (ty : TypeId) (x : Operand) (ho : o.op = .load ty x)
    (ad : Addr) (hx : a.eval x = .pointer (some ad)) (v : Value) (hl : (loadVar ty ad).run P w = .ok v w) (h : wpList P ops Q rest (a.put o.dst v) w) : wpList P ops Q (o :: rest) a w :=
  wpList_plain hgd fun _ hK => by
    unfold Oper.wp execOp
    simp only [ho, hx, Instr.loadAt, Instr.sureAddr, Sem.run_bind, Sem.run_pure, Result.andThen_ok, hl]
    exact hK _ _ h

set_option maxRecDepth 100000 in
set_option maxHeartbeats 4000000 in
theorem specCrowd_any (A : Option Addr) (l : List Nt) (c : Nat) (m : Int) (w : World) (hn : l.length ≤ 1048576) (hc : l.length ≤ c) (hc' : c ≤ 9223372036854775807) (hA : RA w A l) :
    Calls Try.prog 17 #[.slice A l.length c, .int .i64 m] w fun e w' => e = .returned (.tuple #[.int .i64 (if (goodB l && inR m 0 20) = true then crowdN l m 2000 else 0), .bool (goodB l && inR m 0 20)]) ∧ Below w.heap.size w w' := by
  cases hg : goodB l with
  | false =>
    have HG := shGood_quick A l c false hn hc hc' hg
    clear hg
    go_enter Try.func17, Try.ntmps17
    go_wp2_with fail
    refine (HG.out _ hA).mono ?_
    rintro e w1 ⟨rfl, hb1⟩
    go_wp2
    go_ret2
    exact ⟨rfl, hb1⟩
  | true =>
    have HG := shGood_quick A l c true hn hc hc' hg
    have hgood := (goodB_iff l).1 hg
    have h60 := hgood.2
    clear hg
    cases hr : inR m 0 20 with
    | false =>
      go_enter Try.func17, Try.ntmps17
      go_wp2_with fail
      refine (HG.out _ hA).mono ?_
      rintro e w1 ⟨rfl, hb1⟩
      go_wp2_with (go_at_call 26; refine (l1In_any _ _ _ _).mono ?_; rintro e w2 ⟨rfl, rfl⟩)
      go_ret2
      exact ⟨by simp [hr], hb1⟩
    | true =>
      have HR := Lib.hid hr
      go_enter Try.func17, Try.ntmps17
      go_wp2_with fail
      refine (HG.out _ hA).mono ?_
      rintro e w1 ⟨rfl, hb1⟩
      have hA1 := hA.below hb1
      have hmk := make_intsN
      go_wp2_with (go_at_call 26; refine (l1In_any _ _ _ _).mono ?_; rintro e w2 ⟨rfl, rfl⟩)
      clear hmk
      clear hr
      have hb0 : Below w1.heap.size w1 (w1.alloc (.cells (madeCells #[.int .i64 0] 2000) 3)) := (Below.refl _ _).alloc (Nat.le_refl _) _
      have hO0 := (Opens.made w1).congr (f' := cnt (l.take 0)) fun j => rfl
      have hz0 : w1.heap.size < (w1.alloc (.cells (madeCells #[.int .i64 0] 2000) 3)).heap.size := by simp
      generalize (w1.alloc (.cells (madeCells #[.int .i64 0] 2000) 3)) = W0 at *
      have hA2 := hA1.below hb0
      go_loopw [24] (fun i wr => ∃ k : Nat, k ≤ l.length ∧ i = .int .i64 k ∧ Opens wr w1.heap.size 3 (cnt (l.take k)) ∧ Below w1.heap.size w1 wr)
        (fun i _ => l.length - (intOf i).toNat)
      case atStart => exact ⟨0, Nat.zero_le _, rfl, hO0, hb0⟩
      case round =>
        obtain ⟨k, hk, rfl, hO, hb⟩ := hrel
        by_cases hlt : k < l.length
        · have hx : l[k]? = some l[k] := List.getElem?_eq_getElem hlt
          generalize l[k] = x at hx
          have hv := (noteN_iff x).1 (hgood.1 k x hlt hx).1
          have HX := Lib.hid hx
          obtain ⟨p, s, n⟩ := x
          simp only at hv
          obtain ⟨g, o, rfl, hgb, h0, h1, h2⟩ := (hA1.below hb) k _ hx
          simp only at h0 h1 h2
          have i1 : (0 : Int) ≤ (k : Int) := by omega
          have i2 : (k : Int) < (l.length : Int) := by omega
          have hzr : w1.heap.size < wr.heap.size := World.rowIs.lt hO
          clear hx
          have x0 : (wr.alloc (.cells #[.int .i64 p, .int .i64 s, .int .i64 n] 40)).cell? ⟨wr.heap.size, 0, none⟩ = some (.int .i64 p) := (World.cell?_alloc_new wr _ _ 0).trans rfl
          have x1 : (wr.alloc (.cells #[.int .i64 p, .int .i64 s, .int .i64 n] 40)).cell? ⟨wr.heap.size, 1, none⟩ = some (.int .i64 s) := (World.cell?_alloc_new wr _ _ 1).trans rfl
          have x2 : (wr.alloc (.cells #[.int .i64 p, .int .i64 s, .int .i64 n] 40)).cell? ⟨wr.heap.size, 2, none⟩ = some (.int .i64 n) := (World.cell?_alloc_new wr _ _ 2).trans rfl
          have hbx : Below wr.heap.size wr (wr.alloc (.cells #[.int .i64 p, .int .i64 s, .int .i64 n] 40)) := (Below.refl _ _).alloc (Nat.le_refl _) _
          have hOx := (hO.below hbx).congr (f' := part l k s 0) fun j => (part_zero l k s j).symm
          have hzx : wr.heap.size < (wr.alloc (.cells #[.int .i64 p, .int .i64 s, .int .i64 n] 40)).heap.size := by simp
          go_wp2_with fail
          generalize wr.alloc (.cells #[.int .i64 p, .int .i64 s, .int .i64 n] 40) = WX at *
          have hbW := hb.trans (hbx.mono hb.size)
          clear hbx
          generalize wr.heap.size = xb at *
          clear h0 h1 h2 hO
          go_loopw [9] (fun i vr => ∃ j : Int, 0 ≤ j ∧ s + j ≤ n ∧ i = .int .i64 (s + j) ∧ Opens vr w1.heap.size 3 (part l k s j) ∧ Below w1.heap.size w1 vr ∧ vr.cell? ⟨xb, 1, none⟩ = some (.int .i64 s) ∧ vr.cell? ⟨xb, 2, none⟩ = some (.int .i64 n))
            (fun i _ => (n - (intOf i)).toNat)
          case atStart => exact ⟨0, Int.le_refl _, by omega, by simp, hOx, hbW, x1, x2⟩
          case round =>
            obtain ⟨j, hj0, hj1, rfl, hP, hbv, y1, y2⟩ := hrel
            by_cases hjl : s + j < n
            · have j1 : (0 : Int) ≤ s + j := by omega
              have j2 : s + j < 2000 := by omega
              have hcell := hP.at j1 j2
              have hfr := World.rowIs.frozen hP (s + j).toNat
              have hbd := part_bound l k s j (s + j).toNat h60
              have hst := Lib.hid (hP.step (by omega) hj0)
              have hne : xb ≠ w1.heap.size := by omega
              have HBS := Lib.hid (hbv.setCell (p := ⟨w1.heap.size, (s + j).toNat, none⟩) (Nat.le_refl _) (.int .i64 (part l k s j (s + j).toNat + 1)))
              generalize part l k s j (s + j).toNat = q at *
              clear hP
              go_wp2
              go_roundw
              case rel =>
                refine ⟨j + 1, by omega, by omega, by first | go_num | (congr 1; omega), hst.out, HBS.out, ?_, ?_⟩
                · rw [World.cell?_setCell_far _ _ _ _ (by simp; omega)]; exact y1
                · rw [World.cell?_setCell_far _ _ _ _ (by simp; omega)]; exact y2
              case measure => simp [intOf]; omega
            · obtain rfl : n = s + j := by omega
              go_wp2
              go_roundw
              case rel => exact ⟨k + 1, by omega, by go_num, hP.congr fun i => part_end l k _ j i HX.out rfl, hbv⟩
              case measure => simp [intOf]; omega
        · obtain rfl : k = l.length := by omega
          rw [List.take_length] at hO
          go_wp2_with fail
          go_loopw [10, 45] (fun a i vr => ∃ j : Nat, j ≤ 2000 ∧ i = .int .i64 j ∧ a = .int .i64 (crowdN l m j) ∧ vr = wr)
            (fun _ i _ => 2000 - (intOf i).toNat)
          case atStart => exact ⟨0, Nat.zero_le _, rfl, rfl, rfl⟩
          case round =>
            obtain ⟨j, hj, rfl, rfl, rfl⟩ := hrel
            by_cases hjl : j < 2000
            · have j1 : (0 : Int) ≤ (j : Int) := by omega
              have j2 : (j : Int) < 2000 := by omega
              have hs := Lib.hid (crowdN_succ l m j)
              have hbd := crowdN_bound l m j
              have hcb := cnt_bound l j
              have hcell := hO.at j1 j2
              rw [Int.toNat_natCast] at hcell
              generalize crowdN l m j = q at *
              by_cases hm : m < cnt l j
              · go_wp2
                go_roundw
                case rel => exact ⟨j + 1, by omega, by go_num, (by rw [hs.out, if_pos hm] <;> go_num), by first | rfl | trivial⟩
                case measure => simp [intOf]; omega
              · go_wp2
                go_roundw
                case rel => exact ⟨j + 1, by omega, by go_num, (by rw [hs.out, if_neg hm, Int.add_zero]), by first | rfl | trivial⟩
                case measure => simp [intOf]; omega
            · obtain rfl : j = 2000 := by omega
              go_wp2
              go_ret2
              exact ⟨by simp [HR.out], hb1.trans (hb.mono hb1.size)⟩

set_option maxRecDepth 100000 in
set_option maxHeartbeats 4000000 in
theorem implCrowd_any (A : Option Addr) (l : List Nt) (c : Nat) (m : Int) (w : World) (hn : l.length ≤ 1048576) (hc : l.length ≤ c) (hc' : c ≤ 9223372036854775807) (hA : RA w A l) :
    Calls Try.prog 18 #[.slice A l.length c, .int .i64 m] w fun e w' => e = .returned (.tuple #[.int .i64 (if (goodB l && inR m 0 20) = true then crowdN l m 2000 else 0), .bool (goodB l && inR m 0 20)]) ∧ Below w.heap.size w w' := by
  cases hg : goodB l with
  | false =>
    have HG := isSheet_quick A l c false hn hg
    clear hg
    go_enter Try.func18, Try.ntmps18
    go_wp2_with fail
    refine (HG.out _ hA).mono ?_
    rintro e w1 ⟨rfl, hb1⟩
    go_wp2
    go_ret2
    exact ⟨rfl, hb1⟩
  | true =>
    have HG := isSheet_quick A l c true hn hg
    have hgood := (goodB_iff l).1 hg
    have h60 := hgood.2
    clear hg
    cases hr : inR m 0 20 with
    | false =>
      go_enter Try.func18, Try.ntmps18
      go_wp2_with fail
      refine (HG.out _ hA).mono ?_
      rintro e w1 ⟨rfl, hb1⟩
      go_wp2_with (go_at_call 28; refine (inRange_any _ _ _ _).mono ?_; rintro e w2 ⟨rfl, rfl⟩)
      go_ret2
      exact ⟨by simp [hr], hb1⟩
    | true =>
      have HR := Lib.hid hr
      go_enter Try.func18, Try.ntmps18
      go_wp2_with fail
      refine (HG.out _ hA).mono ?_
      rintro e w1 ⟨rfl, hb1⟩
      have hA1 := hA.below hb1
      have hzv := zeroVN
      have hzn := zeroN_ne
      go_wp2_with (go_at_call 28; refine (inRange_any _ _ _ _).mono ?_; rintro e w2 ⟨rfl, rfl⟩)
      clear hzv hzn
      clear hr
      have hb0 : Below w1.heap.size w1 (w1.alloc (.cells zeroN 48)) := (Below.refl _ _).alloc (Nat.le_refl _) _
      have hO0 := (Opens.zero w1).congr (f' := cnt (l.take 0)) fun j => rfl
      have hz0 : w1.heap.size < (w1.alloc (.cells zeroN 48)).heap.size := by simp
      generalize (w1.alloc (.cells zeroN 48)) = W0 at *
      have hA2 := hA1.below hb0
      go_loopw [23] (fun i wr => ∃ k : Nat, k ≤ l.length ∧ i = .int .i64 k ∧ Opens wr w1.heap.size 48 (cnt (l.take k)) ∧ Below w1.heap.size w1 wr)
        (fun i _ => l.length - (intOf i).toNat)
      case atStart => exact ⟨0, Nat.zero_le _, rfl, hO0, hb0⟩
      case round =>
        obtain ⟨k, hk, rfl, hO, hb⟩ := hrel
        by_cases hlt : k < l.length
        · have hx : l[k]? = some l[k] := List.getElem?_eq_getElem hlt
          generalize l[k] = x at hx
          have hv := (noteN_iff x).1 (hgood.1 k x hlt hx).1
          have HX := Lib.hid hx
          obtain ⟨p, s, n⟩ := x
          simp only at hv
          obtain ⟨g, o, rfl, hgb, h0, h1, h2⟩ := (hA1.below hb) k _ hx
          simp only at h0 h1 h2
          have i1 : (0 : Int) ≤ (k : Int) := by omega
          have i2 : (k : Int) < (l.length : Int) := by omega
          have hzr : w1.heap.size < wr.heap.size := World.rowIs.lt hO
          clear hx
          have x0 : (wr.alloc (.cells #[.int .i64 p, .int .i64 s, .int .i64 n] 40)).cell? ⟨wr.heap.size, 0, none⟩ = some (.int .i64 p) := (World.cell?_alloc_new wr _ _ 0).trans rfl
          have x1 : (wr.alloc (.cells #[.int .i64 p, .int .i64 s, .int .i64 n] 40)).cell? ⟨wr.heap.size, 1, none⟩ = some (.int .i64 s) := (World.cell?_alloc_new wr _ _ 1).trans rfl
          have x2 : (wr.alloc (.cells #[.int .i64 p, .int .i64 s, .int .i64 n] 40)).cell? ⟨wr.heap.size, 2, none⟩ = some (.int .i64 n) := (World.cell?_alloc_new wr _ _ 2).trans rfl
          have hbx : Below wr.heap.size wr (wr.alloc (.cells #[.int .i64 p, .int .i64 s, .int .i64 n] 40)) := (Below.refl _ _).alloc (Nat.le_refl _) _
          have hOx := (hO.below hbx).congr (f' := part l k s 0) fun j => (part_zero l k s j).symm
          have hzx : wr.heap.size < (wr.alloc (.cells #[.int .i64 p, .int .i64 s, .int .i64 n] 40)).heap.size := by simp
          go_wp2_with fail
          generalize wr.alloc (.cells #[.int .i64 p, .int .i64 s, .int .i64 n] 40) = WX at *
          have hbW := hb.trans (hbx.mono hb.size)
          clear hbx
          generalize wr.heap.size = xb at *
          clear h0 h1 h2 hO
          go_loopw [32] (fun i vr => ∃ j : Int, 0 ≤ j ∧ s + j ≤ n ∧ i = .int .i64 (j) ∧ Opens vr w1.heap.size 48 (part l k s j) ∧ Below w1.heap.size w1 vr ∧ vr.cell? ⟨xb, 1, none⟩ = some (.int .i64 s) ∧ vr.cell? ⟨xb, 2, none⟩ = some (.int .i64 n))
            (fun i _ => (n - (intOf i)).toNat)
          case atStart => exact ⟨0, Int.le_refl _, by omega, rfl, hOx, hbW, x1, x2⟩
          case round =>
            obtain ⟨j, hj0, hj1, rfl, hP, hbv, y1, y2⟩ := hrel
            by_cases hjl : s + j < n
            · have j1 : (0 : Int) ≤ s + j := by omega
              have j2 : s + j < 2000 := by omega
              have hcell := hP.at j1 j2
              have hfr := World.rowIs.frozen hP (s + j).toNat
              have hbd := part_bound l k s j (s + j).toNat h60
              have hst := Lib.hid (hP.step (by omega) hj0)
              have hne : xb ≠ w1.heap.size := by omega
              have HBS := Lib.hid (hbv.setCell (p := ⟨w1.heap.size, (s + j).toNat, none⟩) (Nat.le_refl _) (.int .i64 (part l k s j (s + j).toNat + 1)))
              generalize part l k s j (s + j).toNat = q at *
              clear hP
              go_wp2
              go_roundw
              case rel =>
                refine ⟨j + 1, by omega, by omega, by first | go_num | (congr 1; omega), hst.out, HBS.out, ?_, ?_⟩
                · rw [World.cell?_setCell_far _ _ _ _ (by simp; omega)]; exact y1
                · rw [World.cell?_setCell_far _ _ _ _ (by simp; omega)]; exact y2
              case measure => simp [intOf]; omega
            · obtain rfl : n = s + j := by omega
              go_wp2
              go_roundw
              case rel => exact ⟨k + 1, by omega, by go_num, hP.congr fun i => part_end l k _ j i HX.out rfl, hbv⟩
              case measure => simp [intOf]; omega
        · obtain rfl : k = l.length := by omega
          rw [List.take_length] at hO
          have hrd := readN hO
          go_wp2_with (refine wpList_loadN rfl 48 (.tmp 6) rfl ⟨w1.heap.size, 0, none⟩ rfl _ hrd ?_)
          go_loopw [10, 46] (fun a i vr => ∃ j : Nat, j ≤ 2000 ∧ i = .int .i64 j ∧ a = .int .i64 (crowdN l m j) ∧ vr = wr)
            (fun _ i _ => 2000 - (intOf i).toNat)
          case atStart => exact ⟨0, Nat.zero_le _, rfl, rfl, rfl⟩
          case round =>
            obtain ⟨j, hj, rfl, rfl, rfl⟩ := hrel
            by_cases hjl : j < 2000
            · have j1 : (0 : Int) ≤ (j : Int) := by omega
              have j2 : (j : Int) < 2000 := by omega
              have hs := Lib.hid (crowdN_succ l m j)
              have hbd := crowdN_bound l m j
              have hcb := cnt_bound l j
              have hix := fun W => index_N l j hjl W
              generalize crowdN l m j = q at *
              by_cases hm : m < cnt l j
              · go_wp2
                go_roundw
                case rel => exact ⟨j + 1, by omega, by go_num, (by rw [hs.out, if_pos hm] <;> go_num), by first | rfl | trivial⟩
                case measure => simp [intOf]; omega
              · go_wp2
                go_roundw
                case rel => exact ⟨j + 1, by omega, by go_num, (by rw [hs.out, if_neg hm, Int.add_zero]), by first | rfl | trivial⟩
                case measure => simp [intOf]; omega
            · obtain rfl : j = 2000 := by omega
              go_wp2
              go_ret2
              exact ⟨by simp [HR.out], hb1.trans (hb.mono hb1.size)⟩

/-- Both sides of CrowdedSteps. -/
theorem crowdedSteps_both (l : List Nt) (m : Int) (hbig : l.length ≤ 1048576) : ∃ (va : Int) (vb : Bool),
    Hid (∀ (A : Nat) (c : Nat) (W : World), l.length ≤ c → c ≤ 9223372036854775807 → RA W (some ⟨A, 0, none⟩) l → Calls Try.prog 17 #[.slice (some ⟨A, 0, none⟩) l.length c, .int .i64 m] W fun e W' => e = .returned (.tuple #[.int .i64 va, .bool vb]) ∧ Below W.heap.size W W') ∧
    Hid (∀ (A : Nat) (c : Nat) (W : World), l.length ≤ c → c ≤ 9223372036854775807 → RA W (some ⟨A, 0, none⟩) l → Calls Try.prog 18 #[.slice (some ⟨A, 0, none⟩) l.length c, .int .i64 m] W fun e W' => e = .returned (.tuple #[.int .i64 va, .bool vb]) ∧ Below W.heap.size W W') :=
  ⟨if (goodB l && inR m 0 20) = true then crowdN l m 2000 else 0, goodB l && inR m 0 20,
    Lib.hid fun A c W h1 h2 hA => specCrowd_any _ l c m W hbig h1 h2 hA, Lib.hid fun A c W h1 h2 hA => implCrowd_any _ l c m W hbig h1 h2 hA⟩
end Go.Proofs.Ytkfgmkgbicahgaa
