/- Lost notes: the model's sum and the program's array. -/
import Derived.Test.YtbdffmacpajebaaDoorTrP
import Derived.Test.YtbdffmacpajebaaDoorInsG
import Derived.Test.YtbdffmacpajebaaDoorInsF
import Derived.Test.YtbdffmacpajebaaDoorMiss
import Derived.Deep.OwnRows
import Derived.Deep.WholeRow
import Derived.Laws.CopyOwn
namespace Go.Proofs.YtbdffmacpajebaaDoor
open Go.RowKit
set_option linter.unusedVariables false
set_option linter.unusedSimpArgs false

theorem lostB_trk (l : List Int) (b : Int) (x : Nt) : lostB l b x = decide (trk (x.1 + b) l < 0) := by
  unfold lostB
  rw [hasB_trk]
  by_cases h : 0 ≤ trk (x.1 + b) l
  · simp [h]
  · simp [h]; omega

set_option maxRecDepth 100000 in
set_option maxHeartbeats 2000000 in
theorem trLoss_any (A : Option Addr) (l : List Int) (c : Nat) (r : Int) (M : Option Addr) (m : List Nt) (d : Nat) (b : Int) (w : World) (hn : l.length ≤ 1048576) (hA : RI w A l) (hM : RA w M m) (hg : Good m) (hb1 : -100 ≤ b) (hb2 : b ≤ 100) :
    Calls Tryd.prog 43 #[.agg #[.slice A l.length c, .int .i64 r], .slice M m.length d, .int .i64 b] w fun e w' => e = .returned (.int .i64 (lossI l m b)) ∧ Below w.heap.size w w' := by
  have h30 := hg.2
  have hb0 : Below w.heap.size w (w.alloc (.cells #[.slice A l.length c, .int .i64 r] 28)) := (Below.refl w.heap.size w).alloc (Nat.le_refl _) _
  obtain ⟨x0, x1, hz⟩ := Box.new w A l.length c r 28
  have hA := hA.below hb0
  have hM := hM.below hb0
  go_enter Tryd.func43, Tryd.ntmps43
  go_wp2_with fail
  generalize w.alloc (.cells #[.slice A l.length c, .int .i64 r] 28) = W at *
  go_loopw [7, 12] (fun a i wr => ∃ k : Nat, k ≤ m.length ∧ i = .int .i64 k ∧ a = .int .i64 (lossI l (m.take k) b) ∧ Below W.heap.size W wr)
    (fun _ i _ => m.length - (intOf i).toNat)
  case atStart => exact ⟨0, Nat.zero_le _, rfl, rfl, Below.refl _ _⟩
  case round =>
    obtain ⟨k, hk, rfl, rfl, hb⟩ := hrel
    by_cases hlt : k < m.length
    · have hx : m[k]? = some m[k] := List.getElem?_eq_getElem hlt
      generalize m[k] = x at hx
      have hs := lossI_snoc l m b k x hx
      rw [lostB_trk] at hs
      have hv := (noteN_iff x).1 (hg.1 k x hlt hx).1
      have hbd := lossI_take l m b k h30
      obtain ⟨p, s, n⟩ := x
      simp only at hs hv
      obtain ⟨g, o, rfl, hgb, h0, h1, h2⟩ := (hM.below hb) k _ hx
      simp only at h0 h1 h2
      have i1 : (0 : Int) ≤ (k : Int) := by omega
      have i2 : (k : Int) < (m.length : Int) := by omega
      have HS := Lib.hid hs
      clear hs hx
      generalize lossI l (m.take k) b = q at *
      have y0 := (hb.cell (p := ⟨w.heap.size, 0, none⟩) hz).trans x0
      have y1 := (hb.cell (p := ⟨w.heap.size, 1, none⟩) hz).trans x1
      have hzr : w.heap.size < wr.heap.size := Nat.lt_of_lt_of_le hz hb.size
      have hnb : Below wr.heap.size wr (wr.alloc (.cells #[.int .i64 p, .int .i64 s, .int .i64 n] 58)) := (Below.refl _ _).alloc (Nat.le_refl _) _
      have hAr := (hA.below hb).below hnb
      have p0 : (wr.alloc (.cells #[.int .i64 p, .int .i64 s, .int .i64 n] 58)).cell? ⟨wr.heap.size, 0, none⟩ = some (.int .i64 p) := by rw [World.cell?_alloc_new]; rfl
      go_wp2_with fail
      generalize wr.alloc (.cells #[.int .i64 p, .int .i64 s, .int .i64 n] 58) = W1 at *
      refine (inTrack_any _ _ _ _ _ _ hn hAr).mono ?_
      rintro e w2 ⟨rfl, hb2⟩
      have hb12 := hnb.trans (hb2.mono hnb.size)
      clear y0 y1 h0 h1 h2 hAr p0
      by_cases ht : trk (p + b) l < 0
      · go_wp2
        go_roundw
        case rel => exact ⟨k + 1, by omega, by go_num, (by rw [HS.out, if_pos (by simp [ht])] <;> go_num), hb.trans (hb12.mono hb.size)⟩
        case measure => simp [intOf]; omega
      · go_wp2
        go_roundw
        case rel => exact ⟨k + 1, by omega, by go_num, (by rw [HS.out, if_neg (by simp [ht]), Int.add_zero]), hb.trans (hb12.mono hb.size)⟩
        case measure => simp [intOf]; omega
    · obtain rfl : k = m.length := by omega
      rw [List.take_length]
      go_wp2
      go_ret
      exact ⟨rfl, hb0.trans (hb.mono hb0.size)⟩

/-- An array of bools as one value. -/
def boolV (f : Nat → Bool) : Array Value := ((List.range 30).map fun j => Value.bool (f j)).toArray
theorem boolV_size (f : Nat → Bool) : (boolV f).size = 30 := by simp [boolV]
theorem boolV_get (f : Nat → Bool) (j : Nat) (hj : j < 30) : (boolV f)[j]? = some (.bool (f j)) := by
  unfold boolV
  simp [hj]
theorem boolV_zero : boolV (fun _ => false) = Array.mk (List.replicate 30 (.bool false)) := by rfl
theorem boolV_cells (f : Nat → Bool) : (boolV f).all (·.oneCell') = true := by
  rw [Array.all_eq_true_iff_forall_mem]
  intro x hx
  simp only [boolV, List.mem_toArray, List.mem_map] at hx
  obtain ⟨j, _, rfl⟩ := hx
  rfl
theorem info30 : (Tryd.prog.info? 65).map (fun i => (i.zero, i.size)) = some (some (.agg (boolV fun _ => false)), 30) := by rw [boolV_zero]; kernel_rfl
/-- A row of thirty bools. -/
def Bools (w : World) (g : Nat) (f : Nat → Bool) : Prop := w.rowIs g 65 30 (fun j => .bool (f j))
theorem Bools.congr {w : World} {g : Nat} {f f' : Nat → Bool} (h : Bools w g f) (e : ∀ j, f j = f' j) : Bools w g f' := by
  have : f = f' := funext e
  rw [← this]; exact h
theorem Bools.new (w : World) (f : Nat → Bool) : Bools (w.alloc (.cells (boolV f) 65)) w.heap.size f := by
  have h := World.rowIs_alloc w (boolV f) 65 (fun j => .bool (f j)) (fun i hi => boolV_get f i (by rw [boolV_size] at hi; exact hi))
  rw [boolV_size] at h
  exact h
theorem Bools.below {w w' : World} {B g : Nat} {f : Nat → Bool} (h : Bools w g f) (hb : Below B w w') (hB : g < B) : Bools w' g f := World.rowIs.of_block h (hb.block g hB)
theorem Bools.lt {w : World} {g : Nat} {f : Nat → Bool} (h : Bools w g f) : g < w.heap.size := World.rowIs.lt h
theorem Bools.set {w : World} {g k : Nat} {f f' : Nat → Bool} {b : Bool} (h : Bools w g f) (hk : k < 30) (e : ∀ j, f' j = if j = k then b else f j) : Bools (w.setCell ⟨g, k, none⟩ (.bool b)) g f' := by
  refine (World.rowIs.set h k _).congr fun j hj => ?_
  rw [e j]
  by_cases ej : j = k
  · rw [if_pos ej, if_pos ej]
  · rw [if_neg ej, if_neg ej]
theorem isAgg30 (w : World) : (isAgg 65).run Tryd.prog w = .ok true w := by simp [isAgg, go_sem, run_underlying Tryd.underlying65]
theorem size30 (w : World) : (Go.sizeOf 65).run Tryd.prog w = .ok 30 w := by
  have := (zero_of_info info30).2
  cases hq : Tryd.prog.info? 65 with
  | none => simp [hq] at this
  | some i => simp [hq] at this; simp [Go.sizeOf, typeInfo, hq, this]
theorem Bools.read {w : World} {g : Nat} {f : Nat → Bool} (h : Bools w g f) : (loadVar 65 ⟨g, 0, none⟩).run Tryd.prog w = .ok (.agg (boolV f)) w := by
  have hc := run_loadCells (P := Tryd.prog) w ⟨g, 0, none⟩ 30 (fun j => .bool (f j)) (fun j hj => by
    have hadd : (⟨g, 0, none⟩ : Addr).add j = ⟨g, j, none⟩ := by unfold Addr.add; split <;> simp_all
    rw [hadd]; exact World.rowIs.cell h hj)
  simp only [loadVar, Sem.run_bind, isAgg30, Result.andThen, if_true, size30, hc, Sem.run_pure]
  rfl
theorem Bools.store {w : World} {g : Nat} {f0 : Nat → Bool} (h : Bools w g f0) (f : Nat → Bool) : ∃ w', (storeVar 65 ⟨g, 0, none⟩ (.agg (boolV f))).run Tryd.prog w = .ok () w' ∧ Bools w' g f ∧ ∀ B, B ≤ g → Below B w w' := by
  obtain ⟨c, hb, hs, hc⟩ := h
  refine ⟨_, run_storeVar_row w g _ 65 c (boolV f) hb (by rw [boolV_size]; exact (zero_of_info info30).2) (by rw [hs, boolV_size]) (boolV_cells f), ?_, fun B hB => below_setRow (Below.refl B w) hB _⟩
  exact ⟨boolV f, setRow_heap w g c _ _ _ hb, boolV_size f, fun i hi => boolV_get f i hi⟩

theorem wpList_load30 {P : Program} {ops : Array Oper} {rest : List Oper} {o : Oper} {a : Act} {w : World} {Q : Exit → Act → World → Prop} (hgd : o.guard = none) (ty : TypeId) (x : Operand) (ho : o.op = .load ty x)
    (ad : Addr) (hx : a.eval x = .pointer (some ad)) (v : Value) (hl : (loadVar ty ad).run P w = .ok v w) (h : wpList P ops Q rest (a.put o.dst v) w) : wpList P ops Q (o :: rest) a w :=
  wpList_plain hgd fun _ hK => by
    unfold Oper.wp execOp
    simp only [ho, hx, Instr.loadAt, Instr.sureAddr, Sem.run_bind, Sem.run_pure, Result.andThen_ok, hl]
    exact hK _ _ h
theorem wpList_store30 {P : Program} {ops : Array Oper} {rest : List Oper} {o : Oper} {a : Act} {w w' : World} {Q : Exit → Act → World → Prop} (hgd : o.guard = none) (ty : TypeId) (x y : Operand) (ho : o.op = .store ty x y)
    (ad : Addr) (hx : a.eval x = .pointer (some ad)) (v : Value) (hy : a.eval y = v) (hl : (storeVar ty ad v).run P w = .ok () w') (h : wpList P ops Q rest (a.put o.dst undef) w') : wpList P ops Q (o :: rest) a w :=
  wpList_plain hgd fun _ hK => by
    unfold Oper.wp execOp
    simp only [ho, hx, hy, Instr.storeAt, Instr.sureAddr, Sem.run_bind, Sem.run_pure, Result.andThen_ok, hl]
    exact hK _ _ h

/-- What a function with one result, in a cell, has returned. -/
theorem res_cell {P : Program} {w : World} {fn : Func} {tmps : Array Value} {a t : Nat} {ad : Addr} {v : Value} (h : fn.results = #[.cell a t]) (ht : tmps.getD a undef = .pointer (some ad))
    (hl : (loadVar t ad).run P w = .ok v w) : (results fn tmps).run P w = .ok v w := by
  rw [Array.getD_eq_getD_getElem?] at ht
  unfold results
  rw [h]
  simp [ht, asAddr, Sem.run_bind, Sem.run_pure, hl]

set_option maxRecDepth 100000 in
set_option maxHeartbeats 4000000 in
theorem lostWith_any (A : Option Addr) (l : List Int) (c : Nat) (r : Int) (M : Option Addr) (m : List Nt) (d : Nat) (b : Int) (w : World) (hn : l.length ≤ 1048576) (hA : RI w A l) (hM : RA w M m) (hg : Good m) (hb1 : -100 ≤ b) (hb2 : b ≤ 100) :
    Calls Tryd.prog 49 #[.agg #[.slice A l.length c, .int .i64 r], .slice M m.length d, .int .i64 b] w fun e w' => e = .returned (.agg (boolV (lostL l m b))) ∧ Below w.heap.size w w' := by
  have h30 := hg.2
  have hzv := (zero_of_info info30).1
  have hb0 : Below w.heap.size w (w.alloc (.cells #[.slice A l.length c, .int .i64 r] 28)) := (Below.refl w.heap.size w).alloc (Nat.le_refl _) _
  obtain ⟨x0, x1, hz⟩ := Box.new w A l.length c r 28
  have hs0 : (w.alloc (.cells #[.slice A l.length c, .int .i64 r] 28)).heap.size = w.heap.size + 1 := by simp
  go_enter Tryd.func49, Tryd.ntmps49
  go_wp2_with fail
  clear hzv
  generalize w.alloc (.cells #[.slice A l.length c, .int .i64 r] 28) = V0 at *
  have B6 := Bools.new V0 (fun _ => false)
  have hb1' : Below V0.heap.size V0 (V0.alloc (.cells (boolV fun _ => false) 65)) := (Below.refl _ _).alloc (Nat.le_refl _) _
  have hs1 : (V0.alloc (.cells (boolV fun _ => false) 65)).heap.size = w.heap.size + 1 + 1 := by simp [hs0]
  generalize V0.alloc (.cells (boolV fun _ => false) 65) = V1 at *
  have B7 := Bools.new V1 (fun _ => false)
  have hb2' : Below V1.heap.size V1 (V1.alloc (.cells (boolV fun _ => false) 65)) := (Below.refl _ _).alloc (Nat.le_refl _) _
  generalize V1.alloc (.cells (boolV fun _ => false) 65) = V2 at *
  have hb02 : Below (w.heap.size + 1) V0 V2 := by
    have h1 := hb1'.trans (hb2'.mono hb1'.size)
    rw [hs0] at h1
    exact h1
  have hbW : Below w.heap.size w V2 := hb0.trans (hb02.mono (by omega))
  have z0 := (hb02.cell (p := ⟨w.heap.size, 0, none⟩) (by show w.heap.size < w.heap.size + 1; omega)).trans x0
  have z1 := (hb02.cell (p := ⟨w.heap.size, 1, none⟩) (by show w.heap.size < w.heap.size + 1; omega)).trans x1
  have B6 := B6.below hb2' (by have := B6.lt; exact this)
  rw [hs0] at B6
  rw [hs1] at B7
  clear x0 x1 hb1' hb2' hb0 hb02 hz hs0 hs1
  have hz2 : w.heap.size + 1 + 1 < V2.heap.size := B7.lt
  go_loopw [12] (fun i wr => ∃ k : Nat, k ≤ m.length ∧ i = .int .i64 k ∧ Bools wr (w.heap.size + 1 + 1) (lostF l m b k) ∧ Bools wr (w.heap.size + 1) (fun _ => false) ∧ Below (w.heap.size + 1) V2 wr)
    (fun i _ => m.length - (intOf i).toNat)
  case atStart => exact ⟨0, Nat.zero_le _, rfl, B7.congr fun j => (lostF_zero l m b j).symm, B6, Below.refl _ _⟩
  case round =>
    obtain ⟨k, hk, rfl, hB7, hB6, hb⟩ := hrel
    have hbw : Below w.heap.size w wr := hbW.trans (hb.mono (by omega))
    have hAr := hA.below hbw
    have y0 := (hb.cell (p := ⟨w.heap.size, 0, none⟩) (by show w.heap.size < w.heap.size + 1; omega)).trans z0
    have y1 := (hb.cell (p := ⟨w.heap.size, 1, none⟩) (by show w.heap.size < w.heap.size + 1; omega)).trans z1
    by_cases hlt : k < m.length
    · have hx : m[k]? = some m[k] := List.getElem?_eq_getElem hlt
      generalize m[k] = x at hx
      have HS := Lib.hid (fun j => lostF_step l m b k j x hx)
      have hv := (noteN_iff x).1 (hg.1 k x hlt hx).1
      obtain ⟨p, s, n⟩ := x
      simp only at hv
      obtain ⟨g, o, rfl, hgb, h0, h1, h2⟩ := (hM.below hbw) k _ hx
      simp only at h0 h1 h2
      have i1 : (0 : Int) ≤ (k : Int) := by omega
      have i2 : (k : Int) < (m.length : Int) := by omega
      have i3 : (k : Int) < 30 := by omega
      have hk30 : k < 30 := by omega
      clear hx
      have hzr : w.heap.size + 1 + 1 < wr.heap.size := hB7.lt
      have hzq : w.heap.size < wr.heap.size := by omega
      have hnb : Below wr.heap.size wr (wr.alloc (.cells #[.int .i64 p, .int .i64 s, .int .i64 n] 58)) := (Below.refl _ _).alloc (Nat.le_refl _) _
      have hAr := hAr.below hnb
      have p0 : (wr.alloc (.cells #[.int .i64 p, .int .i64 s, .int .i64 n] 58)).cell? ⟨wr.heap.size, 0, none⟩ = some (.int .i64 p) := by rw [World.cell?_alloc_new]; rfl
      go_wp2_with fail
      generalize wr.alloc (.cells #[.int .i64 p, .int .i64 s, .int .i64 n] 58) = W1 at *
      refine (hasPitch_any _ _ _ _ _ _ hn hAr).mono ?_
      rintro e w2 ⟨rfl, hb2⟩
      have hb12 := hnb.trans (hb2.mono hnb.size)
      have B7 := hB7.below hb12 hzr
      have B6 := hB6.below hb12 (by omega)
      have hcell := World.rowIs.cell B7 hk30
      have hfr := World.rowIs.frozen B7 k
      clear y0 y1 h0 h1 h2 hAr p0 hB7 hB6
      have HB7 := Lib.hid (B7.set (b := !hasB l (p + b)) (f' := lostF l m b (k + 1)) hk30 (fun j => by rw [HS.out j]; rfl))
      have HB6 := Lib.hid (World.rowIs.setOther B6 (a := ⟨w.heap.size + 1 + 1, k, none⟩) (by show w.heap.size + 1 ≠ w.heap.size + 1 + 1; omega) (.bool (!hasB l (p + b))))
      have HB := Lib.hid ((hb.trans (hb12.mono (by omega))).setCell (p := ⟨w.heap.size + 1 + 1, k, none⟩) (by show w.heap.size + 1 ≤ w.heap.size + 1 + 1; omega) (.bool (!hasB l (p + b))))
      clear B7 B6
      go_wp2_with fail
      go_roundw
      case rel => exact ⟨k + 1, by omega, by go_num, HB7.out, HB6.out, HB.out⟩
      case measure => simp [intOf]; omega
    · obtain rfl : k = m.length := by omega
      have hrd := hB7.read
      obtain ⟨w', hst, hB6', hbl⟩ := hB6.store (lostL l m b)
      have hrd' := hB6'.read
      have hbe : Below w.heap.size w w' := hbw.trans (hbl _ (by omega))
      clear hB7 hB6 hB6' hbl y0 y1
      go_wp2_with (first
        | (refine wpList_load30 rfl 65 (.tmp 7) rfl ⟨w.heap.size + 1 + 1, 0, none⟩ rfl _ hrd ?_)
        | (refine wpList_store30 rfl 65 (.tmp 6) (.tmp 27) rfl ⟨w.heap.size + 1, 0, none⟩ rfl _ rfl hst ?_))
      refine bodyPost_ret (v := .agg (boolV (lostL l m b))) (res_cell Tryd.results49 rfl hrd') rfl ⟨rfl, hbe⟩

theorem index_30 (f : Nat → Bool) (k : Nat) (hk : k < 30) (w : World) :
    (Instr.index 65 (.agg (boolV f)) (.int .i64 (k : Int))).run Tryd.prog w = .ok (.bool (f k)) w := by
  have hz : ∀ w, (Go.sizeOf 4).run Tryd.prog w = .ok 1 w := Tryd.sizeOf4
  have ha : ∀ w, (isAgg 4).run Tryd.prog w = .ok false w := Tryd.isAgg4
  have h := boolV_get f k hk
  simp [Instr.index, go_sem, run_underlying Tryd.underlying65, asIntOf, h, hz, part, ha]
  intro h'
  omega

set_option maxRecDepth 100000 in
set_option maxHeartbeats 2000000 in
theorem countLost_any (f : Nat → Bool) (w : World) :
    Calls Tryd.prog 48 #[.agg (boolV f)] w fun e w' => e = .returned (.int .i64 (trueN f 30)) ∧ Below w.heap.size w w' := by
  have hb0 : Below w.heap.size w (w.alloc (.cells (boolV f) 65)) := (Below.refl w.heap.size w).alloc (Nat.le_refl _) _
  have hrd := (Bools.new w f).read
  go_enter Tryd.func48, Tryd.ntmps48
  go_wp2_with (refine wpList_load30 rfl 65 (.tmp 1) rfl ⟨w.heap.size, 0, none⟩ rfl _ hrd ?_)
  clear hrd
  generalize w.alloc (.cells (boolV f) 65) = W at *
  go_loopw [3, 7] (fun a i vr => ∃ j : Nat, j ≤ 30 ∧ i = .int .i64 j ∧ a = .int .i64 (trueN f j) ∧ vr = W)
    (fun _ i _ => 30 - (intOf i).toNat)
  case atStart => exact ⟨0, Nat.zero_le _, rfl, rfl, rfl⟩
  case round =>
    obtain ⟨j, hj, rfl, rfl, rfl⟩ := hrel
    by_cases hjl : j < 30
    · have j1 : (0 : Int) ≤ (j : Int) := by omega
      have j2 : (j : Int) < 30 := by omega
      have hs := Lib.hid (trueN_succ f j)
      have hbd := trueN_bound f j
      have hix := fun W => index_30 f j hjl W
      generalize trueN f j = q at *
      cases hm : f j with
      | true =>
        rw [hm] at hix
        go_wp2
        go_roundw
        case rel => exact ⟨j + 1, by omega, by go_num, (by rw [hs.out, hm, if_pos rfl] <;> go_num), by first | rfl | trivial⟩
        case measure => simp [intOf]; omega
      | false =>
        rw [hm] at hix
        go_wp2
        go_roundw
        case rel => exact ⟨j + 1, by omega, by go_num, (by rw [hs.out, hm, if_neg (by simp), Int.add_zero]), by first | rfl | trivial⟩
        case measure => simp [intOf]; omega
    · obtain rfl : j = 30 := by omega
      go_wp2
      go_ret
      exact ⟨rfl, hb0⟩
end Go.Proofs.YtbdffmacpajebaaDoor
