/- Texts of the proof, run together: HHoleSlc, HIsScore, HMark, InsF, SrtC, Common. -/
import Derived.Test.YtkfgmkgbicahgaaDoorM3q
import Derived.Test.YtkfgmkgbicahgaaDoorM1q
import Derived.LoopTactic
import Derived.Maps.AppendAt
import Derived.Lib.QuietBelow
import Derived.Deep.OwnRows
import Derived.Deep.RegionHeld3
import Derived.Handy
import Derived.Sort.OwnSortedInts
namespace Go.Proofs.YtkfgmkgbicahgaaDoor.H
open Go.RowKit
set_option linter.unusedVariables false

theorem Tryd.info_Hole : (Tryd.prog.info? 29).map (fun i => (i.zero, i.size, i.bytes)) = some (some (.agg #[.int .i64 0, .int .i64 0, .int .i64 0]), 3, 24) := by kernel_rfl

theorem make_Hole (n : Nat) (hn : n ≤ 1048576) (W : World) :
    (Instr.makeSlice 47 (.int .i64 (n : Int)) (.int .i64 (n : Int))).run Tryd.prog W = .ok (.slice (some ⟨W.heap.size, 0, none⟩) n n) (W.alloc (.cells (madeCells #[.int .i64 0, .int .i64 0, .int .i64 0] (n * 3)) 29)) := by
  obtain ⟨i, hi, hz, hs, hb⟩ := info_parts Tryd.info_Hole
  have h := run_make (P := Tryd.prog) W 47 29 i _ Tryd.underlying47 hi hz .i64 .i64 (n : Int) (n : Int) (by omega) (by omega) (by rw [hb]; omega) (by omega)
  rw [hs] at h
  simp only [Int.toNat_natCast] at h
  exact h

set_option maxHeartbeats 400000 in
theorem szHoleS_any (A : Option Addr) (n c : Nat) (left : Int) (w : World) (hn : n ≤ 9223372036854775807) (h0 : 0 ≤ left) (h1 : left ≤ 1048576) :
    Calls Tryd.prog 30 #[.slice A n c, .int .i64 left] w fun e w' => e = .returned (.int .i64 (if left - n < 0 then -1 else left - n)) ∧ w = w' := by
  by_cases h : left - n < 0
  all_goals
    go_enter Tryd.func30, Tryd.ntmps30
    go_wp2
    go_ret
    exact ⟨ret_int (by simp), rfl⟩

set_option maxHeartbeats 1000000 in
theorem toHoleS_any (A : Option Addr) (l : List Nt) (c : Nat) (w : World) (hn : l.length ≤ 1048576) (hA : RA w A l) :
    Calls Tryd.prog 32 #[.slice A l.length c] w fun e w' => e = .returned (.slice (some ⟨w.heap.size, 0, none⟩) l.length l.length) ∧
      Own w' w.heap.size 29 (.slice (some ⟨w.heap.size, 0, none⟩) l.length l.length) l ∧ Below w.heap.size w w' := by
  have hmk := make_Hole l.length hn
  go_enter Tryd.func32, Tryd.ntmps32
  go_wp2
  go_loopw [4] (fun i wr => ∃ k : Nat, k ≤ l.length ∧ i = .int .i64 k ∧ Own wr w.heap.size 29 (.slice (some ⟨w.heap.size, 0, none⟩) l.length l.length) (l.take k ++ (List.replicate l.length (0, 0, 0)).drop k) ∧ Below w.heap.size w wr)
    (fun i _ => l.length - (intOf i).toNat)
  case atStart =>
    refine ⟨0, Nat.zero_le _, rfl, ?_, (Below.refl _ _).alloc (Nat.le_refl _) _⟩
    have h := World.ownsRow_lit (base := w.heap.size) (e := 29) (size := 3) w (madeCells #[.int .i64 0, .int .i64 0, .int .i64 0] (l.length * 3)) l.length (Nat.le_refl _) (by unfold maxLen; omega) (size_madeCells _ _)
    rw [made_cl] at h
    simpa [Own] using h
  case round =>
    obtain ⟨k, hk, rfl, hown, hb⟩ := hrel
    by_cases hlt : k < l.length
    · have hx : l[k]? = some l[k] := List.getElem?_eq_getElem hlt
      generalize l[k] = x at hx
      obtain ⟨p, s, t⟩ := x
      obtain ⟨g, o, rfl, hg, h0, h1, h2⟩ := (hA.below hb) k _ hx
      simp only at h0 h1 h2
      go_wp2_with fail
      refine (toHole_any _ _ _ _).mono ?_
      rintro e w1 ⟨rfl, hb1⟩
      have hown1 := hown.below hb1 (Nat.le_refl _)
      have hz1 : w.heap.size < w1.heap.size := (hown1.lt _ rfl).2
      have hL : (l.take k ++ (List.replicate l.length ((0, 0, 0) : Nt)).drop k).length = l.length := by simp; omega
      have hs : (List.replicate l.length ((0, 0, 0) : Nt))[k]? = some (0, 0, 0) := by rw [List.getElem?_replicate, if_pos hlt]
      unfold Own at hown1
      rw [hL] at hown1
      have f := fun j => hown1.frozenAt j
      have c0 : ∃ u, w1.cell? ⟨w.heap.size, k * 3, none⟩ = some u := by rw [hown1.cellAt _ (by omega)]; exact ⟨_, List.getElem?_eq_getElem (by rw [cl_length, hL]; omega)⟩
      have c1 : ∃ u, w1.cell? ⟨w.heap.size, k * 3 + 1, none⟩ = some u := by rw [hown1.cellAt _ (by omega)]; exact ⟨_, List.getElem?_eq_getElem (by rw [cl_length, hL]; omega)⟩
      have c2 : ∃ u, w1.cell? ⟨w.heap.size, k * 3 + 2, none⟩ = some u := by rw [hown1.cellAt _ (by omega)]; exact ⟨_, List.getElem?_eq_getElem (by rw [cl_length, hL]; omega)⟩
      obtain ⟨u0, c0⟩ := c0
      obtain ⟨u1, c1⟩ := c1
      obtain ⟨u2, c2⟩ := c2
      have f0 := f (k * 3)
      have f1 := f (k * 3 + 1)
      have f2 := f (k * 3 + 2)
      have H := Lib.hid hown1
      have HL := Lib.hid hL
      have HX := Lib.hid hx
      clear f hown1 hL hx hs hA hown
      go_wp2
      go_roundw
      case rel =>
        refine ⟨k + 1, by omega, by go_num, ?_, ((((hb.trans (hb1.mono hb.size)).setCell (by simp) _).setCell (by simp) _).setCell (by simp) _)⟩
        have k2 := (((H.out.stored (k * 3) (.int .i64 p)).1.stored (k * 3 + 1) (.int .i64 s)).1.stored (k * 3 + 2) (.int .i64 t)).1
        rw [cl_set _ _ (p, s, t) (by rw [HL.out]; exact hlt), take_set l _ k _ HX.out (by simpa using hlt)] at k2
        unfold Own
        have hL' : (l.take (k + 1) ++ (List.replicate l.length ((0, 0, 0) : Nt)).drop (k + 1)).length = l.length := by simp; omega
        rw [hL']
        exact k2
      case measure => simp [intOf]; omega
    · obtain rfl : k = l.length := by omega
      go_wp2
      go_ret
      exact ⟨rfl, by simpa using hown, hb⟩

set_option maxRecDepth 100000 in
set_option maxHeartbeats 1000000 in
theorem eqHoleS_any (A B : Option Addr) (l m : List Nt) (c d : Nat) (w : World) (hl : l.length ≤ 9223372036854775807) (hm : m.length ≤ 9223372036854775807) (hA : RA w A l) (hB : RA w B m) :
    Calls Tryd.prog 24 #[.slice A l.length c, .slice B m.length d] w fun e w' => e = .returned (.bool (decide (l = m))) ∧ Below w.heap.size w w' := by
  by_cases hlen : l.length = m.length
  · go_enter Tryd.func24, Tryd.ntmps24
    have hne : ((l.length : Int) != (m.length : Int)) = false := by simp [hlen]
    have HLEN := Lib.hid hlen
    clear hlen
    go_wp2
    go_loopw [5] (fun i wr => ∃ k : Nat, k ≤ l.length ∧ i = .int .i64 k ∧ l.take k = m.take k ∧ Below w.heap.size w wr)
      (fun i _ => l.length - (intOf i).toNat)
    case atStart => exact ⟨0, Nat.zero_le _, rfl, by simp, Below.refl _ _⟩
    case round =>
      obtain ⟨k, hk, rfl, htake, hb⟩ := hrel
      have HT := Lib.hid htake
      clear htake
      by_cases hlt : k < l.length
      · have hlt' : k < m.length := by have := HLEN.out; omega
        have hx : l[k]? = some l[k] := List.getElem?_eq_getElem hlt
        have hy : m[k]? = some m[k] := List.getElem?_eq_getElem hlt'
        generalize l[k] = x at hx
        generalize m[k] = y at hy
        obtain ⟨p, s, t⟩ := x
        obtain ⟨p', s', t'⟩ := y
        obtain ⟨g, o, rfl, hg, h0, h1, h2⟩ := (hA.below hb) k _ hx
        obtain ⟨g', o', rfl, hg', h0', h1', h2'⟩ := (hB.below hb) k _ hy
        simp only at h0 h1 h2 h0' h1' h2'
        have i1 : (0 : Int) ≤ (k : Int) := by omega
        have i2 : (k : Int) < (l.length : Int) := by omega
        have i3 : (k : Int) < (m.length : Int) := by omega
        have HX := Lib.hid hx
        have HY := Lib.hid hy
        clear hx hy hA hB
        go_wp2_with fail
        refine wp_region_still_tail 8 (by kernel_rfl) (by kernel_rfl) ?_
        change wpStill _ _ (World.drew _) (fun a' => wpList _ _ _ _ a' (World.drew _)) _ _
        simp only [List.take_succ_cons, List.take_zero, List.drop_succ_cons, List.drop_zero]
        repeat still_step
        try refine wpStill_nil ?_
        by_cases he : eqBHole p s t p' s' t' = true
        · go_wp2_with (go_at_call 14; refine (eqHole_any _ _ _ _ _ _ _).mono ?_; rintro e w1 ⟨rfl, hb1⟩)
          go_roundw
          case rel =>
            refine ⟨k + 1, by omega, by go_num, ?_, hb.drew.trans (hb1.mono hb.size)⟩
            rw [List.take_add_one, List.take_add_one, HT.out, HX.out, HY.out]
            simp [eqBHole] at he
            obtain ⟨rfl, rfl, rfl⟩ := he
            rfl
          case measure => simp [intOf]; omega
        · go_wp2_with (go_at_call 14; refine (eqHole_any _ _ _ _ _ _ _).mono ?_; rintro e w1 ⟨rfl, hb1⟩)
          go_ret
          refine ⟨ret_bool ?_, hb.drew.trans (hb1.mono hb.size)⟩
          have : l ≠ m := by
            rintro rfl
            have := HX.out.symm.trans HY.out
            simp at this
            obtain ⟨rfl, rfl, rfl⟩ := this
            simp [eqBHole] at he
          simp [this]
      · obtain rfl : k = l.length := by omega
        go_wp2
        go_ret
        refine ⟨ret_bool ?_, hb⟩
        have : l = m := by
          have h := HT.out
          rw [List.take_length, HLEN.out, List.take_length] at h
          exact h
        simp [this]
  · go_enter Tryd.func24, Tryd.ntmps24
    have hne : ((l.length : Int) != (m.length : Int)) = true := by simp; omega
    go_wp2
    go_ret
    exact ⟨ret_bool (by simp; intro h; exact hlen (by rw [h])), Below.refl _ _⟩

set_option maxRecDepth 100000 in
set_option maxHeartbeats 1000000 in
theorem heldHoleS_any (A : Option Addr) (K : Int) (n c : Nat) (w : World) (hn : n ≤ 1048576) (hK : 0 ≤ K) (hK' : K ≤ 1048576) (hA : RA w A (mk n K)) :
    Calls Tryd.prog 29 #[.slice A n c, .int .i64 K] w fun e w' => e = .returned (.int .i64 (K + 3 * n)) ∧ w = w' := by
  go_enter Tryd.func29, Tryd.ntmps29
  go_wp2
  go_loop [1, 5] (fun q i => ∃ k : Nat, k ≤ n ∧ i = .int .i64 k ∧ q = .int .i64 (K + 3 * k))
    (fun _ i => n - (intOf i).toNat)
  case atStart => exact ⟨0, Nat.zero_le _, rfl, by simp⟩
  case round =>
    obtain ⟨k, hk, rfl, rfl⟩ := hrel
    by_cases hlt : k < n
    · obtain ⟨g, o, rfl, hg, h0, h1, h2⟩ := hA k _ (mk_get n K k hlt)
      simp only at h0 h1 h2
      clear hA
      go_wp2
      go_round
      case rel => exact ⟨k + 1, by omega, by go_num, by first | go_num | (congr 1; omega)⟩
      case measure => simp [intOf]; omega
    · obtain rfl : k = n := by omega
      go_wp2
      go_ret
      exact ⟨rfl, rfl⟩

set_option maxRecDepth 100000 in
set_option maxHeartbeats 1000000 in
theorem markHoleS_any (v : Value) (l : List Nt) (K : Int) (base : Nat) (w : World) (hn : l.length ≤ 1048576) (hK : 0 ≤ K) (hK' : K ≤ 1048576) (hv : Own w base 29 v l) :
    Calls Tryd.prog 28 #[v, .int .i64 K] w fun e w' => e = .returned (.int .i64 (K + 3 * l.length)) ∧ Own w' base 29 v (mk l.length K) ∧ w.grownBy w' v.ownBlock := by
  have hv0 := hv
  rcases hv.2 with ⟨rfl, h0⟩ | ⟨g, cap, cur, rfl, hg, hh, hnc, hm, hs, ht⟩
  · obtain rfl : l = [] := List.eq_nil_of_length_eq_zero h0
    go_enter Tryd.func28, Tryd.ntmps28
    go_wp2
    go_rounds 1
    go_ret
    exact ⟨ret_int (by simp), hv0, World.grownBy.refl w _⟩
  · have hlt : g < w.heap.size := (hv0.lt _ rfl).2
    clear hh hs ht cur
    go_enter Tryd.func28, Tryd.ntmps28
    go_wp2
    go_loopw [1, 5] (fun q i wr => ∃ k : Nat, k ≤ l.length ∧ i = .int .i64 k ∧ q = .int .i64 (K + 3 * k) ∧ Own wr base 29 (.slice (some ⟨g, 0, none⟩) l.length cap) (mk k K ++ l.drop k) ∧ w.grownBy wr (some g))
      (fun _ i _ => l.length - (intOf i).toNat)
    case atStart => exact ⟨0, Nat.zero_le _, rfl, by simp, by simpa [mk] using hv0, World.grownBy.refl w _⟩
    case round =>
      obtain ⟨k, hk, rfl, rfl, hown, hgr⟩ := hrel
      have hL : (mk k K ++ l.drop k).length = l.length := by simp [mk_length]; omega
      by_cases hk2 : k < l.length
      · unfold Own at hown
        rw [hL] at hown
        have f := fun j => hown.frozenAt j
        have c0 : ∃ u, wr.cell? ⟨g, k * 3, none⟩ = some u := by rw [hown.cellAt _ (by omega)]; exact ⟨_, List.getElem?_eq_getElem (by rw [cl_length, hL]; omega)⟩
        have c1 : ∃ u, wr.cell? ⟨g, k * 3 + 1, none⟩ = some u := by rw [hown.cellAt _ (by omega)]; exact ⟨_, List.getElem?_eq_getElem (by rw [cl_length, hL]; omega)⟩
        have c2 : ∃ u, wr.cell? ⟨g, k * 3 + 2, none⟩ = some u := by rw [hown.cellAt _ (by omega)]; exact ⟨_, List.getElem?_eq_getElem (by rw [cl_length, hL]; omega)⟩
        obtain ⟨u0, c0⟩ := c0
        obtain ⟨u1, c1⟩ := c1
        obtain ⟨u2, c2⟩ := c2
        have f0 := f (k * 3)
        have f1 := f (k * 3 + 1)
        have f2 := f (k * 3 + 2)
        have H := Lib.hid hown
        have HL := Lib.hid hL
        clear f hown hL hv hv0
        go_wp2
        go_roundw
        case rel =>
          have s1 := H.out.stored (k * 3) (.int .i64 (K + 3 * k))
          have s2 := s1.1.stored (k * 3 + 1) (.int .i64 (K + 3 * k + 1))
          have s3 := s2.1.stored (k * 3 + 2) (.int .i64 (K + 3 * k + 2))
          have k2 := s3.1
          rw [cl_set _ _ (K + 3 * k, K + 3 * k + 1, K + 3 * k + 2) (by rw [HL.out]; exact hk2), mk_set l K k hk2] at k2
          have hL' : (mk (k + 1) K ++ l.drop (k + 1)).length = l.length := by simp [mk_length]; omega
          have e2 : K + 3 * (k : Int) + 1 + 1 = K + 3 * k + 2 := by omega
          refine ⟨k + 1, by omega, by go_num, by first | go_num | (congr 1; omega), ?_, ?_⟩
          · unfold Own
            rw [hL']
            first | exact k2 | (rw [e2]; exact k2)
          · first | exact (((hgr.trans s1.2).trans s2.2).trans s3.2) | (rw [e2]; exact (((hgr.trans s1.2).trans s2.2).trans s3.2))
        case measure => simp [intOf]; omega
      · obtain rfl : k = l.length := by omega
        go_wp2
        go_ret
        exact ⟨rfl, by simpa using hown, hgr⟩

end Go.Proofs.YtkfgmkgbicahgaaDoor.H

namespace Go.Proofs.YtkfgmkgbicahgaaDoor.H
open Go.RowKit Go.Sort
set_option linter.unusedVariables false

def zero20 : Array Value := Array.mk (List.replicate 20 (.int .i64 0))
theorem zero20_size : zero20.size = 20 := by kernel_rfl
theorem zero20_ne : zero20 ≠ #[] := fun h => by have := congrArg Array.size h; rw [zero20_size] at this; simp at this
theorem zeroV20 (w : World) : (zeroValue 97).run Tryd.prog w = .ok (.agg zero20) w := by kernel_rfl
theorem zeros20 : zero20.toList = List.replicate 20 (.int .i64 0) := rfl
/-- The array of ends: for each pitch the end of its last note among the first k ones. -/
def Ends (w : World) (g : Nat) (l : List Nt) (k : Nat) : Prop := w.rowIs g 97 20 (fun j => .int .i64 (endsF (j : Int) (l.take k) 0))
theorem Ends.zero (w : World) (l : List Nt) : Ends (w.alloc (.cells zero20 97)) w.heap.size l 0 := by
  have hs : zero20.size = 20 := by rw [← Array.length_toList, zeros20]; rfl
  have h := World.rowIs_alloc w zero20 97 (fun j => .int .i64 (endsF (j : Int) (l.take 0) 0)) (fun i hi => by
    rw [← Array.getElem?_toList, zeros20, List.getElem?_replicate, if_pos (by omega)]; rfl)
  rw [hs] at h
  exact h
theorem Ends.below {w w' : World} {g : Nat} {l : List Nt} {k : Nat} (h : Ends w g l k) (hb : Below w.heap.size w w') : Ends w' g l k := World.rowIs.of_block h (hb.block g h.lt)
theorem Ends.step {w : World} {g : Nat} {l : List Nt} {k : Nat} {p s n : Int} (h : Ends w g l k) (hx : l[k]? = some (p, s, n)) (hp : 0 ≤ p) : Ends (w.setCell ⟨g, p.toNat, none⟩ (.int .i64 (n + 1))) g l (k + 1) := by
  refine (World.rowIs.set h p.toNat (.int .i64 (n + 1))).congr fun i hi => ?_
  rw [endsF_take _ _ _ _ hx]
  by_cases hip : i = p.toNat
  · subst hip
    rw [if_pos rfl, if_pos (by simp only; omega)]
  · rw [if_neg hip, if_neg (by simp only; omega)]

set_option maxRecDepth 100000 in
set_option maxHeartbeats 2000000 in
theorem isScore_any (A : Option Addr) (l : List Nt) (c : Nat) (w : World) (hn : l.length ≤ 1048576) (hA : RA w A l) :
    Calls Tryd.prog 60 #[.slice A l.length c] w fun e w' => e = .returned (.bool (goodB l)) ∧ Below w.heap.size w w' := by
  by_cases h60 : l.length ≤ 60
  · go_enter Tryd.func60, Tryd.ntmps60
    have hq : ¬ (60 < (l.length : Int)) := by omega
    have hzv := zeroV20
    have hzn := zero20_ne
    go_wp2_with fail
    clear hzv hzn
    have hE0 := Ends.zero w l
    have hb0 : Below w.heap.size w (w.alloc (.cells zero20 97)) := (Below.refl _ _).alloc (Nat.le_refl _) _
    generalize w.alloc (.cells zero20 97) = W0 at *
    go_loopw [11] (fun i wr => ∃ k : Nat, k ≤ l.length ∧ i = .int .i64 k ∧ GoodTo l k ∧ Ends wr w.heap.size l k ∧ Below w.heap.size w wr)
      (fun i _ => l.length - (intOf i).toNat)
    case atStart => exact ⟨0, Nat.zero_le _, rfl, GoodTo.zero l, hE0, hb0⟩
    case round =>
      obtain ⟨k, hk, rfl, hgood, hE, hb⟩ := hrel
      have HG := Lib.hid hgood
      clear hgood
      by_cases hlt : k < l.length
      · have hx : l[k]? = some l[k] := List.getElem?_eq_getElem hlt
        generalize l[k] = x at hx
        obtain ⟨p, s, n⟩ := x
        obtain ⟨g, o, rfl, hg, h0, h1, h2⟩ := (hA.below hb) k _ hx
        simp only at h0 h1 h2
        have HX := Lib.hid hx
        have i1 : (0 : Int) ≤ (k : Int) := by omega
        have i2 : (k : Int) < (l.length : Int) := by omega
        clear hx
        go_wp2_with fail
        have hRA : RA (wr.alloc (.cells #[.int .i64 p, .int .i64 s, .int .i64 n] 29)) (some ⟨g, o, none⟩) l := (hA.below hb).alloc _
        have hxc : ∀ j, (wr.alloc (.cells #[.int .i64 p, .int .i64 s, .int .i64 n] 29)).cell? ⟨wr.heap.size, j, none⟩ = #[Value.int .i64 p, .int .i64 s, .int .i64 n][j]? := fun j => World.cell?_alloc_new wr _ _ j
        have hbW : Below w.heap.size w (wr.alloc (.cells #[.int .i64 p, .int .i64 s, .int .i64 n] 29)) := hb.alloc hb.size _
        have hzW : wr.heap.size < (wr.alloc (.cells #[.int .i64 p, .int .i64 s, .int .i64 n] 29)).heap.size := by simp
        have hEW : Ends (wr.alloc (.cells #[.int .i64 p, .int .i64 s, .int .i64 n] 29)) w.heap.size l k := World.rowIs.alloc hE _
        generalize wr.alloc (.cells #[.int .i64 p, .int .i64 s, .int .i64 n] 29) = W at *
        have hEx : w.heap.size < wr.heap.size := World.rowIs.lt hE
        generalize wr.heap.size = xb at *
        have x0 := cell_regrown ((hxc 0).trans rfl)
        have x1 := cell_regrown ((hxc 1).trans rfl)
        have x2 := cell_regrown ((hxc 2).trans rfl)
        have cN : ∀ d os, Calls Tryd.prog 50 #[.agg #[.int .i64 p, .int .i64 s, .int .i64 n]] (grow (redrawn W d) os) fun e w'' => e = .returned (.bool (noteB p s n)) ∧ ∃ q : Regrown, w'' = grow (redrawn W q.d) q.os :=
          fun d os => Calls.regrown_of (implIsNote_any p s n _)
        clear h0 h1 h2
        cases hv : noteB p s n with
        | false =>
          refine wp_region_quiet_below (by kernel_rfl) (by kernel_rfl) ?_
          repeat (go_big_quiet_step (exact (cN _ _)))
          refine wpQuiet_nil ?_
          intro _ hw'
          obtain ⟨q, hw''⟩ := hw'
          subst hw''
          go_wp2
          go_ret
          refine ⟨ret_bool (goodB_false (Good.not_of HX.out fun h => ?_)).symm, hbW.trans ((below_regrown W q.d q.os).mono hbW.size)⟩
          have := h.1
          simp [noteN, hv] at this
        | true =>
          have hv' := (noteN_iff (p, s, n)).1 hv
          simp only at hv'
          have hp1 : (0 : Int) ≤ p := by omega
          have hp2 : p < 20 := by omega
          have e0 := hEW.cell (i := p.toNat) (by omega)
          have hpp : ((p.toNat : Nat) : Int) = p := by omega
          rw [hpp] at e0
          have e0 := cell_regrown e0
          by_cases hse : s < endsF p (l.take k) 0
          · generalize hEE : endsF p (l.take k) 0 = E at *
            have HEE := Lib.hid hEE
            have HPP := Lib.hid hpp
            clear hEE hpp
            refine wp_region_quiet_below (by kernel_rfl) (by kernel_rfl) ?_
            repeat (go_big_quiet_step (exact (cN _ _)))
            refine wpQuiet_nil ?_
            intro _ hw'
            obtain ⟨q, hw''⟩ := hw'
            subst hw''
            go_wp2
            go_ret
            refine ⟨ret_bool (goodB_false (Good.not_of HX.out fun h => ?_)).symm, hbW.trans ((below_regrown W q.d q.os).mono hbW.size)⟩
            have := (okAt_iff HG.out (by omega) h.1 h.2.1).1 h
            rw [HEE.out] at this
            exact this hse
          · have HSE := Lib.hid hse
            generalize hEE : endsF p (l.take k) 0 = E at *
            have HEE := Lib.hid hEE
            have HPP := Lib.hid hpp
            clear hEE hpp
            refine wp_region_quiet_below (by kernel_rfl) (by kernel_rfl) ?_
            repeat (go_big_quiet_step (exact (cN _ _)))
            refine wpQuiet_nil ?_
            intro _ hw'
            obtain ⟨q, hw''⟩ := hw'
            subst hw''
            go_wp2_with fail
            have hbU := hbW.trans ((below_regrown W q.d q.os).mono hbW.size)
            have hxU := fun j => ((below_regrown W q.d q.os).cell (p := ⟨xb, j, none⟩) hzW).trans (hxc j)
            have hRU := hRA.below (below_regrown W q.d q.os)
            have heU := hEW.below (below_regrown W q.d q.os)
            have hzU : xb < (grow (redrawn W q.d) q.os).heap.size := Nat.lt_of_lt_of_le hzW (below_regrown W q.d q.os).size
            generalize grow (redrawn W q.d) q.os = U at *
            have hxU0 := cell_regrown ((hxU 0).trans rfl)
            have hxU1 := cell_regrown ((hxU 1).trans rfl)
            have hxU2 := cell_regrown ((hxU 2).trans rfl)
            clear x0 x1 x2 cN e0
            rcases Nat.eq_zero_or_pos k with hk0 | hk0
            · have hd : decide (0 < k) = false := by simp [hk0]
              have HBEF := Lib.hid (show ∀ y, 0 < k → l[k - 1]? = some y → befN y (p, s, n) = true from fun y h => absurd h (by omega))
              clear hk0
              refine wp_region_quiet_below (by kernel_rfl) (by kernel_rfl) ?_
              repeat (go_big_quiet_step (fail))
              refine wpQuiet_nil ?_
              intro _ hw'
              obtain ⟨q2, hw''⟩ := hw'
              subst hw''
              have hbV := hbU.trans ((below_regrown U q2.d q2.os).mono hbU.size)
              have hxV := fun j => ((below_regrown U q2.d q2.os).cell (p := ⟨xb, j, none⟩) hzU).trans (hxU j)
              have heV := heU.below (below_regrown U q2.d q2.os)
              have hzV : xb < (grow (redrawn U q2.d) q2.os).heap.size := Nat.lt_of_lt_of_le hzU (below_regrown U q2.d q2.os).size
              generalize grow (redrawn U q2.d) q2.os = V at *
              have ux0 := (hxV 0).trans rfl
              have ux1 := (hxV 1).trans rfl
              have ux2 := (hxV 2).trans rfl
              simp only [List.getElem?_toArray] at ux0 ux1 ux2
              have ue := heV.cell (i := p.toNat) (by omega)
              have uf := heV.frozen p.toNat
              have hzE : w.heap.size < V.heap.size := heV.lt
              clear hxU hxV hxc hRA hRU hxU0 hxU1 hxU2
              have hne1 : ¬ (xb = w.heap.size) := by omega
              have hne2 : ¬ (w.heap.size = xb) := by omega
              go_wp2
              go_roundw
              case rel =>
                have hok : okAt l k (p, s, n) := (okAt_iff (x := (p, s, n)) HG.out (by omega) (show noteN (p, s, n) = true from hv) HBEF.out).2 (by rw [HEE.out]; have := HSE.out; simp only; omega)
                have he1 : Ends V w.heap.size l k := heV
                exact ⟨k + 1, by omega, by go_num, HG.out.succ HX.out hok, he1.step HX.out hp1, hbV.setCell (Nat.le_refl _) _⟩
              case measure => simp [intOf]; omega
            · have hd : (0 : Int) < (k : Int) := by omega
              have hy : l[k - 1]? = some l[k - 1] := List.getElem?_eq_getElem (by omega)
              generalize l[k - 1] = y at hy
              obtain ⟨p', s', n'⟩ := y
              obtain ⟨g2, o2, hgo, hg2, y0, y1, y2⟩ := hRU (k - 1) _ hy
              simp only [Option.some.injEq, Addr.mk.injEq, and_true] at hgo
              obtain ⟨rfl, rfl⟩ := hgo
              simp only at y0 y1 y2
              have y0 := cell_regrown y0
              have y1 := cell_regrown y1
              have y2 := cell_regrown y2
              have HY := Lib.hid hy
              have i3 : (0 : Int) ≤ (k : Int) - 1 := by omega
              have i4 : (k : Int) - 1 < (l.length : Int) := by omega
              have cB : ∀ d os, Calls Tryd.prog 83 #[.agg #[.int .i64 p', .int .i64 s', .int .i64 n'], .agg #[.int .i64 p, .int .i64 s, .int .i64 n]] (grow (redrawn U d) os) fun e w'' => e = .returned (.int .i64 (cmpN p' s' p s)) ∧ ∃ q : Regrown, w'' = grow (redrawn U q.d) q.os :=
                fun d os => Calls.regrown_of (compareNotes_any p' s' n' p s n _)
              have hcb := cmpN_bef (p', s', n') (p, s, n)
              simp only at hcb
              clear hy
              generalize cmpN p' s' p s = cz at *
              have HCB := Lib.hid hcb
              clear hcb
              by_cases hcz : cz < 0
              · have HBEF := Lib.hid (show ∀ y, 0 < k → l[k - 1]? = some y → befN y (p, s, n) = true from fun y _ hy => by have e := HY.out.symm.trans hy; injection e with e; subst e; exact HCB.out.1 hcz)
                refine wp_region_quiet_below (by kernel_rfl) (by kernel_rfl) ?_
                repeat (go_big_quiet_step (exact (cB _ _)))
                refine wpQuiet_nil ?_
                intro _ hw'
                obtain ⟨q2, hw''⟩ := hw'
                subst hw''
                have hbV := hbU.trans ((below_regrown U q2.d q2.os).mono hbU.size)
                have hxV := fun j => ((below_regrown U q2.d q2.os).cell (p := ⟨xb, j, none⟩) hzU).trans (hxU j)
                have heV := heU.below (below_regrown U q2.d q2.os)
                have hzV : xb < (grow (redrawn U q2.d) q2.os).heap.size := Nat.lt_of_lt_of_le hzU (below_regrown U q2.d q2.os).size
                generalize grow (redrawn U q2.d) q2.os = V at *
                have ux0 := (hxV 0).trans rfl
                have ux1 := (hxV 1).trans rfl
                have ux2 := (hxV 2).trans rfl
                simp only [List.getElem?_toArray] at ux0 ux1 ux2
                have ue := heV.cell (i := p.toNat) (by omega)
                have uf := heV.frozen p.toNat
                have hzE : w.heap.size < V.heap.size := heV.lt
                clear hxU hxV hxc hRA hRU hxU0 hxU1 hxU2
                have hne1 : ¬ (xb = w.heap.size) := by omega
                have hne2 : ¬ (w.heap.size = xb) := by omega
                go_wp2
                go_roundw
                case rel =>
                  have hok : okAt l k (p, s, n) := (okAt_iff (x := (p, s, n)) HG.out (by omega) (show noteN (p, s, n) = true from hv) HBEF.out).2 (by rw [HEE.out]; have := HSE.out; simp only; omega)
                  have he1 : Ends V w.heap.size l k := heV
                  exact ⟨k + 1, by omega, by go_num, HG.out.succ HX.out hok, he1.step HX.out hp1, hbV.setCell (Nat.le_refl _) _⟩
                case measure => simp [intOf]; omega
              · have hcz : 0 ≤ cz := by omega
                refine wp_region_quiet_below (by kernel_rfl) (by kernel_rfl) ?_
                repeat (go_big_quiet_step (exact (cB _ _)))
                refine wpQuiet_nil ?_
                intro _ hw'
                obtain ⟨q2, hw''⟩ := hw'
                subst hw''
                go_wp2
                go_ret
                refine ⟨ret_bool (goodB_false (Good.not_of HX.out fun h => ?_)).symm, hbU.trans ((below_regrown U q2.d q2.os).mono hbU.size)⟩
                have := HCB.out.2 (h.2.1 _ hk0 HY.out)
                omega
      · obtain rfl : k = l.length := by omega
        go_wp2
        go_ret
        exact ⟨ret_bool ((goodB_iff l).2 ⟨HG.out, h60⟩).symm, hb⟩
  · go_enter Tryd.func60, Tryd.ntmps60
    have hq : 60 < (l.length : Int) := by omega
    go_wp2
    go_ret
    exact ⟨ret_bool (goodB_false fun h => h60 h.2).symm, Below.refl _ _⟩
end Go.Proofs.YtkfgmkgbicahgaaDoor.H

namespace Go.Proofs.YtkfgmkgbicahgaaDoor.H
open Go.RowKit
set_option linter.unusedVariables false

set_option maxRecDepth 100000 in
set_option maxHeartbeats 1000000 in
theorem markHoleS_wide (v : Value) (l : List Nt) (K : Int) (base : Nat) (w : World) (hn : l.length ≤ 1048576) (hK : 0 ≤ K) (hK' : K ≤ 2097152) (hv : Own w base 29 v l) :
    Calls Tryd.prog 28 #[v, .int .i64 K] w fun e w' => e = .returned (.int .i64 (K + 3 * l.length)) ∧ Own w' base 29 v (mk l.length K) ∧ w.grownBy w' v.ownBlock := by
  have hv0 := hv
  rcases hv.2 with ⟨rfl, h0⟩ | ⟨g, cap, cur, rfl, hg, hh, hnc, hm, hs, ht⟩
  · obtain rfl : l = [] := List.eq_nil_of_length_eq_zero h0
    go_enter Tryd.func28, Tryd.ntmps28
    go_wp2
    go_rounds 1
    go_ret
    exact ⟨ret_int (by simp), hv0, World.grownBy.refl w _⟩
  · have hlt : g < w.heap.size := (hv0.lt _ rfl).2
    clear hh hs ht cur
    go_enter Tryd.func28, Tryd.ntmps28
    go_wp2
    go_loopw [1, 5] (fun q i wr => ∃ k : Nat, k ≤ l.length ∧ i = .int .i64 k ∧ q = .int .i64 (K + 3 * k) ∧ Own wr base 29 (.slice (some ⟨g, 0, none⟩) l.length cap) (mk k K ++ l.drop k) ∧ w.grownBy wr (some g))
      (fun _ i _ => l.length - (intOf i).toNat)
    case atStart => exact ⟨0, Nat.zero_le _, rfl, by simp, by simpa [mk] using hv0, World.grownBy.refl w _⟩
    case round =>
      obtain ⟨k, hk, rfl, rfl, hown, hgr⟩ := hrel
      have hL : (mk k K ++ l.drop k).length = l.length := by simp [mk_length]; omega
      by_cases hk2 : k < l.length
      · unfold Own at hown
        rw [hL] at hown
        have f := fun j => hown.frozenAt j
        have c0 : ∃ u, wr.cell? ⟨g, k * 3, none⟩ = some u := by rw [hown.cellAt _ (by omega)]; exact ⟨_, List.getElem?_eq_getElem (by rw [cl_length, hL]; omega)⟩
        have c1 : ∃ u, wr.cell? ⟨g, k * 3 + 1, none⟩ = some u := by rw [hown.cellAt _ (by omega)]; exact ⟨_, List.getElem?_eq_getElem (by rw [cl_length, hL]; omega)⟩
        have c2 : ∃ u, wr.cell? ⟨g, k * 3 + 2, none⟩ = some u := by rw [hown.cellAt _ (by omega)]; exact ⟨_, List.getElem?_eq_getElem (by rw [cl_length, hL]; omega)⟩
        obtain ⟨u0, c0⟩ := c0
        obtain ⟨u1, c1⟩ := c1
        obtain ⟨u2, c2⟩ := c2
        have f0 := f (k * 3)
        have f1 := f (k * 3 + 1)
        have f2 := f (k * 3 + 2)
        have H := Lib.hid hown
        have HL := Lib.hid hL
        clear f hown hL hv hv0
        go_wp2
        go_roundw
        case rel =>
          have s1 := H.out.stored (k * 3) (.int .i64 (K + 3 * k))
          have s2 := s1.1.stored (k * 3 + 1) (.int .i64 (K + 3 * k + 1))
          have s3 := s2.1.stored (k * 3 + 2) (.int .i64 (K + 3 * k + 2))
          have k2 := s3.1
          rw [cl_set _ _ (K + 3 * k, K + 3 * k + 1, K + 3 * k + 2) (by rw [HL.out]; exact hk2), mk_set l K k hk2] at k2
          have hL' : (mk (k + 1) K ++ l.drop (k + 1)).length = l.length := by simp [mk_length]; omega
          have e2 : K + 3 * (k : Int) + 1 + 1 = K + 3 * k + 2 := by omega
          refine ⟨k + 1, by omega, by go_num, by first | go_num | (congr 1; omega), ?_, ?_⟩
          · unfold Own
            rw [hL']
            first | exact k2 | (rw [e2]; exact k2)
          · first | exact ((hgr.trans s1.2).trans s2.2).trans s3.2 | (rw [e2]; exact ((hgr.trans s1.2).trans s2.2).trans s3.2)
        case measure => simp [intOf]; omega
      · obtain rfl : k = l.length := by omega
        go_wp2
        go_ret
        exact ⟨rfl, by simpa using hown, hgr⟩

end Go.Proofs.YtkfgmkgbicahgaaDoor.H

namespace Go.Proofs.YtkfgmkgbicahgaaDoor
open Go.RowKit Go.Sort
set_option linter.unusedVariables false
set_option linter.unusedSimpArgs false

/-- The cells of numbers as the shelf's contracts ask for them. -/
theorem RI.getD {w : World} {g o : Nat} {l : List Int} (h : RI w (some ⟨g, o, none⟩) l) : ∀ j, j < l.length → w.cell? ⟨g, o + j, none⟩ = some (.int .i64 (l.getD j 0)) := by
  intro j hj
  obtain ⟨g', o', hgo, _, h0⟩ := h j l[j] (List.getElem?_eq_getElem hj)
  simp only [Option.some.injEq, Addr.mk.injEq, and_true] at hgo
  obtain ⟨rfl, rfl⟩ := hgo
  rw [h0, List.getD_eq_getElem?_getD, List.getElem?_eq_getElem hj]
  rfl
theorem idxFrom_trk (p : Int) : ∀ (l : List Int) (k : Nat), Lib.idxFrom l p k = trkF p l k
  | [], _ => rfl
  | x :: l, k => by
    have ih := idxFrom_trk p l (k + 1)
    unfold Lib.idxFrom trkF
    rw [ih]
    simp
theorem hasPitch_some (l : List Int) (p : Int) : l.contains p = hasB l p := by
  rw [Bool.eq_iff_iff, hasB_iff]; simp

set_option maxRecDepth 100000 in
set_option maxHeartbeats 1000000 in
theorem contains_any (A : Option Addr) (l : List Int) (c : Nat) (p : Int) (w : World) (hn : l.length ≤ 1048576) (hA : RI w A l) :
    Calls Tryd.prog 66 #[.slice A l.length c, .int .i64 p] w fun e w' => e = .returned (.bool (hasB l p)) ∧ w' = w := by
  cases l with
  | nil => exact (Tryd.slices_Contains_int_empty A c p w).mono fun e w' ⟨he, hw⟩ => ⟨by rw [he]; rfl, hw⟩
  | cons x l =>
    obtain ⟨g, o, rfl, _, _⟩ := hA 0 x rfl
    refine (Tryd.slices_Contains_int g o (x :: l).length c (x :: l) p w (Nat.le_refl _) (by omega) hA.getD).mono fun e w' ⟨he, hw⟩ => ⟨?_, hw⟩
    rw [he, List.take_length, hasPitch_some]
theorem index_any (A : Option Addr) (l : List Int) (c : Nat) (p : Int) (w : World) (hn : l.length ≤ 1048576) (hA : RI w A l) :
    Calls Tryd.prog 72 #[.slice A l.length c, .int .i64 p] w fun e w' => e = .returned (.int .i64 (trk p l)) ∧ w' = w := by
  cases l with
  | nil => exact (Tryd.slices_Index_int_empty A c p w).mono fun e w' ⟨he, hw⟩ => ⟨by rw [he]; rfl, hw⟩
  | cons x l =>
    obtain ⟨g, o, rfl, _, _⟩ := hA 0 x rfl
    refine (Tryd.slices_Index_int g o (x :: l).length c (x :: l) p w (Nat.le_refl _) (by omega) hA.getD).mono fun e w' ⟨he, hw⟩ => ⟨?_, hw⟩
    rw [he, List.take_length, Lib.idxOf, idxFrom_trk]
    rfl

set_option maxRecDepth 100000 in
set_option maxHeartbeats 1000000 in
theorem hasPitch_any (A : Option Addr) (l : List Int) (c : Nat) (r p : Int) (w : World) (hn : l.length ≤ 1048576) (hA : RI w A l) :
    Calls Tryd.prog 71 #[.agg #[.slice A l.length c, .int .i64 r], .int .i64 p] w fun e w' => e = .returned (.bool (hasB l p)) ∧ Below w.heap.size w w' := by
  have hb0 : Below w.heap.size w (w.alloc (.cells #[.slice A l.length c, .int .i64 r] 32)) := (Below.refl w.heap.size w).alloc (Nat.le_refl _) _
  go_enter Tryd.func71, Tryd.ntmps71
  go_wp2_with fail
  refine (contains_any _ _ _ _ _ hn (hA.below hb0)).mono ?_
  rintro e w1 ⟨rfl, rfl⟩
  go_wp2
  go_ret
  exact ⟨rfl, hb0⟩

/-- What the box of an instrument holds, seen from a later world. -/
def Box (w : World) (b : Nat) (A : Option Addr) (n c : Nat) (r : Int) : Prop := w.cell? ⟨b, 0, none⟩ = some (.slice A n c) ∧ w.cell? ⟨b, 1, none⟩ = some (.int .i64 r) ∧ b < w.heap.size
theorem Box.below {w w' : World} {b : Nat} {A : Option Addr} {n c : Nat} {r : Int} (h : Box w b A n c r) (hb : Below w.heap.size w w') : Box w' b A n c r :=
  ⟨(hb.cell (p := ⟨b, 0, none⟩) h.2.2).trans h.1, (hb.cell (p := ⟨b, 1, none⟩) h.2.2).trans h.2.1, Nat.lt_of_lt_of_le h.2.2 hb.size⟩
theorem Box.new (w : World) (A : Option Addr) (n c : Nat) (r : Int) (t : TypeId) : Box (w.alloc (.cells #[.slice A n c, .int .i64 r] t)) w.heap.size A n c r :=
  ⟨by rw [World.cell?_alloc_new]; rfl, by rw [World.cell?_alloc_new]; rfl, by simp⟩

def trR (l : List Int) (r p : Int) : Array Value := if (gdI l r && hasB l p) = true then #[.int .i64 (trk p l), .bool true] else #[.int .i64 0, .bool false]

set_option maxRecDepth 100000 in
set_option maxHeartbeats 1000000 in
theorem implTrack_any (A : Option Addr) (l : List Int) (c : Nat) (r p : Int) (w : World) (hn : l.length ≤ 1048576) (hA : RI w A l) (hL : Lim w) :
    Calls Tryd.prog 47 #[.agg #[.slice A l.length c, .int .i64 r], .int .i64 p] w fun e w' => e = .returned (.tuple (trR l r p)) ∧ Below w.heap.size w w' := by
  have hb0 : Below w.heap.size w (w.alloc (.cells #[.slice A l.length c, .int .i64 r] 32)) := (Below.refl w.heap.size w).alloc (Nat.le_refl _) _
  have hx0 := Box.new w A l.length c r 32
  go_enter Tryd.func47, Tryd.ntmps47
  go_wp2_with fail
  have hA0 := hA.below hb0
  have hL0 := hL.below hb0
  generalize w.alloc (.cells #[.slice A l.length c, .int .i64 r] 32) = W at *
  refine (isIns_any _ _ _ _ _ hn hA0 hL0).mono ?_
  rintro e w1 ⟨rfl, hb1⟩
  have hB1 := hb0.trans (hb1.mono hb0.size)
  have hx1 := hx0.below hb1
  have hA1 := hA0.below hb1
  obtain ⟨x10, x11, hz1⟩ := hx1
  cases hg : gdI l r with
  | false =>
    go_wp2
    go_ret2
    exact ⟨by simp [trR, hg], hB1⟩
  | true =>
    go_wp2_with fail
    refine (hasPitch_any _ _ _ _ _ _ hn hA1).mono ?_
    rintro e w3 ⟨rfl, hb3⟩
    have x30 := (hb3.cell (p := ⟨w.heap.size, 0, none⟩) hz1).trans x10
    have hA3 := hA1.below hb3
    have hB3 := hB1.trans (hb3.mono hB1.size)
    cases hp : hasB l p with
    | false =>
      go_wp2
      go_ret2
      exact ⟨by simp [trR, hg, hp], hB3⟩
    | true =>
      go_wp2_with fail
      refine (index_any _ _ _ _ _ hn hA3).mono ?_
      rintro e w4 ⟨rfl, rfl⟩
      go_wp2
      go_ret2
      exact ⟨by simp [trR, hg, hp], hB3⟩

def poR (l : List Int) (r t : Int) : Array Value := if (gdI l r && inR t 0 (l.length - 1)) = true then #[.int .i64 (l.getD t.toNat 0), .bool true] else #[.int .i64 0, .bool false]

set_option maxRecDepth 100000 in
set_option maxHeartbeats 1000000 in
theorem implPitchOf_any (A : Option Addr) (l : List Int) (c : Nat) (r t : Int) (w : World) (hn : l.length ≤ 1048576) (hA : RI w A l) (hL : Lim w) :
    Calls Tryd.prog 53 #[.agg #[.slice A l.length c, .int .i64 r], .int .i64 t] w fun e w' => e = .returned (.tuple (poR l r t)) ∧ Below w.heap.size w w' := by
  have hb0 : Below w.heap.size w (w.alloc (.cells #[.slice A l.length c, .int .i64 r] 32)) := (Below.refl w.heap.size w).alloc (Nat.le_refl _) _
  have hx0 := Box.new w A l.length c r 32
  go_enter Tryd.func53, Tryd.ntmps53
  go_wp2_with fail
  have hA0 := hA.below hb0
  have hL0 := hL.below hb0
  generalize w.alloc (.cells #[.slice A l.length c, .int .i64 r] 32) = W at *
  refine (isIns_any _ _ _ _ _ hn hA0 hL0).mono ?_
  rintro e w1 ⟨rfl, hb1⟩
  have hB1 := hb0.trans (hb1.mono hb0.size)
  have hx1 := hx0.below hb1
  have hA1 := hA0.below hb1
  obtain ⟨x10, x11, hz1⟩ := hx1
  cases hg : gdI l r with
  | false =>
    go_wp2
    go_ret2
    exact ⟨by simp [poR, hg], hB1⟩
  | true =>
    have hw : IntKind.i64.wrap ((l.length : Int) - 1) = (l.length : Int) - 1 := IntWalk.i64_in _ (by omega)
    cases ht : inR t 0 ((l.length : Int) - 1) with
    | false =>
      go_wp2_with (go_at_call 74; refine (inRange_any _ _ _ _).mono ?_; rintro e w2 ⟨rfl, rfl⟩)
      go_ret2
      exact ⟨by simp [poR, hg, ht], hB1⟩
    | true =>
      have ht' : 0 ≤ t ∧ t ≤ (l.length : Int) - 1 := by simpa [inR] using ht
      have hx : l[t.toNat]? = some l[t.toNat] := List.getElem?_eq_getElem (by omega)
      have hgd : l.getD t.toNat 0 = l[t.toNat] := by rw [List.getD_eq_getElem?_getD, hx]; rfl
      generalize l[t.toNat] = x at hx hgd
      obtain ⟨g, o, rfl, hgl, h0⟩ := hA1 t.toNat _ hx
      have HX := Lib.hid hx
      clear hx hgd
      have i1 : (0 : Int) ≤ t := ht'.1
      have i2 : t < (l.length : Int) := by omega
      go_wp2_with (go_at_call 74; refine (inRange_any _ _ _ _).mono ?_; rintro e w2 ⟨rfl, rfl⟩)
      go_ret2
      exact ⟨by simp [poR, hg, ht, HX.out], hB1⟩
end Go.Proofs.YtkfgmkgbicahgaaDoor

namespace Go.Proofs.YtkfgmkgbicahgaaDoor
open Go.RowKit Go.Sort
set_option linter.unusedVariables false
set_option linter.unusedSimpArgs false

/-- The sort of a row of the call's own. -/
theorem sortI_any (v : Value) (zs : List Int) (base : Nat) (w : World) (hl : zs.length ≤ 1000000) (hv : OwnI w base 3 v zs) :
    Calls Tryd.prog 88 #[v] w fun e w' => e = .returned (.tuple #[]) ∧ OwnI w' base 3 v (zs.mergeSort fun x y => decide (x ≤ y)) ∧ w.grownBy w' v.ownBlock := by
  have hv0 := hv
  rcases hv.2 with ⟨rfl, h0⟩ | ⟨g, cap, cur, rfl, hg, hh, hnc, hm, hs, ht⟩
  · obtain rfl : zs = [] := List.eq_nil_of_length_eq_zero h0
    refine (Tryd.slices_Sort_int_none none 0 w).mono ?_
    rintro e w' ⟨rfl, rfl⟩
    exact ⟨rfl, by simpa using hv0, World.grownBy.refl _ _⟩
  · have ht' : cur.toList.take zs.length = zs.map (Value.int .i64) := by have h := ht; rw [Nat.mul_one] at h; exact h
    refine (Tryd.slices_Sort_int g 0 cap zs w (holds_of_blockI hh ht') (hv0.lt _ rfl).2 (by omega)).mono ?_
    rintro e w' ⟨rfl, n, os, rfl⟩
    refine ⟨rfl, ?_, grownBy_sortedI _⟩
    have h := ownsRow_sortedI (n := n) (os := os) (base := base) (cap := cap) (ss := zs) (ts := zs.mergeSort fun x y => decide (x ≤ y)) (by simp) hg hh hnc hm hs
    unfold OwnI
    rw [List.length_mergeSort]
    exact h

/-- The front of a row of the call's own. -/
theorem OwnI.front {w : World} {base g n cap t : Nat} {a b : List Int} (h : OwnI w base t (.slice (some ⟨g, 0, none⟩) n cap) (a ++ b)) : OwnI w base t (.slice (some ⟨g, 0, none⟩) a.length cap) a := by
  rcases h.2 with ⟨hv, _⟩ | ⟨g', cap', cur, hv, hg, hh, hnc, hm, hs, ht⟩
  · cases hv
  · injection hv with e1 e2 e3
    simp only [Option.some.injEq, Addr.mk.injEq, and_true] at e1
    subst e1 e3
    refine ⟨by simp [ci], .inr ⟨g, cap, cur, rfl, hg, hh, by simp at hnc; omega, hm, hs, ?_⟩⟩
    have : cur.toList.take (a.length * 1) = (cur.toList.take ((a ++ b).length * 1)).take (a.length * 1) := by rw [List.take_take]; congr 1; simp
    rw [this, ht, ci_append, Nat.mul_one, ← ci_length a, List.take_left]

theorem compact_length (zs : List Int) : (Lib.compact zs).length ≤ zs.length := by
  unfold Lib.compact Lib.compactUpTo
  rw [List.length_map]
  exact Nat.le_trans (List.length_filter_le _ _) (by simp)

theorem compactI_any (v : Value) (zs : List Int) (base : Nat) (w : World) (hl : zs.length ≤ 1000000) (hv : OwnI w base 3 v zs) :
    Calls Tryd.prog 89 #[v] w fun e w' => ∃ v', e = .returned v' ∧ OwnI w' base 3 v' (Lib.compact zs) ∧ w.grownBy w' v.ownBlock := by
  have hv0 := hv
  rcases hv.2 with ⟨rfl, h0⟩ | ⟨g, cap, cur, rfl, hg, hh, hnc, hm, hs, ht⟩
  · obtain rfl : zs = [] := List.eq_nil_of_length_eq_zero h0
    refine (Tryd.slices_Compact_int_empty none 0 w).mono ?_
    rintro e w' ⟨rfl, rfl⟩
    exact ⟨_, rfl, by simpa [Lib.compact, Lib.compactUpTo] using hv0, World.grownBy.refl _ _⟩
  · have ht' : cur.toList.take zs.length = zs.map (Value.int .i64) := by have h := ht; rw [Nat.mul_one] at h; exact h
    refine (Tryd.slices_Compact_int g 0 cap zs w (holds_of_blockI hh ht') (by omega) hnc).mono ?_
    rintro e w' ⟨rfl, q, rfl⟩
    have hc := compact_length zs
    have h := ownsRow_sortedI (n := q) (os := #[]) (base := base) (cap := cap) (ss := zs) (ts := Lib.compact zs ++ List.replicate (zs.length - (Lib.compact zs).length) 0) (by simp; omega) hg hh hnc hm hs
    have hgr := grownBy_sortedI (w := w) (g := g) (n := q) (os := #[]) (Lib.compact zs ++ List.replicate (zs.length - (Lib.compact zs).length) 0).toArray
    rw [grow_empty] at h hgr
    refine ⟨_, rfl, ?_, hgr⟩
    refine OwnI.front (n := zs.length) (b := List.replicate (zs.length - (Lib.compact zs).length) 0) ?_
    have e : (Lib.compact zs ++ List.replicate (zs.length - (Lib.compact zs).length) (0 : Int)).length = zs.length := by simp; omega
    unfold OwnI
    rw [e]
    exact h

end Go.Proofs.YtkfgmkgbicahgaaDoor

