/- Texts of the proof, run together: HTwo, InsG, PairP, Slc, SrtP, AppN, HCmp, InsF. -/
import Derived.Test.YtkfgmkgbicahgaaGreatDoorM2q
import Derived.StillTailTactics
import Derived.Deep.RegionWith
import Derived.Handy
import Derived.Test.YtkfgmkgbicahgaaGreatDoorM3q
import Derived.LoopTactic
import Derived.Lib.QuietBelow
import Derived.Test.YtkfgmkgbicahgaaGreatDoorM1q
import Derived.Maps.AppendAt
import Derived.OwnWalk
import Derived.Deep.AppendLies
import Derived.Deep.RegionLaw
import Derived.Deep.RegionHeld3
namespace Go.Proofs.YtkfgmkgbicahgaaGreatDoor.H
open Go.RowKit
set_option linter.unusedVariables false

/-- Behind a hole there is no web ahead of a further one of its track. -/
def meetB (p s n p' s' n' : Int) : Bool := (p == p') && decide (s ≤ n')
set_option maxHeartbeats 400000 in
theorem ntBefore_any (p s n p' s' n' : Int) (w : World) :
    Calls Tryz.prog 46 #[.agg #[.int .i64 p, .int .i64 s, .int .i64 n], .agg #[.int .i64 p', .int .i64 s', .int .i64 n']] w fun e w' => e = .returned (.bool (befB p s p' s')) ∧ Below w.heap.size w w' := by
  go_enter Tryz.func46, Tryz.ntmps46
  go_wp2
  all_goals (go_ret; exact ⟨ret_bool (by first | (simp [befB, *]; done) | (simp_all [befB]; done) | (rw [Bool.eq_iff_iff]; simp [befB]; omega)), ((Below.refl _ _).alloc (Nat.le_refl _) _).alloc (by simp) _⟩)

end Go.Proofs.YtkfgmkgbicahgaaGreatDoor.H

namespace Go.Proofs.YtkfgmkgbicahgaaGreatDoor
open Go.RowKit Go.Sort
set_option linter.unusedVariables false
set_option linter.unusedSimpArgs false

set_option maxRecDepth 100000 in
set_option maxHeartbeats 1000000 in
theorem rising_any (A : Option Addr) (l : List Int) (c : Nat) (lo hi : Int) (w : World) (hn : l.length ≤ 1048576) (hA : RI w A l) :
    Calls Tryz.prog 38 #[.slice A l.length c, .int .i64 lo, .int .i64 hi] w fun e w' => e = .returned (.bool (riseB lo hi l)) ∧ w = w' := by
  go_enter Tryz.func38, Tryz.ntmps38
  go_wp2
  go_loop [11] (fun i => ∃ k : Nat, k ≤ l.length ∧ i = .int .i64 k ∧ UpTo lo hi l k)
    (fun i => l.length - (intOf i).toNat)
  case atStart => exact ⟨0, Nat.zero_le _, rfl, UpTo.zero lo hi l⟩
  case round =>
    obtain ⟨k, hk, rfl, hup⟩ := hrel
    have HU := Lib.hid hup
    clear hup
    by_cases hlt : k < l.length
    · have hx : l[k]? = some l[k] := List.getElem?_eq_getElem hlt
      generalize l[k] = x at hx
      obtain ⟨g, o, rfl, hg, h0⟩ := hA k _ hx
      have i1 : (0 : Int) ≤ (k : Int) := by omega
      have i2 : (k : Int) < (l.length : Int) := by omega
      have HX := Lib.hid hx
      clear hx
      cases hr : inR x lo hi with
      | false =>
        go_wp2_with (go_at_call 19; refine (l1In_any _ _ _ _).mono ?_; rintro e w1 ⟨rfl, rfl⟩)
        go_ret
        exact ⟨ret_bool (riseB_not HX.out fun h => by have := h.1; rw [hr] at this; cases this).symm, rfl⟩
      | true =>
        rcases Nat.eq_zero_or_pos k with hk0 | hk0
        · have hd : ¬ ((0 : Int) < (k : Int)) := by omega
          have HK := Lib.hid hk0
          clear hk0
          go_wp2_with (go_at_call 19; refine (l1In_any _ _ _ _).mono ?_; rintro e w1 ⟨rfl, rfl⟩)
          go_round
          case rel => exact ⟨k + 1, by omega, by go_num, HU.out.succ HX.out ⟨hr, fun y h => absurd h (by have := HK.out; omega)⟩⟩
          case measure => simp [intOf]; omega
        · have hd : (0 : Int) < (k : Int) := by omega
          have hy : l[k - 1]? = some l[k - 1] := List.getElem?_eq_getElem (by omega)
          generalize l[k - 1] = y at hy
          obtain ⟨g2, o2, hgo, hg2, y0⟩ := hA (k - 1) _ hy
          simp only [Option.some.injEq, Addr.mk.injEq, and_true] at hgo
          obtain ⟨rfl, rfl⟩ := hgo
          have i3 : (0 : Int) ≤ (k : Int) - 1 := by omega
          have i4 : (k : Int) - 1 < (l.length : Int) := by omega
          have HY := Lib.hid hy
          clear hy hA
          by_cases hyx : y < x
          · have hnx : ¬ x ≤ y := by omega
            go_wp2_with (go_at_call 19; refine (l1In_any _ _ _ _).mono ?_; rintro e w1 ⟨rfl, rfl⟩)
            go_round
            case rel => exact ⟨k + 1, by omega, by go_num, HU.out.succ HX.out ⟨hr, fun z _ hz => by have e := HY.out.symm.trans hz; injection e with e; subst e; exact hyx⟩⟩
            case measure => simp [intOf]; omega
          · have hnx : x ≤ y := by omega
            go_wp2_with (go_at_call 19; refine (l1In_any _ _ _ _).mono ?_; rintro e w1 ⟨rfl, rfl⟩)
            go_ret
            exact ⟨ret_bool (riseB_not HX.out fun h => by have := h.2 y hk0 HY.out; omega).symm, rfl⟩
    · obtain rfl : k = l.length := by omega
      go_wp2
      go_ret
      exact ⟨ret_bool ((riseB_iff lo hi l).2 HU.out).symm, rfl⟩

set_option maxRecDepth 100000 in
set_option maxHeartbeats 1000000 in
theorem inGood_any (A : Option Addr) (l : List Int) (c : Nat) (r : Int) (w : World) (hn : l.length ≤ 1048576) (hA : RI w A l) :
    Calls Tryz.prog 30 #[.agg #[.slice A l.length c, .int .i64 r]] w fun e w' => e = .returned (.bool (gdI l r)) ∧ Below w.heap.size w w' := by
  go_enter Tryz.func30, Tryz.ntmps30
  go_wp2_with (first
    | (go_at_call 19; refine (l1In_any _ _ _ _).mono ?_; rintro e w1 ⟨rfl, rfl⟩)
    | (go_at_call 38; refine (rising_any _ _ _ _ _ _ hn (hA.below ((Below.refl _ _).alloc (Nat.le_refl _) _))).mono ?_; rintro e w1 ⟨rfl, rfl⟩))
  go_ways
  all_goals (go_ret; exact ⟨ret_bool (by simp [gdI, *]), (Below.refl _ _).alloc (Nat.le_refl _) _⟩)

set_option maxRecDepth 100000 in
set_option maxHeartbeats 1000000 in
theorem inTrack_any (A : Option Addr) (l : List Int) (c : Nat) (r p : Int) (w : World) (hn : l.length ≤ 1048576) (hA : RI w A l) :
    Calls Tryz.prog 44 #[.agg #[.slice A l.length c, .int .i64 r], .int .i64 p] w fun e w' => e = .returned (.int .i64 (trk p l)) ∧ Below w.heap.size w w' := by
  have hA1 := hA.below ((Below.refl w.heap.size w).alloc (Nat.le_refl _) (.cells #[.slice A l.length c, .int .i64 r] 31))
  have hb1 := fun o => (Below.refl w.heap.size w).alloc (Nat.le_refl _) o
  go_enter Tryz.func44, Tryz.ntmps44
  go_wp2
  go_loop [10] (fun i => ∃ k : Nat, k ≤ l.length ∧ i = .int .i64 k ∧ trk p l = trkF p (l.drop k) k)
    (fun i => l.length - (intOf i).toNat)
  case atStart => exact ⟨0, Nat.zero_le _, rfl, rfl⟩
  case round =>
    obtain ⟨k, hk, rfl, ht⟩ := hrel
    have HT := Lib.hid ht
    clear ht
    by_cases hlt : k < l.length
    · have hx : l[k]? = some l[k] := List.getElem?_eq_getElem hlt
      generalize l[k] = x at hx
      obtain ⟨g, o, rfl, hg, h0⟩ := hA1 k _ hx
      have i1 : (0 : Int) ≤ (k : Int) := by omega
      have i2 : (k : Int) < (l.length : Int) := by omega
      have hs := trkF_drop p l k x hx
      have HX := Lib.hid hx
      have HS := Lib.hid hs
      clear hx hs hA
      by_cases he : x = p
      · subst he
        go_wp2
        go_ret
        exact ⟨ret_int (by rw [HT.out, HS.out]; simp), hb1 _⟩
      · go_wp2
        go_round
        case rel => exact ⟨k + 1, by omega, by go_num, by rw [HT.out, HS.out, if_neg he]⟩
        case measure => simp [intOf]; omega
    · obtain rfl : k = l.length := by omega
      go_wp2
      go_ret
      exact ⟨ret_int (by rw [HT.out, List.drop_length]; rfl), hb1 _⟩

/-- The table of limits, read in a world. -/
def Lim (w : World) : Prop := w.cell? ⟨0, 0, none⟩ = some (.int .i64 1) ∧ w.cell? ⟨0, 1, none⟩ = some (.int .i64 20) ∧ w.cell? ⟨0, 2, none⟩ = some (.int .i64 1) ∧ w.cell? ⟨0, 3, none⟩ = some (.int .i64 20) ∧ 0 < w.heap.size
theorem Lim.below {w w' : World} (h : Lim w) (hb : Below w.heap.size w w') : Lim w' := by
  obtain ⟨a, b, c, d, e⟩ := h
  exact ⟨(hb.cell e).trans a, (hb.cell e).trans b, (hb.cell e).trans c, (hb.cell e).trans d, Nat.lt_of_lt_of_le e hb.size⟩

set_option maxRecDepth 100000 in
set_option maxHeartbeats 1000000 in
theorem keepsLimit0 (n : Int) (w : World) (hL : Lim w) :
    Calls Tryz.prog 72 #[.int .i64 n, .int .i64 0] w fun e w' => e = .returned (.bool (inR n 1 20)) ∧ Below w.heap.size w w' := by
  obtain ⟨a, b, c, d, hz⟩ := hL
  go_enter Tryz.func72, Tryz.ntmps72
  go_wp2_with fail
  go_region_with (go_at_call 24; refine (inRange_any _ _ _ _).mono ?_; rintro e w1 ⟨rfl, rfl⟩)
  all_goals
    go_wp2
    go_ret
    exact ⟨rfl, (Below.refl _ _).drew⟩
set_option maxRecDepth 100000 in
set_option maxHeartbeats 1000000 in
theorem keepsLimit1 (n : Int) (w : World) (hL : Lim w) :
    Calls Tryz.prog 72 #[.int .i64 n, .int .i64 1] w fun e w' => e = .returned (.bool (inR n 1 20)) ∧ Below w.heap.size w w' := by
  obtain ⟨a, b, c, d, hz⟩ := hL
  go_enter Tryz.func72, Tryz.ntmps72
  go_wp2_with fail
  go_region_with (go_at_call 24; refine (inRange_any _ _ _ _).mono ?_; rintro e w1 ⟨rfl, rfl⟩)
  all_goals
    go_wp2
    go_ret
    exact ⟨rfl, (Below.refl _ _).drew⟩

set_option maxRecDepth 100000 in
set_option maxHeartbeats 2000000 in
theorem isIns_any (A : Option Addr) (l : List Int) (c : Nat) (r : Int) (w : World) (hn : l.length ≤ 1048576) (hA : RI w A l) (hL : Lim w) :
    Calls Tryz.prog 60 #[.agg #[.slice A l.length c, .int .i64 r]] w fun e w' => e = .returned (.bool (gdI l r)) ∧ Below w.heap.size w w' := by
  have hb0 : Below w.heap.size w (w.alloc (.cells #[.slice A l.length c, .int .i64 r] 31)) := (Below.refl w.heap.size w).alloc (Nat.le_refl _) _
  have c0 : (w.alloc (.cells #[.slice A l.length c, .int .i64 r] 31)).cell? ⟨w.heap.size, 0, none⟩ = some (.slice A l.length c) := by rw [World.cell?_alloc_new]; rfl
  have c1 : (w.alloc (.cells #[.slice A l.length c, .int .i64 r] 31)).cell? ⟨w.heap.size, 1, none⟩ = some (.int .i64 r) := by rw [World.cell?_alloc_new]; rfl
  have hz : w.heap.size < (w.alloc (.cells #[.slice A l.length c, .int .i64 r] 31)).heap.size := by simp
  go_enter Tryz.func60, Tryz.ntmps60
  go_wp2_with fail
  have hL0 := hL.below hb0
  have hA0 := hA.below hb0
  generalize w.alloc (.cells #[.slice A l.length c, .int .i64 r] 31) = W at *
  refine (keepsLimit0 _ _ hL0).mono ?_
  rintro e w1 ⟨rfl, hb1⟩
  have c01 := (hb1.cell (p := ⟨w.heap.size, 0, none⟩) hz).trans c0
  have c11 := (hb1.cell (p := ⟨w.heap.size, 1, none⟩) hz).trans c1
  have hB1 := hb0.trans (hb1.mono hb0.size)
  have hL1 := hL0.below hb1
  have hA1 := hA0.below hb1
  have hz1 := Nat.lt_of_lt_of_le hz hb1.size
  clear hL0 hA0 c0 c1
  cases h1 : inR (l.length : Int) 1 20 with
  | false =>
    go_wp2
    go_ret
    exact ⟨ret_bool (by simp [gdI, h1]), hB1⟩
  | true =>
    go_wp2_with fail
    refine (keepsLimit1 _ _ hL1).mono ?_
    rintro e w2 ⟨rfl, hb2⟩
    have c02 := (hb2.cell (p := ⟨w.heap.size, 0, none⟩) hz1).trans c01
    have hB2 := hB1.trans (hb2.mono hB1.size)
    have hA2 := hA1.below hb2
    have hz2 := Nat.lt_of_lt_of_le hz1 hb2.size
    cases h2 : inR r 1 20 with
    | false =>
      go_wp2
      go_ret
      exact ⟨ret_bool (by simp [gdI, h1, h2]), hB2⟩
    | true =>
      clear hL1 hA1 c01 c11 hb1 hb2 hL
      go_wp2
      go_loop [19] (fun i => ∃ k : Nat, k ≤ l.length ∧ i = .int .i64 k ∧ UpTo 24 96 l k)
        (fun i => l.length - (intOf i).toNat)
      case atStart => exact ⟨0, Nat.zero_le _, rfl, UpTo.zero 24 96 l⟩
      case round =>
        obtain ⟨k, hk, rfl, hup⟩ := hrel
        have HU := Lib.hid hup
        clear hup
        by_cases hlt : k < l.length
        · have hx : l[k]? = some l[k] := List.getElem?_eq_getElem hlt
          generalize l[k] = x at hx
          obtain ⟨g, o, rfl, hg, h0⟩ := hA2 k _ hx
          have i1 : (0 : Int) ≤ (k : Int) := by omega
          have i2 : (k : Int) < (l.length : Int) := by omega
          have HX := Lib.hid hx
          clear hx
          cases hr : inR x 24 96 with
          | false =>
            go_wp2_with (go_at_call 68; refine (isPitch_any _ _).mono ?_; rintro e w1 ⟨rfl, rfl⟩)
            go_ret
            exact ⟨ret_bool (by simp [gdI, h1, riseB_not HX.out fun h => by have := h.1; rw [hr] at this; cases this]), hB2⟩
          | true =>
            rcases Nat.eq_zero_or_pos k with hk0 | hk0
            · have hd : ¬ ((0 : Int) < (k : Int)) := by omega
              have HK := Lib.hid hk0
              clear hk0
              go_wp2_with (go_at_call 68; refine (isPitch_any _ _).mono ?_; rintro e w1 ⟨rfl, rfl⟩)
              go_round
              case rel => exact ⟨k + 1, by omega, by go_num, HU.out.succ HX.out ⟨hr, fun y h => absurd h (by have := HK.out; omega)⟩⟩
              case measure => simp [intOf]; omega
            · have hd : (0 : Int) < (k : Int) := by omega
              have hy : l[k - 1]? = some l[k - 1] := List.getElem?_eq_getElem (by omega)
              generalize l[k - 1] = y at hy
              obtain ⟨g2, o2, hgo, hg2, y0⟩ := hA2 (k - 1) _ hy
              simp only [Option.some.injEq, Addr.mk.injEq, and_true] at hgo
              obtain ⟨rfl, rfl⟩ := hgo
              have i3 : (0 : Int) ≤ (k : Int) - 1 := by omega
              have i4 : (k : Int) - 1 < (l.length : Int) := by omega
              have HY := Lib.hid hy
              clear hy
              by_cases hyx : y < x
              · have hnx : ¬ x ≤ y := by omega
                go_wp2_with (go_at_call 68; refine (isPitch_any _ _).mono ?_; rintro e w1 ⟨rfl, rfl⟩)
                go_round
                case rel => exact ⟨k + 1, by omega, by go_num, HU.out.succ HX.out ⟨hr, fun z _ hz => by have e := HY.out.symm.trans hz; injection e with e; subst e; exact hyx⟩⟩
                case measure => simp [intOf]; omega
              · have hnx : x ≤ y := by omega
                go_wp2_with (go_at_call 68; refine (isPitch_any _ _).mono ?_; rintro e w1 ⟨rfl, rfl⟩)
                go_ret
                exact ⟨ret_bool (by unfold gdI; rw [h1, riseB_not (lo := 24) (hi := 96) HX.out (fun h => by have := h.2 y hk0 HY.out; omega)]; rfl), hB2⟩
        · obtain rfl : k = l.length := by omega
          go_wp2
          go_ret
          exact ⟨ret_bool (by unfold gdI; rw [h1, h2, (riseB_iff 24 96 l).2 HU.out]; rfl), hB2⟩
end Go.Proofs.YtkfgmkgbicahgaaGreatDoor

namespace Go.Proofs.YtkfgmkgbicahgaaGreatDoor
open Go.RowKit

/-- The index of the last of the first k notes that has a pitch, or -1. -/
def lastIx (p : Int) (l : List Nt) : Nat → Int
  | 0 => -1
  | k + 1 => match l[k]? with
    | some x => if x.1 = p then (k : Int) else lastIx p l k
    | none => lastIx p l k
theorem lastIx_succ {p : Int} {l : List Nt} {k : Nat} {x : Nt} (hx : l[k]? = some x) : lastIx p l (k + 1) = if x.1 = p then (k : Int) else lastIx p l k := by
  rw [lastIx, hx]
theorem lastIx_lt (p : Int) (l : List Nt) : ∀ k : Nat, -1 ≤ lastIx p l k ∧ lastIx p l k < k := by
  intro k
  induction k with
  | zero => simp [lastIx]
  | succ k ih =>
    rw [lastIx]
    split
    · split <;> omega
    · omega
/-- The pairs whose second one is among the first k notes. -/
def pairsL (l : List Nt) : Nat → List (Int × Int)
  | 0 => []
  | k + 1 => match l[k]? with
    | some x => if 0 ≤ lastIx x.1 l k then pairsL l k ++ [(lastIx x.1 l k, (k : Int))] else pairsL l k
    | none => pairsL l k
theorem pairsL_succ {l : List Nt} {k : Nat} {x : Nt} (hx : l[k]? = some x) : pairsL l (k + 1) = if 0 ≤ lastIx x.1 l k then pairsL l k ++ [(lastIx x.1 l k, (k : Int))] else pairsL l k := by
  rw [pairsL, hx]
theorem pairsL_length (l : List Nt) : ∀ k, (pairsL l k).length ≤ k := by
  intro k
  induction k with
  | zero => simp [pairsL]
  | succ k ih =>
    rw [pairsL]
    split
    · split
      · simp; omega
      · omega
    · omega
theorem pairsL_mem (l : List Nt) (a b : Int) : ∀ k, (a, b) ∈ pairsL l k → 0 ≤ a ∧ a < b ∧ b < k := by
  intro k
  induction k with
  | zero => intro h; simp [pairsL] at h
  | succ k ih =>
    intro h
    rw [pairsL] at h
    split at h
    · split at h
      · rename_i x hx h0
        rcases List.mem_append.1 h with h | h
        · have := ih h; omega
        · simp only [List.mem_singleton, Prod.mk.injEq] at h
          have := lastIx_lt x.1 l k
          omega
      · have := ih h; omega
    · have := ih h; omega
/-- By how much the starts of a pair of notes differ. -/
def apart (l : List Nt) (a b : Int) : Int := (l.getD b.toNat (0, 0, 0)).2.1 - (l.getD a.toNat (0, 0, 0)).2.1
/-- The fast ones for a repeat time. -/
def fastL (r : Int) (l : List Nt) (k : Nat) : List (Int × Int) := (pairsL l k).filter fun q => decide (apart l q.1 q.2 < r)
theorem fastL_succ {r : Int} {l : List Nt} {k : Nat} {x : Nt} (hx : l[k]? = some x) : fastL r l (k + 1) = if 0 ≤ lastIx x.1 l k ∧ apart l (lastIx x.1 l k) k < r then fastL r l k ++ [(lastIx x.1 l k, (k : Int))] else fastL r l k := by
  unfold fastL
  rw [pairsL_succ hx]
  by_cases h : 0 ≤ lastIx x.1 l k
  · rw [if_pos h, List.filter_append]
    by_cases h2 : apart l (lastIx x.1 l k) k < r
    · rw [if_pos ⟨h, h2⟩]; simp [h2]
    · rw [if_neg (fun hh => h2 hh.2)]; simp [h2]
  · rw [if_neg h, if_neg (fun hh => h hh.1)]
end Go.Proofs.YtkfgmkgbicahgaaGreatDoor

namespace Go.Proofs.YtkfgmkgbicahgaaGreatDoor
open Go.RowKit
set_option linter.unusedVariables false

theorem Tryz.info_Note : (Tryz.prog.info? 47).map (fun i => (i.zero, i.size, i.bytes)) = some (some (.agg #[.int .i64 0, .int .i64 0, .int .i64 0]), 3, 24) := by kernel_rfl

theorem make_notes (n : Nat) (hn : n ≤ 1048576) (W : World) :
    (Instr.makeSlice 33 (.int .i64 (n : Int)) (.int .i64 (n : Int))).run Tryz.prog W = .ok (.slice (some ⟨W.heap.size, 0, none⟩) n n) (W.alloc (.cells (madeCells #[.int .i64 0, .int .i64 0, .int .i64 0] (n * 3)) 47)) := by
  obtain ⟨i, hi, hz, hs, hb⟩ := info_parts Tryz.info_Note
  have h := run_make (P := Tryz.prog) W 33 47 i _ Tryz.underlying33 hi hz .i64 .i64 (n : Int) (n : Int) (by omega) (by omega) (by rw [hb]; omega) (by omega)
  rw [hs] at h
  simp only [Int.toNat_natCast] at h
  exact h

set_option maxHeartbeats 400000 in
theorem szNoteS_any (A : Option Addr) (n c : Nat) (left : Int) (w : World) (hn : n ≤ 9223372036854775807) (h0 : 0 ≤ left) (h1 : left ≤ 1048576) :
    Calls Tryz.prog 5 #[.slice A n c, .int .i64 left] w fun e w' => e = .returned (.int .i64 (if left - n < 0 then -1 else left - n)) ∧ w = w' := by
  by_cases h : left - n < 0
  all_goals
    go_enter Tryz.func5, Tryz.ntmps5
    go_wp2
    go_ret
    exact ⟨ret_int (by simp), rfl⟩

set_option maxHeartbeats 1000000 in
theorem toNoteS_any (A : Option Addr) (l : List Nt) (c : Nat) (w : World) (hn : l.length ≤ 1048576) (hA : RA w A l) :
    Calls Tryz.prog 8 #[.slice A l.length c] w fun e w' => e = .returned (.slice (some ⟨w.heap.size, 0, none⟩) l.length l.length) ∧
      Own w' w.heap.size 47 (.slice (some ⟨w.heap.size, 0, none⟩) l.length l.length) l ∧ Below w.heap.size w w' := by
  have hmk := make_notes l.length hn
  go_enter Tryz.func8, Tryz.ntmps8
  go_wp2
  go_loopw [4] (fun i wr => ∃ k : Nat, k ≤ l.length ∧ i = .int .i64 k ∧ Own wr w.heap.size 47 (.slice (some ⟨w.heap.size, 0, none⟩) l.length l.length) (l.take k ++ (List.replicate l.length (0, 0, 0)).drop k) ∧ Below w.heap.size w wr)
    (fun i _ => l.length - (intOf i).toNat)
  case atStart =>
    refine ⟨0, Nat.zero_le _, rfl, ?_, (Below.refl _ _).alloc (Nat.le_refl _) _⟩
    have h := World.ownsRow_lit (base := w.heap.size) (e := 47) (size := 3) w (madeCells #[.int .i64 0, .int .i64 0, .int .i64 0] (l.length * 3)) l.length (Nat.le_refl _) (by unfold maxLen; omega) (size_madeCells _ _)
    rw [made_cl] at h
    simpa [Own] using h
  case round =>
    obtain ⟨k, hk, rfl, hown, hb⟩ := hrel
    by_cases hlt : k < l.length
    · have hx : l[k]? = some l[k] := List.getElem?_eq_getElem hlt
      generalize l[k] = x at hx
      obtain ⟨p, s, n⟩ := x
      obtain ⟨g, o, rfl, hg, h0, h1, h2⟩ := (hA.below hb) k _ hx
      simp only at h0 h1 h2
      go_wp2_with fail
      refine (toNote_any _ _ _ _).mono ?_
      rintro e w1 ⟨rfl, hb1⟩
      have hown1 := hown.below hb1 (Nat.le_refl _)
      have hz1 : w.heap.size < w1.heap.size := (hown1.lt _ rfl).2
      have hL : (l.take k ++ (List.replicate l.length ((0, 0, 0) : Nt)).drop k).length = l.length := by simp; omega
      have hs : (List.replicate l.length ((0, 0, 0) : Nt))[k]? = some (0, 0, 0) := by rw [List.getElem?_replicate, if_pos hlt]
      unfold Own at hown1
      rw [hL] at hown1
      have f := fun j => hown1.frozenAt j
      have c0 : ∃ u, w1.cell? ⟨w.heap.size, k * 3, none⟩ = some u := by rw [hown1.cellAt _ (by omega)]; exact ⟨_, List.getElem?_eq_getElem (by rw [cl_length, hL]; omega)⟩
      have c1 : ∃ u, w1.cell? ⟨w.heap.size, k * 3 + 1, none⟩ = some u := by rw [hown1.cellAt _ (by omega)]; exact ⟨_, List.getElem?_eq_getElem (by rw [cl_length, hL]; omega)⟩
      have c2 : ∃ u, w1.cell? ⟨w.heap.size, k * 3 + 2, none⟩ = some u := by rw [hown1.cellAt _ (by omega)]; exact ⟨_, List.getElem?_eq_getElem (by rw [cl_length, hL]; omega)⟩
      obtain ⟨u0, c0⟩ := c0
      obtain ⟨u1, c1⟩ := c1
      obtain ⟨u2, c2⟩ := c2
      have f0 := f (k * 3)
      have f1 := f (k * 3 + 1)
      have f2 := f (k * 3 + 2)
      have H := Lib.hid hown1
      have HL := Lib.hid hL
      have HX := Lib.hid hx
      clear f hown1 hL hx hs hA hown
      go_wp2
      go_roundw
      case rel =>
        refine ⟨k + 1, by omega, by go_num, ?_, ((hb.trans (hb1.mono hb.size)).setCell (by simp) _ |>.setCell (by simp) _).setCell (by simp) _⟩
        have k1 := ((H.out.stored (k * 3) (.int .i64 p)).1.stored (k * 3 + 1) (.int .i64 s)).1.stored (k * 3 + 2) (.int .i64 n)
        have k2 := k1.1
        rw [cl_set _ _ (p, s, n) (by rw [HL.out]; exact hlt), take_set l _ k _ HX.out (by simpa using hlt)] at k2
        unfold Own
        have hL' : (l.take (k + 1) ++ (List.replicate l.length ((0, 0, 0) : Nt)).drop (k + 1)).length = l.length := by simp; omega
        rw [hL']
        exact k2
      case measure => simp [intOf]; omega
    · obtain rfl : k = l.length := by omega
      go_wp2
      go_ret
      exact ⟨rfl, by simpa using hown, hb⟩

set_option maxRecDepth 100000 in
set_option maxHeartbeats 1000000 in
theorem eqNoteS_any (A B : Option Addr) (l m : List Nt) (c d : Nat) (w : World) (hl : l.length ≤ 9223372036854775807) (hm : m.length ≤ 9223372036854775807) (hA : RA w A l) (hB : RA w B m) :
    Calls Tryz.prog 12 #[.slice A l.length c, .slice B m.length d] w fun e w' => e = .returned (.bool (decide (l = m))) ∧ Below w.heap.size w w' := by
  by_cases hlen : l.length = m.length
  · go_enter Tryz.func12, Tryz.ntmps12
    have hne : ((l.length : Int) != (m.length : Int)) = false := by simp [hlen]
    have HLEN := Lib.hid hlen
    clear hlen
    go_wp2
    go_loopw [5] (fun i wr => ∃ k : Nat, k ≤ l.length ∧ i = .int .i64 k ∧ l.take k = m.take k ∧ Below w.heap.size w wr)
      (fun i _ => l.length - (intOf i).toNat)
    case atStart => exact ⟨0, Nat.zero_le _, rfl, by simp, Below.refl _ _⟩
    case round =>
      obtain ⟨k, hk, rfl, htake, hb⟩ := hrel
      have HT := Lib.hid htake
      clear htake
      by_cases hlt : k < l.length
      · have hlt' : k < m.length := by have := HLEN.out; omega
        have hx : l[k]? = some l[k] := List.getElem?_eq_getElem hlt
        have hy : m[k]? = some m[k] := List.getElem?_eq_getElem hlt'
        generalize l[k] = x at hx
        generalize m[k] = y at hy
        obtain ⟨p, s, n⟩ := x
        obtain ⟨p', s', n'⟩ := y
        obtain ⟨g, o, rfl, hg, h0, h1, h2⟩ := (hA.below hb) k _ hx
        obtain ⟨g', o', rfl, hg', h0', h1', h2'⟩ := (hB.below hb) k _ hy
        simp only at h0 h1 h2 h0' h1' h2'
        have i1 : (0 : Int) ≤ (k : Int) := by omega
        have i2 : (k : Int) < (l.length : Int) := by omega
        have i3 : (k : Int) < (m.length : Int) := by omega
        have HX := Lib.hid hx
        have HY := Lib.hid hy
        clear hx hy hA hB
        go_wp2_with fail
        refine wp_region_still_tail 8 (by kernel_rfl) (by kernel_rfl) ?_
        change wpStill _ _ (World.drew _) (fun a' => wpList _ _ _ _ a' (World.drew _)) _ _
        simp only [List.take_succ_cons, List.take_zero, List.drop_succ_cons, List.drop_zero]
        repeat still_step
        try refine wpStill_nil ?_
        by_cases he : eqB p s n p' s' n' = true
        · go_wp2_with (go_at_call 28; refine (eqNote_any _ _ _ _ _ _ _).mono ?_; rintro e w1 ⟨rfl, hb1⟩)
          go_roundw
          case rel =>
            refine ⟨k + 1, by omega, by go_num, ?_, hb.drew.trans (hb1.mono hb.size)⟩
            rw [List.take_add_one, List.take_add_one, HT.out, HX.out, HY.out]
            simp [eqB] at he
            obtain ⟨rfl, rfl, rfl⟩ := he
            rfl
          case measure => simp [intOf]; omega
        · go_wp2_with (go_at_call 28; refine (eqNote_any _ _ _ _ _ _ _).mono ?_; rintro e w1 ⟨rfl, hb1⟩)
          go_ret
          refine ⟨ret_bool ?_, hb.drew.trans (hb1.mono hb.size)⟩
          have : l ≠ m := by
            rintro rfl
            have := HX.out.symm.trans HY.out
            simp at this
            obtain ⟨rfl, rfl, rfl⟩ := this
            simp [eqB] at he
          simp [this]
      · obtain rfl : k = l.length := by omega
        go_wp2
        go_ret
        refine ⟨ret_bool ?_, hb⟩
        have : l = m := by
          have h := HT.out
          rw [List.take_length, HLEN.out, List.take_length] at h
          exact h
        simp [this]
  · go_enter Tryz.func12, Tryz.ntmps12
    have hne : ((l.length : Int) != (m.length : Int)) = true := by simp; omega
    go_wp2
    go_ret
    exact ⟨ret_bool (by simp; intro h; exact hlen (by rw [h])), Below.refl _ _⟩

set_option maxRecDepth 100000 in
set_option maxHeartbeats 1000000 in
theorem markNoteS_any (v : Value) (l : List Nt) (K : Int) (base : Nat) (w : World) (hn : l.length ≤ 1048576) (hK : 0 ≤ K) (hK' : K ≤ 1048576) (hv : Own w base 47 v l) :
    Calls Tryz.prog 14 #[v, .int .i64 K] w fun e w' => e = .returned (.int .i64 (K + 3 * l.length)) ∧ Own w' base 47 v (mk l.length K) ∧ w.grownBy w' v.ownBlock := by
  have hv0 := hv
  rcases hv.2 with ⟨rfl, h0⟩ | ⟨g, cap, cur, rfl, hg, hh, hnc, hm, hs, ht⟩
  · obtain rfl : l = [] := List.eq_nil_of_length_eq_zero h0
    go_enter Tryz.func14, Tryz.ntmps14
    go_wp2
    go_rounds 1
    go_ret
    exact ⟨ret_int (by simp), hv0, World.grownBy.refl w _⟩
  · have hlt : g < w.heap.size := (hv0.lt _ rfl).2
    clear hh hs ht cur
    go_enter Tryz.func14, Tryz.ntmps14
    go_wp2
    go_loopw [1, 5] (fun q i wr => ∃ k : Nat, k ≤ l.length ∧ i = .int .i64 k ∧ q = .int .i64 (K + 3 * k) ∧ Own wr base 47 (.slice (some ⟨g, 0, none⟩) l.length cap) (mk k K ++ l.drop k) ∧ w.grownBy wr (some g))
      (fun _ i _ => l.length - (intOf i).toNat)
    case atStart => exact ⟨0, Nat.zero_le _, rfl, by simp, by simpa [mk] using hv0, World.grownBy.refl w _⟩
    case round =>
      obtain ⟨k, hk, rfl, rfl, hown, hgr⟩ := hrel
      have hL : (mk k K ++ l.drop k).length = l.length := by simp [mk_length]; omega
      by_cases hk2 : k < l.length
      · unfold Own at hown
        rw [hL] at hown
        have f := fun j => hown.frozenAt j
        have c0 : ∃ u, wr.cell? ⟨g, k * 3, none⟩ = some u := by rw [hown.cellAt _ (by omega)]; exact ⟨_, List.getElem?_eq_getElem (by rw [cl_length, hL]; omega)⟩
        have c1 : ∃ u, wr.cell? ⟨g, k * 3 + 1, none⟩ = some u := by rw [hown.cellAt _ (by omega)]; exact ⟨_, List.getElem?_eq_getElem (by rw [cl_length, hL]; omega)⟩
        have c2 : ∃ u, wr.cell? ⟨g, k * 3 + 2, none⟩ = some u := by rw [hown.cellAt _ (by omega)]; exact ⟨_, List.getElem?_eq_getElem (by rw [cl_length, hL]; omega)⟩
        obtain ⟨u0, c0⟩ := c0
        obtain ⟨u1, c1⟩ := c1
        obtain ⟨u2, c2⟩ := c2
        have f0 := f (k * 3)
        have f1 := f (k * 3 + 1)
        have f2 := f (k * 3 + 2)
        have H := Lib.hid hown
        have HL := Lib.hid hL
        clear f hown hL hv hv0
        go_wp2
        go_roundw
        case rel =>
          have s1 := H.out.stored (k * 3) (.int .i64 (K + 3 * k))
          have s2 := s1.1.stored (k * 3 + 1) (.int .i64 (K + 3 * k + 1))
          have s3 := s2.1.stored (k * 3 + 2) (.int .i64 (K + 3 * k + 2))
          have k2 := s3.1
          rw [cl_set _ _ (K + 3 * k, K + 3 * k + 1, K + 3 * k + 2) (by rw [HL.out]; exact hk2), mk_set l K k hk2] at k2
          have hL' : (mk (k + 1) K ++ l.drop (k + 1)).length = l.length := by simp [mk_length]; omega
          have e2 : K + 3 * (k : Int) + 1 + 1 = K + 3 * k + 2 := by omega
          refine ⟨k + 1, by omega, by go_num, by first | go_num | (congr 1; omega), ?_, ?_⟩
          · unfold Own
            rw [hL']
            first | exact k2 | (rw [e2]; exact k2)
          · first | exact ((hgr.trans s1.2).trans s2.2).trans s3.2 | (rw [e2]; exact ((hgr.trans s1.2).trans s2.2).trans s3.2)
        case measure => simp [intOf]; omega
      · obtain rfl : k = l.length := by omega
        go_wp2
        go_ret
        exact ⟨rfl, by simpa using hown, hgr⟩

end Go.Proofs.YtkfgmkgbicahgaaGreatDoor

namespace Go.Proofs.YtkfgmkgbicahgaaGreatDoor
set_option linter.unusedVariables false

/-- No later note comes before an earlier one. -/
def Srt (l : List Nt) : Prop := l.Pairwise fun a b => befN b a = false
def leN (a b : Nt) : Bool := !befN b a
def canon (l : List Nt) : List Nt := l.mergeSort leN

theorem befN_irr (a : Nt) : befN a a = false := by
  cases h : befN a a with
  | false => rfl
  | true => have := (befN_iff a a).1 h; omega
theorem befN_asym {a b : Nt} (h : befN a b = true) : befN b a = false := by
  cases h2 : befN b a with
  | false => rfl
  | true => have h1 := (befN_iff a b).1 h; have h2 := (befN_iff b a).1 h2; omega
theorem befN_false (a b : Nt) : befN a b = false ↔ ¬ (a.2.1 < b.2.1 ∨ a.2.1 = b.2.1 ∧ a.1 < b.1) := by
  rw [← befN_iff]; simp
theorem befN_trans {a b c : Nt} (h1 : befN a b = true) (h2 : befN b c = true) : befN a c = true := by
  rw [befN_iff] at *; omega
theorem befN_ntrans {a b c : Nt} (h1 : befN a b = false) (h2 : befN b c = false) : befN a c = false := by
  rw [befN_false] at *; omega
theorem canon_srt (l : List Nt) : Srt (canon l) := by
  have := List.pairwise_mergeSort (le := leN) (by intro a b c h1 h2; simp [leN] at *; exact befN_ntrans h2 h1) (by
    intro a b
    simp only [leN, Bool.or_eq_true, Bool.not_eq_true']
    cases h : befN b a with
    | false => exact .inl rfl
    | true => exact .inr (befN_asym h)) l
  exact this.imp (by intro a b h; simpa [leN] using h)
theorem canon_perm (l : List Nt) : (canon l).Perm l := List.mergeSort_perm _ _
theorem canon_length (l : List Nt) : (canon l).length = l.length := (canon_perm l).length_eq

theorem Good.bef {l : List Nt} (h : Good l) : ∀ (j i : Nat) (x y : Nt), i < j → l[i]? = some x → l[j]? = some y → befN x y = true := by
  intro j
  induction j with
  | zero => intro i x y h; omega
  | succ j ih =>
    intro i x y hij hx hy
    have hj := (List.getElem?_eq_some_iff.1 hy).1
    have hm : l[j]? = some l[j] := List.getElem?_eq_getElem (by omega)
    have h1 := (h.1 (j + 1) y hj hy).2.1 _ (by omega) hm
    rcases Nat.lt_or_ge i j with h2 | h2
    · exact befN_trans (ih i x _ h2 hx hm) h1
    · obtain rfl : i = j := by omega
      rw [hm] at hx; injection hx with hx; subst hx
      exact h1

theorem srt_uniq {zs ys : List Nt} (hp : zs.Perm ys) (hz : Srt zs) (hy : Srt ys) (hg : Good ys) : zs = ys := by
  refine List.Perm.eq_of_pairwise ?_ hz hy hp
  intro a b ha hb h1 h2
  obtain ⟨i, hi⟩ := List.mem_iff_getElem?.1 (hp.mem_iff.1 ha)
  obtain ⟨j, hj⟩ := List.mem_iff_getElem?.1 hb
  rcases Nat.lt_trichotomy i j with h | h | h
  · have := hg.bef j i a b h hi hj; rw [h2] at this; cases this
  · subst h; rw [hi] at hj; injection hj
  · have := hg.bef i j b a h hj hi; rw [h1] at this; cases this

theorem canon_good {ys l : List Nt} (hp : ys.Perm l) (hs : Srt ys) : goodB ys = goodB (canon l) ∧ (if goodB ys = true then ys else []) = (if goodB (canon l) = true then canon l else []) := by
  have hpc : ys.Perm (canon l) := hp.trans (canon_perm l).symm
  cases h1 : goodB ys with
  | true =>
    have e := srt_uniq hpc.symm (canon_srt l) hs ((goodB_iff ys).1 h1)
    rw [e, h1]
    exact ⟨rfl, rfl⟩
  | false =>
    cases h2 : goodB (canon l) with
    | false => exact ⟨rfl, rfl⟩
    | true =>
      have e := srt_uniq hpc hs (canon_srt l) ((goodB_iff _).1 h2)
      rw [e, h2] at h1
      cases h1

/-- x put in at place k. -/
theorem srt_ins {ys : List Nt} {x : Nt} {k : Nat} (hs : Srt ys) (hk : k ≤ ys.length) (hge : ∀ (j : Nat) (y : Nt), k ≤ j → ys[j]? = some y → befN x y = true) (hlt : ∀ y, 0 < k → ys[k - 1]? = some y → befN x y = false) :
    Srt (ys.take k ++ [x] ++ ys.drop k) := by
  have hs' := hs
  unfold Srt at hs
  rw [← List.take_append_drop k ys, List.pairwise_append] at hs
  unfold Srt
  rw [List.append_assoc, List.pairwise_append]
  refine ⟨hs.1, ?_, ?_⟩
  · rw [List.singleton_append, List.pairwise_cons]
    refine ⟨fun b hb => ?_, hs.2.1⟩
    obtain ⟨j, hj⟩ := List.mem_iff_getElem?.1 hb
    rw [List.getElem?_drop] at hj
    exact befN_asym (hge _ b (by omega) hj)
  · intro a ha b hb
    have hxa : befN x a = false := by
      obtain ⟨i, hi⟩ := List.mem_iff_getElem?.1 ha
      rw [List.getElem?_take] at hi
      split at hi
      · rename_i hik
        have hm : ys[k - 1]? = some (ys[k - 1]'(by omega)) := List.getElem?_eq_getElem (by omega)
        have h1 := hlt _ (by omega) hm
        rcases Nat.lt_or_ge i (k - 1) with h | h
        · have hia := List.getElem?_eq_some_iff.1 hi
          have h2 := List.pairwise_iff_getElem.1 hs' i (k - 1) hia.1 (by omega) h
          rw [hia.2] at h2
          exact befN_ntrans h1 h2
        · obtain rfl : i = k - 1 := by omega
          rw [hm] at hi; injection hi with hi; subst hi
          exact h1
      · cases hi
    rcases List.mem_cons.1 (by simpa using hb) with rfl | hb
    · exact hxa
    · exact hs.2.2 a ha b hb
theorem ins_perm (ys : List Nt) (x : Nt) (k : Nat) : (ys.take k ++ [x] ++ ys.drop k).Perm (ys ++ [x]) := by
  have h1 : (ys.take k ++ ([x] ++ ys.drop k)).Perm (ys.take k ++ (ys.drop k ++ [x])) := List.Perm.append_left _ List.perm_append_comm
  rw [← List.append_assoc, ← List.append_assoc, List.take_append_drop] at h1
  exact h1
end Go.Proofs.YtkfgmkgbicahgaaGreatDoor

namespace Go.Proofs.YtkfgmkgbicahgaaGreatDoor
open Go.RowKit
set_option linter.unusedVariables false
set_option linter.unusedSimpArgs false

theorem wp_appN (w : World) {o : Oper} {a : Act} {K : Act → World → Prop} {Q : Exit → Act → World → Prop} (s x : Operand)
    (ho : o.op = .call { callee := .builtin .append, args := #[s, x], argTypes := #[33, 33] })
    (base : Nat) (v : Value) (xs : List Nt) (hs : a.eval s = v) (hown : Own w base 47 v xs)
    (A : Option Addr) (m c : Nat) (news : List Nt) (hx : a.eval x = .slice A m c) (hl : news.length = m) (hA : A = none → c = 0)
    (hnews : RA w A news) (hsz : xs.length + m ≤ 4000000) (hbase : base ≤ w.heap.size)
    (h : ∀ v' w', Own w' base 47 v' (xs ++ news) → w.grownBy w' v.ownBlock → K (a.put o.dst v') w') : o.wp Tryz.prog a w K Q := by
  obtain ⟨i, hi, hz, hs1, hb1⟩ := info_parts Tryz.info_Note
  refine wp_app w s x 33 ho base 47 i _ 3 24 Tryz.underlying33 hi hz hs1 hb1 rfl (by decide) v xs.length (cl xs) hs hown A m c (cl news) hx (by rw [cl_length, hl]) hA (fun j u hu => hnews.cells j u hu) (cl_one news) (by unfold maxLen; omega) (by omega) hbase ?_
  intro v' w' h1 h2 h3
  refine h v' w' ?_ h2
  unfold Own
  rw [cl_append, List.length_append, hl]
  exact h1

theorem step_appN {w : World} {ops : Array Oper} {o : Oper} {a : Act} {K : Act → World → Prop} {Q : Exit → Act → World → Prop} {E : Prop} (hgd : o.guard = none) (s x : Operand)
    (ho : o.op = .call { callee := .builtin .append, args := #[s, x], argTypes := #[33, 33] })
    (base : Nat) (v : Value) (xs : List Nt) (hs : a.eval s = v) (hown : Own w base 47 v xs)
    (A : Option Addr) (m c : Nat) (news : List Nt) (hx : a.eval x = .slice A m c) (hl : news.length = m) (hA : A = none → c = 0)
    (hnews : RA w A news) (hsz : xs.length + m ≤ 4000000) (hbase : base ≤ w.heap.size)
    (h : ∀ v' w', Own w' base 47 v' (xs ++ news) → w.grownBy w' v.ownBlock → K (a.put o.dst v') w') :
    if Region.wanted o (yielded ops a.tmps) = true then Oper.wp Tryz.prog o a w K Q else E := by
  have hw : Region.wanted o (yielded ops a.tmps) = true := by simp [Region.wanted, hgd]
  rw [if_pos hw]
  exact wp_appN w s x ho base v xs hs hown A m c news hx hl hA hnews hsz hbase h

theorem wpList_appN (w : World) {ops : Array Oper} {rest : List Oper} {o : Oper} {a : Act} {Q : Exit → Act → World → Prop} (hgd : o.guard = none) (s x : Operand)
    (ho : o.op = .call { callee := .builtin .append, args := #[s, x], argTypes := #[33, 33] })
    (base : Nat) (v : Value) (xs : List Nt) (hs : a.eval s = v) (hown : Own w base 47 v xs)
    (A : Option Addr) (m c : Nat) (news : List Nt) (hx : a.eval x = .slice A m c) (hl : news.length = m) (hA : A = none → c = 0)
    (hnews : RA w A news) (hsz : xs.length + m ≤ 4000000) (hbase : base ≤ w.heap.size)
    (h : ∀ v' w', Own w' base 47 v' (xs ++ news) → w.grownBy w' v.ownBlock → wpList Tryz.prog ops Q rest (a.put o.dst v') w') : wpList Tryz.prog ops Q (o :: rest) a w :=
  wpList_plain hgd fun _ hK => wp_appN w s x ho base v xs hs hown A m c news hx hl hA hnews hsz hbase fun v' w' h2 h3 => hK _ _ (h v' w' h2 h3)
end Go.Proofs.YtkfgmkgbicahgaaGreatDoor

namespace Go.Proofs.YtkfgmkgbicahgaaGreatDoor.H
open Go.RowKit
set_option linter.unusedVariables false

set_option maxRecDepth 100000 in
set_option maxHeartbeats 1000000 in
theorem compareNotes_any (p s n p' s' n' : Int) (w : World) :
    Calls Tryz.prog 70 #[.agg #[.int .i64 p, .int .i64 s, .int .i64 n], .agg #[.int .i64 p', .int .i64 s', .int .i64 n']] w
      fun e w' => e = .returned (.int .i64 (cmpN p s p' s')) ∧ Below w.heap.size w w' := by
  go_enter Tryz.func70, Tryz.ntmps70
  go_wp2_with fail
  refine wp_region_still_tail 10 (by kernel_rfl) (by kernel_rfl) ?_
  change wpStill _ _ (World.drew _) (fun a' => wpList _ _ _ _ a' (World.drew _)) _ _
  simp only [List.take_succ_cons, List.take_zero, List.drop_succ_cons, List.drop_zero]
  repeat still_step
  still_call (cmpCompare_same _ _ _)
  repeat still_step
  still_call (cmpCompare_same _ _ _)
  repeat still_step
  try refine wpStill_nil ?_
  go_wp2_with (go_at_call 77; refine (cmpOr_any _ (cmpZ s s') (cmpZ p p') _ (by go_simp) (by go_simp)).mono ?_; rintro e w1 ⟨rfl, rfl⟩)
  go_ret
  exact ⟨rfl, by first | exact ((((Below.refl _ _).alloc (Nat.le_refl _) _).alloc (by simp) _).drew).alloc (by simp; omega) _ | exact ((((Below.refl _ _).alloc (Nat.le_refl _) _).alloc (by simp) _).alloc (by simp; omega) _).drew⟩
end Go.Proofs.YtkfgmkgbicahgaaGreatDoor.H

namespace Go.Proofs.YtkfgmkgbicahgaaGreatDoor
open Go.RowKit Go.Sort
set_option linter.unusedVariables false
set_option linter.unusedSimpArgs false

/-- The cells of numbers as the shelf's contracts ask for them. -/
theorem RI.getD {w : World} {g o : Nat} {l : List Int} (h : RI w (some ⟨g, o, none⟩) l) : ∀ j, j < l.length → w.cell? ⟨g, o + j, none⟩ = some (.int .i64 (l.getD j 0)) := by
  intro j hj
  obtain ⟨g', o', hgo, _, h0⟩ := h j l[j] (List.getElem?_eq_getElem hj)
  simp only [Option.some.injEq, Addr.mk.injEq, and_true] at hgo
  obtain ⟨rfl, rfl⟩ := hgo
  rw [h0, List.getD_eq_getElem?_getD, List.getElem?_eq_getElem hj]
  rfl
theorem idxFrom_trk (p : Int) : ∀ (l : List Int) (k : Nat), Lib.idxFrom l p k = trkF p l k
  | [], _ => rfl
  | x :: l, k => by
    have ih := idxFrom_trk p l (k + 1)
    unfold Lib.idxFrom trkF
    rw [ih]
    simp
theorem hasPitch_some (l : List Int) (p : Int) : l.contains p = hasB l p := by
  rw [Bool.eq_iff_iff, hasB_iff]; simp

set_option maxRecDepth 100000 in
set_option maxHeartbeats 1000000 in
theorem contains_any (A : Option Addr) (l : List Int) (c : Nat) (p : Int) (w : World) (hn : l.length ≤ 1048576) (hA : RI w A l) :
    Calls Tryz.prog 74 #[.slice A l.length c, .int .i64 p] w fun e w' => e = .returned (.bool (hasB l p)) ∧ w' = w := by
  cases l with
  | nil => exact (Tryz.slices_Contains_int_empty A c p w).mono fun e w' ⟨he, hw⟩ => ⟨by rw [he]; rfl, hw⟩
  | cons x l =>
    obtain ⟨g, o, rfl, _, _⟩ := hA 0 x rfl
    refine (Tryz.slices_Contains_int g o (x :: l).length c (x :: l) p w (Nat.le_refl _) (by omega) hA.getD).mono fun e w' ⟨he, hw⟩ => ⟨?_, hw⟩
    rw [he, List.take_length, hasPitch_some]
theorem index_any (A : Option Addr) (l : List Int) (c : Nat) (p : Int) (w : World) (hn : l.length ≤ 1048576) (hA : RI w A l) :
    Calls Tryz.prog 67 #[.slice A l.length c, .int .i64 p] w fun e w' => e = .returned (.int .i64 (trk p l)) ∧ w' = w := by
  cases l with
  | nil => exact (Tryz.slices_Index_int_empty A c p w).mono fun e w' ⟨he, hw⟩ => ⟨by rw [he]; rfl, hw⟩
  | cons x l =>
    obtain ⟨g, o, rfl, _, _⟩ := hA 0 x rfl
    refine (Tryz.slices_Index_int g o (x :: l).length c (x :: l) p w (Nat.le_refl _) (by omega) hA.getD).mono fun e w' ⟨he, hw⟩ => ⟨?_, hw⟩
    rw [he, List.take_length, Lib.idxOf, idxFrom_trk]
    rfl

set_option maxRecDepth 100000 in
set_option maxHeartbeats 1000000 in
theorem hasPitch_any (A : Option Addr) (l : List Int) (c : Nat) (r p : Int) (w : World) (hn : l.length ≤ 1048576) (hA : RI w A l) :
    Calls Tryz.prog 62 #[.agg #[.slice A l.length c, .int .i64 r], .int .i64 p] w fun e w' => e = .returned (.bool (hasB l p)) ∧ Below w.heap.size w w' := by
  have hb0 : Below w.heap.size w (w.alloc (.cells #[.slice A l.length c, .int .i64 r] 31)) := (Below.refl w.heap.size w).alloc (Nat.le_refl _) _
  go_enter Tryz.func62, Tryz.ntmps62
  go_wp2_with fail
  refine (contains_any _ _ _ _ _ hn (hA.below hb0)).mono ?_
  rintro e w1 ⟨rfl, rfl⟩
  go_wp2
  go_ret
  exact ⟨rfl, hb0⟩

/-- What the box of an instrument holds, seen from a later world. -/
def Box (w : World) (b : Nat) (A : Option Addr) (n c : Nat) (r : Int) : Prop := w.cell? ⟨b, 0, none⟩ = some (.slice A n c) ∧ w.cell? ⟨b, 1, none⟩ = some (.int .i64 r) ∧ b < w.heap.size
theorem Box.below {w w' : World} {b : Nat} {A : Option Addr} {n c : Nat} {r : Int} (h : Box w b A n c r) (hb : Below w.heap.size w w') : Box w' b A n c r :=
  ⟨(hb.cell (p := ⟨b, 0, none⟩) h.2.2).trans h.1, (hb.cell (p := ⟨b, 1, none⟩) h.2.2).trans h.2.1, Nat.lt_of_lt_of_le h.2.2 hb.size⟩
theorem Box.new (w : World) (A : Option Addr) (n c : Nat) (r : Int) (t : TypeId) : Box (w.alloc (.cells #[.slice A n c, .int .i64 r] t)) w.heap.size A n c r :=
  ⟨by rw [World.cell?_alloc_new]; rfl, by rw [World.cell?_alloc_new]; rfl, by simp⟩

def trR (l : List Int) (r p : Int) : Array Value := if (gdI l r && hasB l p) = true then #[.int .i64 (trk p l), .bool true] else #[.int .i64 0, .bool false]

set_option maxRecDepth 100000 in
set_option maxHeartbeats 1000000 in
theorem implTrack_any (A : Option Addr) (l : List Int) (c : Nat) (r p : Int) (w : World) (hn : l.length ≤ 1048576) (hA : RI w A l) (hL : Lim w) :
    Calls Tryz.prog 50 #[.agg #[.slice A l.length c, .int .i64 r], .int .i64 p] w fun e w' => e = .returned (.tuple (trR l r p)) ∧ Below w.heap.size w w' := by
  have hb0 : Below w.heap.size w (w.alloc (.cells #[.slice A l.length c, .int .i64 r] 31)) := (Below.refl w.heap.size w).alloc (Nat.le_refl _) _
  have hx0 := Box.new w A l.length c r 31
  go_enter Tryz.func50, Tryz.ntmps50
  go_wp2_with fail
  have hA0 := hA.below hb0
  have hL0 := hL.below hb0
  generalize w.alloc (.cells #[.slice A l.length c, .int .i64 r] 31) = W at *
  refine (isIns_any _ _ _ _ _ hn hA0 hL0).mono ?_
  rintro e w1 ⟨rfl, hb1⟩
  have hB1 := hb0.trans (hb1.mono hb0.size)
  have hx1 := hx0.below hb1
  have hA1 := hA0.below hb1
  obtain ⟨x10, x11, hz1⟩ := hx1
  cases hg : gdI l r with
  | false =>
    go_wp2
    go_ret2
    exact ⟨by simp [trR, hg], hB1⟩
  | true =>
    go_wp2_with fail
    refine (hasPitch_any _ _ _ _ _ _ hn hA1).mono ?_
    rintro e w3 ⟨rfl, hb3⟩
    have x30 := (hb3.cell (p := ⟨w.heap.size, 0, none⟩) hz1).trans x10
    have hA3 := hA1.below hb3
    have hB3 := hB1.trans (hb3.mono hB1.size)
    cases hp : hasB l p with
    | false =>
      go_wp2
      go_ret2
      exact ⟨by simp [trR, hg, hp], hB3⟩
    | true =>
      go_wp2_with fail
      refine (index_any _ _ _ _ _ hn hA3).mono ?_
      rintro e w4 ⟨rfl, rfl⟩
      go_wp2
      go_ret2
      exact ⟨by simp [trR, hg, hp], hB3⟩

def poR (l : List Int) (r t : Int) : Array Value := if (gdI l r && inR t 0 (l.length - 1)) = true then #[.int .i64 (l.getD t.toNat 0), .bool true] else #[.int .i64 0, .bool false]

end Go.Proofs.YtkfgmkgbicahgaaGreatDoor
