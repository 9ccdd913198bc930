/- Texts of the proof, run together: HHoleSlc, SortF, SrtC, Two, Cmp, Good, HHoleApp. -/
import Derived.Test.YtkfgmkgbicahgaaGreatDoorM2q
import Derived.Test.YtkfgmkgbicahgaaGreatDoorM1q
import Derived.LoopTactic
import Derived.Maps.AppendAt
import Derived.Shelf.SlGeneric
import Derived.Shelf.SlSortCmp.WholeK
import Derived.Ground.SlsfProg
import Derived.Test.YtkfgmkgbicahgaaGreatDoorProg
import Derived.Sort.OwnSortedInts
import Derived.StillTailTactics
import Derived.Deep.RegionWith
import Derived.Handy
import Derived.OwnWalk
import Derived.Deep.AppendLies
import Derived.Deep.RegionLaw
import Derived.Deep.RegionHeld3
import Derived.Lib.SliceRun
namespace Go.Proofs.YtkfgmkgbicahgaaGreatDoor.H
open Go.RowKit
set_option linter.unusedVariables false

theorem Tryz.info_Hole : (Tryz.prog.info? 54).map (fun i => (i.zero, i.size, i.bytes)) = some (some (.agg #[.int .i64 0, .int .i64 0, .int .i64 0]), 3, 24) := by kernel_rfl

theorem make_Hole (n : Nat) (hn : n ≤ 1048576) (W : World) :
    (Instr.makeSlice 28 (.int .i64 (n : Int)) (.int .i64 (n : Int))).run Tryz.prog W = .ok (.slice (some ⟨W.heap.size, 0, none⟩) n n) (W.alloc (.cells (madeCells #[.int .i64 0, .int .i64 0, .int .i64 0] (n * 3)) 54)) := by
  obtain ⟨i, hi, hz, hs, hb⟩ := info_parts Tryz.info_Hole
  have h := run_make (P := Tryz.prog) W 28 54 i _ Tryz.underlying28 hi hz .i64 .i64 (n : Int) (n : Int) (by omega) (by omega) (by rw [hb]; omega) (by omega)
  rw [hs] at h
  simp only [Int.toNat_natCast] at h
  exact h

set_option maxRecDepth 100000 in
set_option maxHeartbeats 1000000 in
theorem eqHoleS_any (A B : Option Addr) (l m : List Nt) (c d : Nat) (w : World) (hl : l.length ≤ 9223372036854775807) (hm : m.length ≤ 9223372036854775807) (hA : RA w A l) (hB : RA w B m) :
    Calls Tryz.prog 10 #[.slice A l.length c, .slice B m.length d] w fun e w' => e = .returned (.bool (decide (l = m))) ∧ Below w.heap.size w w' := by
  by_cases hlen : l.length = m.length
  · go_enter Tryz.func10, Tryz.ntmps10
    have hne : ((l.length : Int) != (m.length : Int)) = false := by simp [hlen]
    have HLEN := Lib.hid hlen
    clear hlen
    go_wp2
    go_loopw [5] (fun i wr => ∃ k : Nat, k ≤ l.length ∧ i = .int .i64 k ∧ l.take k = m.take k ∧ Below w.heap.size w wr)
      (fun i _ => l.length - (intOf i).toNat)
    case atStart => exact ⟨0, Nat.zero_le _, rfl, by simp, Below.refl _ _⟩
    case round =>
      obtain ⟨k, hk, rfl, htake, hb⟩ := hrel
      have HT := Lib.hid htake
      clear htake
      by_cases hlt : k < l.length
      · have hlt' : k < m.length := by have := HLEN.out; omega
        have hx : l[k]? = some l[k] := List.getElem?_eq_getElem hlt
        have hy : m[k]? = some m[k] := List.getElem?_eq_getElem hlt'
        generalize l[k] = x at hx
        generalize m[k] = y at hy
        obtain ⟨p, s, t⟩ := x
        obtain ⟨p', s', t'⟩ := y
        obtain ⟨g, o, rfl, hg, h0, h1, h2⟩ := (hA.below hb) k _ hx
        obtain ⟨g', o', rfl, hg', h0', h1', h2'⟩ := (hB.below hb) k _ hy
        simp only at h0 h1 h2 h0' h1' h2'
        have i1 : (0 : Int) ≤ (k : Int) := by omega
        have i2 : (k : Int) < (l.length : Int) := by omega
        have i3 : (k : Int) < (m.length : Int) := by omega
        have HX := Lib.hid hx
        have HY := Lib.hid hy
        clear hx hy hA hB
        go_wp2_with fail
        refine wp_region_still_tail 8 (by kernel_rfl) (by kernel_rfl) ?_
        change wpStill _ _ (World.drew _) (fun a' => wpList _ _ _ _ a' (World.drew _)) _ _
        simp only [List.take_succ_cons, List.take_zero, List.drop_succ_cons, List.drop_zero]
        repeat still_step
        try refine wpStill_nil ?_
        by_cases he : eqBHole p s t p' s' t' = true
        · go_wp2_with (go_at_call 26; refine (eqHole_any _ _ _ _ _ _ _).mono ?_; rintro e w1 ⟨rfl, hb1⟩)
          go_roundw
          case rel =>
            refine ⟨k + 1, by omega, by go_num, ?_, hb.drew.trans (hb1.mono hb.size)⟩
            rw [List.take_add_one, List.take_add_one, HT.out, HX.out, HY.out]
            simp [eqBHole] at he
            obtain ⟨rfl, rfl, rfl⟩ := he
            rfl
          case measure => simp [intOf]; omega
        · go_wp2_with (go_at_call 26; refine (eqHole_any _ _ _ _ _ _ _).mono ?_; rintro e w1 ⟨rfl, hb1⟩)
          go_ret
          refine ⟨ret_bool ?_, hb.drew.trans (hb1.mono hb.size)⟩
          have : l ≠ m := by
            rintro rfl
            have := HX.out.symm.trans HY.out
            simp at this
            obtain ⟨rfl, rfl, rfl⟩ := this
            simp [eqBHole] at he
          simp [this]
      · obtain rfl : k = l.length := by omega
        go_wp2
        go_ret
        refine ⟨ret_bool ?_, hb⟩
        have : l = m := by
          have h := HT.out
          rw [List.take_length, HLEN.out, List.take_length] at h
          exact h
        simp [this]
  · go_enter Tryz.func10, Tryz.ntmps10
    have hne : ((l.length : Int) != (m.length : Int)) = true := by simp; omega
    go_wp2
    go_ret
    exact ⟨ret_bool (by simp; intro h; exact hlen (by rw [h])), Below.refl _ _⟩

set_option maxRecDepth 100000 in
set_option maxHeartbeats 1000000 in
theorem heldHoleS_any (A : Option Addr) (K : Int) (n c : Nat) (w : World) (hn : n ≤ 1048576) (hK : 0 ≤ K) (hK' : K ≤ 1048576) (hA : RA w A (mk n K)) :
    Calls Tryz.prog 16 #[.slice A n c, .int .i64 K] w fun e w' => e = .returned (.int .i64 (K + 3 * n)) ∧ w = w' := by
  go_enter Tryz.func16, Tryz.ntmps16
  go_wp2
  go_loop [1, 5] (fun q i => ∃ k : Nat, k ≤ n ∧ i = .int .i64 k ∧ q = .int .i64 (K + 3 * k))
    (fun _ i => n - (intOf i).toNat)
  case atStart => exact ⟨0, Nat.zero_le _, rfl, by simp⟩
  case round =>
    obtain ⟨k, hk, rfl, rfl⟩ := hrel
    by_cases hlt : k < n
    · obtain ⟨g, o, rfl, hg, h0, h1, h2⟩ := hA k _ (mk_get n K k hlt)
      simp only at h0 h1 h2
      clear hA
      go_wp2
      go_round
      case rel => exact ⟨k + 1, by omega, by go_num, by first | go_num | (congr 1; omega)⟩
      case measure => simp [intOf]; omega
    · obtain rfl : k = n := by omega
      go_wp2
      go_ret
      exact ⟨rfl, rfl⟩

set_option maxRecDepth 100000 in
set_option maxHeartbeats 1000000 in
theorem markHoleS_any (v : Value) (l : List Nt) (K : Int) (base : Nat) (w : World) (hn : l.length ≤ 1048576) (hK : 0 ≤ K) (hK' : K ≤ 1048576) (hv : Own w base 54 v l) :
    Calls Tryz.prog 15 #[v, .int .i64 K] w fun e w' => e = .returned (.int .i64 (K + 3 * l.length)) ∧ Own w' base 54 v (mk l.length K) ∧ w.grownBy w' v.ownBlock := by
  have hv0 := hv
  rcases hv.2 with ⟨rfl, h0⟩ | ⟨g, cap, cur, rfl, hg, hh, hnc, hm, hs, ht⟩
  · obtain rfl : l = [] := List.eq_nil_of_length_eq_zero h0
    go_enter Tryz.func15, Tryz.ntmps15
    go_wp2
    go_rounds 1
    go_ret
    exact ⟨ret_int (by simp), hv0, World.grownBy.refl w _⟩
  · have hlt : g < w.heap.size := (hv0.lt _ rfl).2
    clear hh hs ht cur
    go_enter Tryz.func15, Tryz.ntmps15
    go_wp2
    go_loopw [1, 5] (fun q i wr => ∃ k : Nat, k ≤ l.length ∧ i = .int .i64 k ∧ q = .int .i64 (K + 3 * k) ∧ Own wr base 54 (.slice (some ⟨g, 0, none⟩) l.length cap) (mk k K ++ l.drop k) ∧ w.grownBy wr (some g))
      (fun _ i _ => l.length - (intOf i).toNat)
    case atStart => exact ⟨0, Nat.zero_le _, rfl, by simp, by simpa [mk] using hv0, World.grownBy.refl w _⟩
    case round =>
      obtain ⟨k, hk, rfl, rfl, hown, hgr⟩ := hrel
      have hL : (mk k K ++ l.drop k).length = l.length := by simp [mk_length]; omega
      by_cases hk2 : k < l.length
      · unfold Own at hown
        rw [hL] at hown
        have f := fun j => hown.frozenAt j
        have c0 : ∃ u, wr.cell? ⟨g, k * 3, none⟩ = some u := by rw [hown.cellAt _ (by omega)]; exact ⟨_, List.getElem?_eq_getElem (by rw [cl_length, hL]; omega)⟩
        have c1 : ∃ u, wr.cell? ⟨g, k * 3 + 1, none⟩ = some u := by rw [hown.cellAt _ (by omega)]; exact ⟨_, List.getElem?_eq_getElem (by rw [cl_length, hL]; omega)⟩
        have c2 : ∃ u, wr.cell? ⟨g, k * 3 + 2, none⟩ = some u := by rw [hown.cellAt _ (by omega)]; exact ⟨_, List.getElem?_eq_getElem (by rw [cl_length, hL]; omega)⟩
        obtain ⟨u0, c0⟩ := c0
        obtain ⟨u1, c1⟩ := c1
        obtain ⟨u2, c2⟩ := c2
        have f0 := f (k * 3)
        have f1 := f (k * 3 + 1)
        have f2 := f (k * 3 + 2)
        have H := Lib.hid hown
        have HL := Lib.hid hL
        clear f hown hL hv hv0
        go_wp2
        go_roundw
        case rel =>
          have s1 := H.out.stored (k * 3) (.int .i64 (K + 3 * k))
          have s2 := s1.1.stored (k * 3 + 1) (.int .i64 (K + 3 * k + 1))
          have s3 := s2.1.stored (k * 3 + 2) (.int .i64 (K + 3 * k + 2))
          have k2 := s3.1
          rw [cl_set _ _ (K + 3 * k, K + 3 * k + 1, K + 3 * k + 2) (by rw [HL.out]; exact hk2), mk_set l K k hk2] at k2
          have hL' : (mk (k + 1) K ++ l.drop (k + 1)).length = l.length := by simp [mk_length]; omega
          have e2 : K + 3 * (k : Int) + 1 + 1 = K + 3 * k + 2 := by omega
          refine ⟨k + 1, by omega, by go_num, by first | go_num | (congr 1; omega), ?_, ?_⟩
          · unfold Own
            rw [hL']
            first | exact k2 | (rw [e2]; exact k2)
          · first | exact (((hgr.trans s1.2).trans s2.2).trans s3.2) | (rw [e2]; exact (((hgr.trans s1.2).trans s2.2).trans s3.2))
        case measure => simp [intOf]; omega
      · obtain rfl : k = l.length := by omega
        go_wp2
        go_ret
        exact ⟨rfl, by simpa using hown, hgr⟩

end Go.Proofs.YtkfgmkgbicahgaaGreatDoor.H

namespace Go.Proofs
open Go.Shelf
def Tryz.sortNotesF_ren : Go.Shelf.Ren := ⟨fun | 6 => 71 | 15 => 76 | 14 => 79 | 28 => 89 | 29 => 90 | 20 => 92 | 21 => 93 | 22 => 94 | 23 => 95 | 24 => 96 | 25 => 97 | 26 => 98 | 27 => 99 | 46 => 105 | 47 => 101 | 48 => 102 | 49 => 106 | 50 => 107 | 57 => 109 | n => n, fun | 22 => 28 | 24 => 54 | 25 => 91 | 3 => 3 | 39 => 105 | 0 => 0 | 53 => 120 | 55 => 122 | 4 => 4 | 46 => 115 | 45 => 114 | 50 => 78 | 5 => 5 | 9 => 9 | 66 => 128 | 70 => 132 | 76 => 136 | 77 => 137 | n => n, fun | n => n⟩
theorem Tryz.sortNotesF : Go.Proofs.SlLaysF0.n6 Tryz.prog Tryz.sortNotesF_ren := {
  mixed := by kernel_rfl
  f6 := ⟨Tryz.f71.name, by decide, Tryz.func71.trans (congrArg some (by kernel_rfl))⟩
  f14 := ⟨Tryz.f79.name, by decide, Tryz.func79.trans (congrArg some (by kernel_rfl))⟩
  f15 := Tryz.func76.trans (congrArg some (by kernel_rfl))
  f20 := ⟨Tryz.f92.name, by decide, Tryz.func92.trans (congrArg some (by kernel_rfl))⟩
  f21 := ⟨Tryz.f93.name, by decide, Tryz.func93.trans (congrArg some (by kernel_rfl))⟩
  f22 := ⟨Tryz.f94.name, by decide, Tryz.func94.trans (congrArg some (by kernel_rfl))⟩
  f23 := ⟨Tryz.f95.name, by decide, Tryz.func95.trans (congrArg some (by kernel_rfl))⟩
  f24 := ⟨Tryz.f96.name, by decide, Tryz.func96.trans (congrArg some (by kernel_rfl))⟩
  f25 := ⟨Tryz.f97.name, by decide, Tryz.func97.trans (congrArg some (by kernel_rfl))⟩
  f26 := ⟨Tryz.f98.name, by decide, Tryz.func98.trans (congrArg some (by kernel_rfl))⟩
  f27 := ⟨Tryz.f99.name, by decide, Tryz.func99.trans (congrArg some (by kernel_rfl))⟩
  f28 := Tryz.func89.trans (congrArg some (by kernel_rfl))
  f29 := Tryz.func90.trans (congrArg some (by kernel_rfl))
  f46 := ⟨Tryz.f105.name, by decide, Tryz.func105.trans (congrArg some (by kernel_rfl))⟩
  f47 := Tryz.func101.trans (congrArg some (by kernel_rfl))
  f48 := Tryz.func102.trans (congrArg some (by kernel_rfl))
  f49 := ⟨Tryz.f106.name, by decide, Tryz.func106.trans (congrArg some (by kernel_rfl))⟩
  f50 := ⟨Tryz.f107.name, by decide, Tryz.func107.trans (congrArg some (by kernel_rfl))⟩
  f57 := ⟨Tryz.f109.name, by decide, Tryz.func109.trans (congrArg some (by kernel_rfl))⟩
  t0 := Tryz.underlying0
  a0 := Tryz.isAgg0
  z0 := Tryz.sizeOf0
  v0 := Tryz.zeroValue0
  t3 := Tryz.underlying3
  a3 := Tryz.isAgg3
  z3 := Tryz.sizeOf3
  v3 := Tryz.zeroValue3
  t4 := Tryz.underlying4
  a4 := Tryz.isAgg4
  z4 := Tryz.sizeOf4
  v4 := Tryz.zeroValue4
  t5 := Tryz.underlying5
  a5 := Tryz.isAgg5
  z5 := Tryz.sizeOf5
  v5 := Tryz.zeroValue5
  t9 := Tryz.underlying9
  a9 := Tryz.isAgg9
  z9 := Tryz.sizeOf9
  v9 := Tryz.zeroValue9
  t22 := Tryz.underlying28
  a22 := Tryz.isAgg28
  z22 := Tryz.sizeOf28
  v22 := Tryz.zeroValue28
  t25 := Tryz.underlying91
  a25 := Tryz.isAgg91
  z25 := Tryz.sizeOf91
  v25 := Tryz.zeroValue91
  t39 := Tryz.underlying105
  a39 := Tryz.isAgg105
  z39 := Tryz.sizeOf105
  v39 := Tryz.zeroValue105
  t45 := Tryz.underlying114
  a45 := Tryz.isAgg114
  z45 := Tryz.sizeOf114
  v45 := Tryz.zeroValue114
  t46 := Tryz.underlying115
  a46 := Tryz.isAgg115
  z46 := Tryz.sizeOf115
  v46 := Tryz.zeroValue115
  t50 := Tryz.underlying78
  a50 := Tryz.isAgg78
  z50 := Tryz.sizeOf78
  v50 := Tryz.zeroValue78
  t53 := Tryz.underlying120
  a53 := Tryz.isAgg120
  z53 := Tryz.sizeOf120
  v53 := Tryz.zeroValue120
  t55 := Tryz.underlying122
  a55 := Tryz.isAgg122
  z55 := Tryz.sizeOf122
  v55 := Tryz.zeroValue122
  t66 := Tryz.underlying128
  a66 := Tryz.isAgg128
  z66 := Tryz.sizeOf128
  v66 := Tryz.zeroValue128
  t70 := Tryz.underlying132
  a70 := Tryz.isAgg132
  z70 := Tryz.sizeOf132
  v70 := Tryz.zeroValue132
  t76 := Tryz.underlying136
  a76 := Tryz.isAgg136
  z76 := Tryz.sizeOf136
  v76 := Tryz.zeroValue136
  t77 := Tryz.underlying137
  a77 := Tryz.isAgg137
  z77 := Tryz.sizeOf137
  v77 := Tryz.zeroValue137 }
end Go.Proofs

namespace Go.Proofs.YtkfgmkgbicahgaaGreatDoor
open Go.RowKit Go.Sort
set_option linter.unusedVariables false
set_option linter.unusedSimpArgs false

/-- The sort of a row of the call's own. -/
theorem sortI_any (v : Value) (zs : List Int) (base : Nat) (w : World) (hl : zs.length ≤ 1000000) (hv : OwnI w base 3 v zs) :
    Calls Tryz.prog 63 #[v] w fun e w' => e = .returned (.tuple #[]) ∧ OwnI w' base 3 v (zs.mergeSort fun x y => decide (x ≤ y)) ∧ w.grownBy w' v.ownBlock := by
  have hv0 := hv
  rcases hv.2 with ⟨rfl, h0⟩ | ⟨g, cap, cur, rfl, hg, hh, hnc, hm, hs, ht⟩
  · obtain rfl : zs = [] := List.eq_nil_of_length_eq_zero h0
    refine (Tryz.slices_Sort_int_none none 0 w).mono ?_
    rintro e w' ⟨rfl, rfl⟩
    exact ⟨rfl, by simpa using hv0, World.grownBy.refl _ _⟩
  · have ht' : cur.toList.take zs.length = zs.map (Value.int .i64) := by have h := ht; rw [Nat.mul_one] at h; exact h
    refine (Tryz.slices_Sort_int g 0 cap zs w (holds_of_blockI hh ht') (hv0.lt _ rfl).2 (by omega)).mono ?_
    rintro e w' ⟨rfl, n, os, rfl⟩
    refine ⟨rfl, ?_, grownBy_sortedI _⟩
    have h := ownsRow_sortedI (n := n) (os := os) (base := base) (cap := cap) (ss := zs) (ts := zs.mergeSort fun x y => decide (x ≤ y)) (by simp) hg hh hnc hm hs
    unfold OwnI
    rw [List.length_mergeSort]
    exact h

/-- The front of a row of the call's own. -/
theorem OwnI.front {w : World} {base g n cap t : Nat} {a b : List Int} (h : OwnI w base t (.slice (some ⟨g, 0, none⟩) n cap) (a ++ b)) : OwnI w base t (.slice (some ⟨g, 0, none⟩) a.length cap) a := by
  rcases h.2 with ⟨hv, _⟩ | ⟨g', cap', cur, hv, hg, hh, hnc, hm, hs, ht⟩
  · cases hv
  · injection hv with e1 e2 e3
    simp only [Option.some.injEq, Addr.mk.injEq, and_true] at e1
    subst e1 e3
    refine ⟨by simp [ci], .inr ⟨g, cap, cur, rfl, hg, hh, by simp at hnc; omega, hm, hs, ?_⟩⟩
    have : cur.toList.take (a.length * 1) = (cur.toList.take ((a ++ b).length * 1)).take (a.length * 1) := by rw [List.take_take]; congr 1; simp
    rw [this, ht, ci_append, Nat.mul_one, ← ci_length a, List.take_left]

theorem compact_length (zs : List Int) : (Lib.compact zs).length ≤ zs.length := by
  unfold Lib.compact Lib.compactUpTo
  rw [List.length_map]
  exact Nat.le_trans (List.length_filter_le _ _) (by simp)

theorem compactI_any (v : Value) (zs : List Int) (base : Nat) (w : World) (hl : zs.length ≤ 1000000) (hv : OwnI w base 3 v zs) :
    Calls Tryz.prog 64 #[v] w fun e w' => ∃ v', e = .returned v' ∧ OwnI w' base 3 v' (Lib.compact zs) ∧ w.grownBy w' v.ownBlock := by
  have hv0 := hv
  rcases hv.2 with ⟨rfl, h0⟩ | ⟨g, cap, cur, rfl, hg, hh, hnc, hm, hs, ht⟩
  · obtain rfl : zs = [] := List.eq_nil_of_length_eq_zero h0
    refine (Tryz.slices_Compact_int_empty none 0 w).mono ?_
    rintro e w' ⟨rfl, rfl⟩
    exact ⟨_, rfl, by simpa [Lib.compact, Lib.compactUpTo] using hv0, World.grownBy.refl _ _⟩
  · have ht' : cur.toList.take zs.length = zs.map (Value.int .i64) := by have h := ht; rw [Nat.mul_one] at h; exact h
    refine (Tryz.slices_Compact_int g 0 cap zs w (holds_of_blockI hh ht') (by omega) hnc).mono ?_
    rintro e w' ⟨rfl, q, rfl⟩
    have hc := compact_length zs
    have h := ownsRow_sortedI (n := q) (os := #[]) (base := base) (cap := cap) (ss := zs) (ts := Lib.compact zs ++ List.replicate (zs.length - (Lib.compact zs).length) 0) (by simp; omega) hg hh hnc hm hs
    have hgr := grownBy_sortedI (w := w) (g := g) (n := q) (os := #[]) (Lib.compact zs ++ List.replicate (zs.length - (Lib.compact zs).length) 0).toArray
    rw [grow_empty] at h hgr
    refine ⟨_, rfl, ?_, hgr⟩
    refine OwnI.front (n := zs.length) (b := List.replicate (zs.length - (Lib.compact zs).length) 0) ?_
    have e : (Lib.compact zs ++ List.replicate (zs.length - (Lib.compact zs).length) (0 : Int)).length = zs.length := by simp; omega
    unfold OwnI
    rw [e]
    exact h

end Go.Proofs.YtkfgmkgbicahgaaGreatDoor

namespace Go.Proofs.YtkfgmkgbicahgaaGreatDoor
open Go.RowKit
set_option linter.unusedVariables false

/-- Two notes are equal. -/
def eqB (p s n p' s' n' : Int) : Bool := (p == p') && ((s == s') && (n == n'))
/-- The first of two notes (start, pitch) comes before the second one. -/
def befB (p s p' s' : Int) : Bool := decide (s < s') || ((s == s') && decide (p < p'))
/-- Two notes of one pitch sound in one step. -/
def meetB (p s n p' s' n' : Int) : Bool := (p == p') && (decide (s < s' + n') && decide (s' < s + n))
/-- -1, 0, 1 as two notes stand to each other. -/
def cmpZ (x y : Int) : Int := if x < y then -1 else if y < x then 1 else 0
def orZ (a b : Int) : Int := if a = 0 then b else a
def cmpN (p s p' s' : Int) : Int := orZ (cmpZ s s') (cmpZ p p')

set_option maxHeartbeats 400000 in
theorem toNote_any (p s n : Int) (w : World) :
    Calls Tryz.prog 22 #[.agg #[.int .i64 p, .int .i64 s, .int .i64 n]] w fun e w' => e = .returned (.agg #[.int .i64 p, .int .i64 s, .int .i64 n]) ∧ Below w.heap.size w w' := by
  go_enter Tryz.func22, Tryz.ntmps22
  go_wp2
  exact bodyPost_ret (v := .agg #[.int .i64 p, .int .i64 s, .int .i64 n]) (by simp [results, Tryz.results22, go_sem]) rfl ⟨rfl, (((Below.refl _ _).alloc (Nat.le_refl _) _).alloc (by simp) _).alloc (by simp; omega) _⟩

set_option maxHeartbeats 400000 in
theorem eqNote_any (p s n p' s' n' : Int) (w : World) :
    Calls Tryz.prog 28 #[.agg #[.int .i64 p, .int .i64 s, .int .i64 n], .agg #[.int .i64 p', .int .i64 s', .int .i64 n']] w fun e w' => e = .returned (.bool (eqB p s n p' s' n')) ∧ Below w.heap.size w w' := by
  go_enter Tryz.func28, Tryz.ntmps28
  go_wp2
  all_goals (go_ret; exact ⟨ret_bool (by first | (simp [eqB, *]; done) | (simp_all [eqB]; done) | (rw [Bool.eq_iff_iff]; simp [eqB]; omega)), ((Below.refl _ _).alloc (Nat.le_refl _) _).alloc (by simp) _⟩)

set_option maxHeartbeats 400000 in
theorem ntBefore_any (p s n p' s' n' : Int) (w : World) :
    Calls Tryz.prog 40 #[.agg #[.int .i64 p, .int .i64 s, .int .i64 n], .agg #[.int .i64 p', .int .i64 s', .int .i64 n']] w fun e w' => e = .returned (.bool (befB p s p' s')) ∧ Below w.heap.size w w' := by
  go_enter Tryz.func40, Tryz.ntmps40
  go_wp2
  all_goals (go_ret; exact ⟨ret_bool (by first | (simp [befB, *]; done) | (simp_all [befB]; done) | (rw [Bool.eq_iff_iff]; simp [befB]; omega)), ((Below.refl _ _).alloc (Nat.le_refl _) _).alloc (by simp) _⟩)

set_option maxHeartbeats 400000 in
theorem ntMeet_any (p s n p' s' n' : Int) (w : World) (h1 : 0 ≤ s) (h2 : s ≤ 999) (h3 : 0 ≤ n) (h4 : n ≤ 99) (h1' : 0 ≤ s') (h2' : s' ≤ 999) (h3' : 0 ≤ n') (h4' : n' ≤ 99) :
    Calls Tryz.prog 41 #[.agg #[.int .i64 p, .int .i64 s, .int .i64 n], .agg #[.int .i64 p', .int .i64 s', .int .i64 n']] w fun e w' => e = .returned (.bool (meetB p s n p' s' n')) ∧ Below w.heap.size w w' := by
  go_enter Tryz.func41, Tryz.ntmps41
  go_wp2
  all_goals (go_ret; exact ⟨ret_bool (by first | (simp [meetB, *]; done) | (simp_all [meetB]; done) | (rw [Bool.eq_iff_iff]; simp [meetB]; omega)), ((Below.refl _ _).alloc (Nat.le_refl _) _).alloc (by simp) _⟩)

set_option maxHeartbeats 400000 in
theorem endOfNote_any (p s n : Int) (w : World) (h1 : 0 ≤ s) (h2 : s ≤ 999) (h3 : 0 ≤ n) (h4 : n ≤ 99) :
    Calls Tryz.prog 52 #[.agg #[.int .i64 p, .int .i64 s, .int .i64 n]] w fun e w' => e = .returned (.int .i64 (s + n)) ∧ Below w.heap.size w w' := by
  go_enter Tryz.func52, Tryz.ntmps52
  go_wp2
  go_ret
  exact ⟨rfl, (Below.refl _ _).alloc (Nat.le_refl _) _⟩

set_option maxHeartbeats 400000 in
theorem cmpCompare_any (x y : Int) (w : World) :
    Calls Tryz.prog 78 #[.int .i64 x, .int .i64 y] w fun e w' => e = .returned (.int .i64 (cmpZ x y)) ∧ w = w' := by
  go_enter Tryz.func78, Tryz.ntmps78
  go_wp2
  all_goals (go_ret; exact ⟨ret_int (by unfold cmpZ; (repeat' split) <;> omega), rfl⟩)

set_option maxHeartbeats 400000 in
theorem cmpOr_any (g : Nat) (x y : Int) (w : World) (hx : w.cell? ⟨g, 0, none⟩ = some (.int .i64 x)) (hy : w.cell? ⟨g, 1, none⟩ = some (.int .i64 y)) :
    Calls Tryz.prog 77 #[.slice (some ⟨g, 0, none⟩) 2 2] w fun e w' => e = .returned (.int .i64 (orZ x y)) ∧ w = w' := by
  go_enter Tryz.func77, Tryz.ntmps77
  go_wp2
  go_rounds 3
  all_goals (go_ret; exact ⟨ret_int (by simp_all [orZ]), rfl⟩)

end Go.Proofs.YtkfgmkgbicahgaaGreatDoor

namespace Go.Proofs.YtkfgmkgbicahgaaGreatDoor
open Go.RowKit
set_option linter.unusedVariables false

theorem cmpCompare_same (x y : Int) (w : World) :
    Calls Tryz.prog 78 #[.int .i64 x, .int .i64 y] w fun e w' => e = .returned (.int .i64 (cmpZ x y)) ∧ w' = w :=
  (cmpCompare_any x y w).mono fun _ _ ⟨h, k⟩ => ⟨h, k.symm⟩

set_option maxRecDepth 100000 in
set_option maxHeartbeats 1000000 in
theorem compareNotes_any (p s n p' s' n' : Int) (w : World) :
    Calls Tryz.prog 73 #[.agg #[.int .i64 p, .int .i64 s, .int .i64 n], .agg #[.int .i64 p', .int .i64 s', .int .i64 n']] w
      fun e w' => e = .returned (.int .i64 (cmpN p s p' s')) ∧ Below w.heap.size w w' := by
  go_enter Tryz.func73, Tryz.ntmps73
  go_wp2_with fail
  refine wp_region_still_tail 10 (by kernel_rfl) (by kernel_rfl) ?_
  change wpStill _ _ (World.drew _) (fun a' => wpList _ _ _ _ a' (World.drew _)) _ _
  simp only [List.take_succ_cons, List.take_zero, List.drop_succ_cons, List.drop_zero]
  repeat still_step
  still_call (cmpCompare_same _ _ _)
  repeat still_step
  still_call (cmpCompare_same _ _ _)
  repeat still_step
  try refine wpStill_nil ?_
  go_wp2_with (go_at_call 77; refine (cmpOr_any _ (cmpZ s s') (cmpZ p p') _ (by go_simp) (by go_simp)).mono ?_; rintro e w1 ⟨rfl, rfl⟩)
  go_ret
  exact ⟨rfl, by first | exact ((((Below.refl _ _).alloc (Nat.le_refl _) _).alloc (by simp) _).drew).alloc (by simp; omega) _ | exact ((((Below.refl _ _).alloc (Nat.le_refl _) _).alloc (by simp) _).alloc (by simp; omega) _).drew⟩
end Go.Proofs.YtkfgmkgbicahgaaGreatDoor

namespace Go.Proofs.YtkfgmkgbicahgaaGreatDoor
open Go.RowKit

def noteN (x : Nt) : Bool := noteB x.1 x.2.1 x.2.2
def befN (y x : Nt) : Bool := befB y.1 y.2.1 x.1 x.2.1
def meetN (x y : Nt) : Bool := meetB x.1 x.2.1 x.2.2 y.1 y.2.1 y.2.2
/-- Note k of l is valid, behind the one before it, and meets none before it. -/
def okAt (l : List Nt) (k : Nat) (x : Nt) : Prop :=
  noteN x = true ∧ (∀ y, 0 < k → l[k - 1]? = some y → befN y x = true) ∧ ∀ j y, j < k → l[j]? = some y → meetN x y = false
def GoodTo (l : List Nt) (k : Nat) : Prop := ∀ i x, i < k → l[i]? = some x → okAt l i x
def Good (l : List Nt) : Prop := GoodTo l l.length ∧ l.length ≤ 30

theorem noteN_iff (x : Nt) : noteN x = true ↔ 24 ≤ x.1 ∧ x.1 ≤ 96 ∧ 0 ≤ x.2.1 ∧ x.2.1 ≤ 999 ∧ 1 ≤ x.2.2 ∧ x.2.2 ≤ 99 := by
  simp [noteN, noteB, inR]; omega
theorem befN_iff (y x : Nt) : befN y x = true ↔ y.2.1 < x.2.1 ∨ y.2.1 = x.2.1 ∧ y.1 < x.1 := by
  simp [befN, befB]
theorem meetN_iff (x y : Nt) : meetN x y = true ↔ x.1 = y.1 ∧ x.2.1 < y.2.1 + y.2.2 ∧ y.2.1 < x.2.1 + x.2.2 := by
  simp [meetN, meetB]

theorem GoodTo.zero (l : List Nt) : GoodTo l 0 := fun _ _ h => absurd h (by omega)
theorem GoodTo.succ {l : List Nt} {k : Nat} {x : Nt} (h : GoodTo l k) (hx : l[k]? = some x) (ho : okAt l k x) : GoodTo l (k + 1) := by
  intro i y hi hy
  rcases Nat.lt_or_ge i k with hik | hik
  · exact h i y hik hy
  · obtain rfl : i = k := by omega
    rw [hx] at hy; injection hy with hy; subst hy; exact ho
theorem Good.not_of {l : List Nt} {k : Nat} {x : Nt} (hx : l[k]? = some x) (ho : ¬ okAt l k x) : ¬ Good l := fun h => ho (h.1 k x (List.getElem?_eq_some_iff.1 hx).1 hx)

/-- Starts do not fall along a good beginning. -/
theorem GoodTo.mono {l : List Nt} {k : Nat} (h : GoodTo l k) : ∀ i j x y, i ≤ j → j < k → l[i]? = some x → l[j]? = some y → x.2.1 ≤ y.2.1 := by
  intro i j x y hij
  induction j generalizing y with
  | zero =>
    intro _ hx hy
    obtain rfl : i = 0 := by omega
    rw [hx] at hy; injection hy with hy; subst hy; exact Int.le_refl _
  | succ j ih =>
    intro hj hx hy
    rcases Nat.lt_or_ge j i with hji | hji
    · obtain rfl : i = j + 1 := by omega
      rw [hx] at hy; injection hy with hy; subst hy; exact Int.le_refl _
    · have hlt : j < l.length := by have := (List.getElem?_eq_some_iff.1 hy).1; omega
      have hz : l[j]? = some l[j] := List.getElem?_eq_getElem hlt
      have h1 := ih _ hji (by omega) hx hz
      have h2 := (h (j + 1) y hj hy).2.1 l[j] (by omega) (by simp)
      rw [befN_iff] at h2
      omega

/-- The end of the last note of a pitch among notes, 0 without one. -/
def endsF (p : Int) : List Nt → Int → Int
  | [], a => a
  | y :: r, a => endsF p r (if y.1 = p then y.2.1 + y.2.2 else a)
theorem endsF_snoc (p : Int) (l : List Nt) (x : Nt) (a : Int) : endsF p (l ++ [x]) a = if x.1 = p then x.2.1 + x.2.2 else endsF p l a := by
  induction l generalizing a with
  | nil => rfl
  | cons y l ih => simp only [List.cons_append, endsF, ih]
theorem endsF_take (p : Int) (l : List Nt) (k : Nat) (x : Nt) (hx : l[k]? = some x) : endsF p (l.take (k + 1)) 0 = if x.1 = p then x.2.1 + x.2.2 else endsF p (l.take k) 0 := by
  rw [List.take_add_one, hx]
  exact endsF_snoc p _ x 0

/-- Along a good beginning the last end of a pitch is the greatest, and it is one of a note of the pitch, or 0. -/
theorem endsF_spec {l : List Nt} {k : Nat} (h : GoodTo l k) (hk : k ≤ l.length) (p : Int) :
    (∀ j y, j < k → l[j]? = some y → y.1 = p → y.2.1 + y.2.2 ≤ endsF p (l.take k) 0) ∧
    (endsF p (l.take k) 0 = 0 ∨ ∃ j y, j < k ∧ l[j]? = some y ∧ y.1 = p ∧ endsF p (l.take k) 0 = y.2.1 + y.2.2) := by
  induction k with
  | zero => exact ⟨fun _ _ h => absurd h (by omega), .inl rfl⟩
  | succ k ih =>
    have hx : l[k]? = some l[k] := List.getElem?_eq_getElem (by omega)
    generalize l[k] = x at hx
    have hg : GoodTo l k := fun i y hi hy => h i y (by omega) hy
    obtain ⟨ha, hb⟩ := ih hg (by omega)
    have hok := h k x (by omega) hx
    rw [endsF_take p l k x hx]
    by_cases hp : x.1 = p
    · rw [if_pos hp]
      refine ⟨fun j y hj hy hyp => ?_, .inr ⟨k, x, by omega, hx, hp, rfl⟩⟩
      rcases Nat.lt_or_ge j k with hjk | hjk
      · have hm := hok.2.2 j y hjk hy
        have hle := h.mono j k y x (by omega) (by omega) hy hx
        have hv := (noteN_iff x).1 hok.1
        have hv' := (noteN_iff y).1 (h j y (by omega) hy).1
        have : ¬ (meetN x y = true) := by rw [hm]; simp
        rw [meetN_iff] at this
        have : ¬ (x.2.1 < y.2.1 + y.2.2 ∧ y.2.1 < x.2.1 + x.2.2) := fun hh => this ⟨by rw [hp, hyp], hh⟩
        omega
      · obtain rfl : j = k := by omega
        rw [hx] at hy; injection hy with hy; subst hy; exact Int.le_refl _
    · rw [if_neg hp]
      refine ⟨fun j y hj hy hyp => ?_, ?_⟩
      · rcases Nat.lt_or_ge j k with hjk | hjk
        · exact ha j y hjk hy hyp
        · obtain rfl : j = k := by omega
          rw [hx] at hy; injection hy with hy; subst hy; exact absurd hyp hp
      · rcases hb with hb | ⟨j, y, hj, hy, hyp, he⟩
        · exact .inl hb
        · exact .inr ⟨j, y, by omega, hy, hyp, he⟩

/-- The program's way of asking whether note k goes on. -/
theorem okAt_iff {l : List Nt} {k : Nat} {x : Nt} (h : GoodTo l k) (hk : k ≤ l.length) (hv : noteN x = true) (hbef : ∀ y, 0 < k → l[k - 1]? = some y → befN y x = true) :
    okAt l k x ↔ ¬ (x.2.1 < endsF x.1 (l.take k) 0) := by
  obtain ⟨ha, hb⟩ := endsF_spec h hk x.1
  have hx := (noteN_iff x).1 hv
  have hle : ∀ j y, j < k → l[j]? = some y → y.2.1 ≤ x.2.1 := by
    intro j y hj hy
    have hz : l[k - 1]? = some l[k - 1] := List.getElem?_eq_getElem (by omega)
    have h1 := h.mono j (k - 1) y _ (by omega) (by omega) hy hz
    have h2 := (befN_iff _ _).1 (hbef _ (by omega) hz)
    omega
  constructor
  · intro ho hlt
    rcases hb with hb | ⟨j, y, hj, hy, hyp, he⟩
    · omega
    · have hm := ho.2.2 j y hj hy
      have : ¬ (meetN x y = true) := by rw [hm]; simp
      rw [meetN_iff] at this
      have h1 := hle j y hj hy
      exact this ⟨hyp.symm, by omega, by omega⟩
  · intro hn
    refine ⟨hv, hbef, fun j y hj hy => ?_⟩
    cases hm : meetN x y with
    | false => rfl
    | true =>
      rw [meetN_iff] at hm
      have := ha j y hj hy hm.1.symm
      omega

theorem cmpN_bef (y x : Nt) : (cmpN y.1 y.2.1 x.1 x.2.1 < 0) ↔ befN y x = true := by
  rw [befN_iff]
  unfold cmpN orZ cmpZ
  (repeat' split) <;> omega

/-- Whether note k is such, as a Bool. -/
def okB (l : List Nt) (k : Nat) : Bool :=
  match l[k]? with
  | none => true
  | some x => noteN x && ((decide (k = 0) || (match l[k - 1]? with | some y => befN y x | none => true)) && (l.take k).all fun y => !meetN x y)
def goodB (l : List Nt) : Bool := (List.range l.length).all (okB l) && decide (l.length ≤ 30)

theorem okB_iff {l : List Nt} {k : Nat} {x : Nt} (hx : l[k]? = some x) : okB l k = true ↔ okAt l k x := by
  have hk := (List.getElem?_eq_some_iff.1 hx).1
  unfold okB okAt
  rw [hx]
  simp only [Bool.and_eq_true, Bool.or_eq_true, decide_eq_true_eq, List.all_eq_true, Bool.not_eq_true']
  refine and_congr Iff.rfl (and_congr ⟨?_, ?_⟩ ⟨?_, ?_⟩)
  · intro h y h0 hy
    rcases h with h | h
    · omega
    · rw [hy] at h; exact h
  · intro h
    rcases Nat.eq_zero_or_pos k with h0 | h0
    · exact .inl h0
    · right
      have hy : l[k - 1]? = some l[k - 1] := List.getElem?_eq_getElem (by omega)
      rw [hy]
      exact h _ h0 hy
  · intro h j y hj hy
    exact h y (List.mem_iff_getElem?.2 ⟨j, by rw [List.getElem?_take, if_pos hj]; exact hy⟩)
  · intro h y hy
    obtain ⟨j, hj⟩ := List.mem_iff_getElem?.1 hy
    have hjk : j < k := by
      rcases Nat.lt_or_ge j k with h' | h'
      · exact h'
      · rw [List.getElem?_take, if_neg (by omega)] at hj; cases hj
    rw [List.getElem?_take, if_pos hjk] at hj
    exact h j y hjk hj
theorem goodB_iff (l : List Nt) : goodB l = true ↔ Good l := by
  unfold goodB Good
  rw [Bool.and_eq_true, List.all_eq_true, decide_eq_true_eq]
  refine and_congr ⟨?_, ?_⟩ Iff.rfl
  · intro h i x hi hx
    exact (okB_iff hx).1 (h i (List.mem_range.2 hi))
  · intro h i hi
    have hi := List.mem_range.1 hi
    exact (okB_iff (List.getElem?_eq_getElem hi)).2 (h i _ hi (List.getElem?_eq_getElem hi))
theorem goodB_false {l : List Nt} (h : ¬ Good l) : goodB l = false := by
  cases hb : goodB l with
  | false => rfl
  | true => exact absurd ((goodB_iff l).1 hb) h
end Go.Proofs.YtkfgmkgbicahgaaGreatDoor

namespace Go.Proofs.YtkfgmkgbicahgaaGreatDoor.H
open Go.RowKit
set_option linter.unusedVariables false
set_option linter.unusedSimpArgs false

theorem wp_appHole (w : World) {o : Oper} {a : Act} {K : Act → World → Prop} {Q : Exit → Act → World → Prop} (s x : Operand)
    (ho : o.op = .call { callee := .builtin .append, args := #[s, x], argTypes := #[28, 28] })
    (base : Nat) (v : Value) (xs : List Nt) (hs : a.eval s = v) (hown : Own w base 54 v xs)
    (A : Option Addr) (m c : Nat) (news : List Nt) (hx : a.eval x = .slice A m c) (hl : news.length = m) (hA : A = none → c = 0)
    (hnews : RA w A news) (hsz : xs.length + m ≤ 4000000) (hbase : base ≤ w.heap.size)
    (h : ∀ v' w', Own w' base 54 v' (xs ++ news) → w.grownBy w' v.ownBlock → K (a.put o.dst v') w') : o.wp Tryz.prog a w K Q := by
  obtain ⟨i, hi, hz, hs1, hb1⟩ := info_parts Tryz.info_Hole
  refine wp_app w s x 28 ho base 54 i _ 3 24 Tryz.underlying28 hi hz hs1 hb1 rfl (by decide) v xs.length (cl xs) hs hown A m c (cl news) hx (by rw [cl_length, hl]) hA (fun j u hu => hnews.cells j u hu) (cl_one news) (by unfold maxLen; omega) (by omega) hbase ?_
  intro v' w' h1 h2 h3
  refine h v' w' ?_ h2
  unfold Own
  rw [cl_append, List.length_append, hl]
  exact h1

theorem step_appHole {w : World} {ops : Array Oper} {o : Oper} {a : Act} {K : Act → World → Prop} {Q : Exit → Act → World → Prop} {E : Prop} (hgd : o.guard = none) (s x : Operand)
    (ho : o.op = .call { callee := .builtin .append, args := #[s, x], argTypes := #[28, 28] })
    (base : Nat) (v : Value) (xs : List Nt) (hs : a.eval s = v) (hown : Own w base 54 v xs)
    (A : Option Addr) (m c : Nat) (news : List Nt) (hx : a.eval x = .slice A m c) (hl : news.length = m) (hA : A = none → c = 0)
    (hnews : RA w A news) (hsz : xs.length + m ≤ 4000000) (hbase : base ≤ w.heap.size)
    (h : ∀ v' w', Own w' base 54 v' (xs ++ news) → w.grownBy w' v.ownBlock → K (a.put o.dst v') w') :
    if Region.wanted o (yielded ops a.tmps) = true then Oper.wp Tryz.prog o a w K Q else E := by
  have hw : Region.wanted o (yielded ops a.tmps) = true := by simp [Region.wanted, hgd]
  rw [if_pos hw]
  exact wp_appHole w s x ho base v xs hs hown A m c news hx hl hA hnews hsz hbase h

theorem wpList_appHole (w : World) {ops : Array Oper} {rest : List Oper} {o : Oper} {a : Act} {Q : Exit → Act → World → Prop} (hgd : o.guard = none) (s x : Operand)
    (ho : o.op = .call { callee := .builtin .append, args := #[s, x], argTypes := #[28, 28] })
    (base : Nat) (v : Value) (xs : List Nt) (hs : a.eval s = v) (hown : Own w base 54 v xs)
    (A : Option Addr) (m c : Nat) (news : List Nt) (hx : a.eval x = .slice A m c) (hl : news.length = m) (hA : A = none → c = 0)
    (hnews : RA w A news) (hsz : xs.length + m ≤ 4000000) (hbase : base ≤ w.heap.size)
    (h : ∀ v' w', Own w' base 54 v' (xs ++ news) → w.grownBy w' v.ownBlock → wpList Tryz.prog ops Q rest (a.put o.dst v') w') : wpList Tryz.prog ops Q (o :: rest) a w :=
  wpList_plain hgd fun _ hK => wp_appHole w s x ho base v xs hs hown A m c news hx hl hA hnews hsz hbase fun v' w' h2 h3 => hK _ _ (h v' w' h2 h3)

set_option maxRecDepth 10000 in
theorem wp_roomHole (w : World) {o : Oper} {a : Act} {K : Act → World → Prop} {Q : Exit → Act → World → Prop} (s x : Operand)
    (ho : o.op = .call { callee := .builtin .append, args := #[s, x], argTypes := #[28, 28] })
    (base g n cap : Nat) (xs : List Nt) (hs : a.eval s = .slice (some ⟨g, 0, none⟩) n cap) (hown : Own w base 54 (.slice (some ⟨g, 0, none⟩) n cap) xs)
    (A : Option Addr) (m c : Nat) (news : List Nt) (hx : a.eval x = .slice A m c) (hl : news.length = m) (hA : A = none → c = 0)
    (hnews : RA w A news) (hroom : n + m ≤ cap)
    (h : ∀ w', Own w' base 54 (.slice (some ⟨g, 0, none⟩) (n + m) cap) (xs ++ news) → w.grownBy w' (some g) → K (a.put o.dst (.slice (some ⟨g, 0, none⟩) (n + m) cap)) w') : o.wp Tryz.prog a w K Q := by
  obtain ⟨i, hi, hz, hs1, hb1⟩ := info_parts Tryz.info_Hole
  obtain ⟨hnx, hnc, hcm, hbg, hgs⟩ := hown.room
  have hO : w.ownsRow base 54 3 (.slice (some ⟨g, 0, none⟩) n cap) n (cl xs) := by rw [hnx]; unfold Own at hown; rw [hnx] at hown; exact hown
  cases A with
  | none =>
    have hn : news = [] := by
      cases news with
      | nil => rfl
      | cons u r => obtain ⟨g', o', e, _⟩ := hnews 0 u rfl; cases e
    subst hn
    obtain rfl : m = 0 := by simpa using hl.symm
    obtain rfl := hA rfl
    have hr := run_append_owned_none (P := Tryz.prog) w base 28 o.type 54 i 3 Tryz.underlying28 hi (.slice (some ⟨g, 0, none⟩) n cap) n (cl xs) hO
    unfold Oper.wp execOp
    simp only [ho, resolve, invoke, builtin, Sem.run_bind, Sem.run_pure, Result.andThen_ok, List.map_toArray, List.map_cons, List.map_nil, hs, hx, hr]
    exact h w (by simpa using hown) (World.grownBy.refl w _)
  | some ad =>
    obtain ⟨w', hr, h2, h3⟩ := run_append_fits (P := Tryz.prog) w base 28 o.type 54 i 3 Tryz.underlying28 hi hs1 g n cap (cl xs) hO ad m c (cl news) (by rw [cl_length, hl])
      (fun j u hu => by obtain ⟨ad', e, hc⟩ := hnews.cells j u hu; injection e with e; subst e; exact hc) (cl_one news) hroom
    unfold Oper.wp execOp
    simp only [ho, resolve, invoke, builtin, Sem.run_bind, Sem.run_pure, Result.andThen_ok, List.map_toArray, List.map_cons, List.map_nil, hs, hx, hr]
    refine h w' ?_ h3
    unfold Own
    rw [cl_append, List.length_append, hl, ← hnx]
    exact h2

theorem step_roomHole {w : World} {ops : Array Oper} {o : Oper} {a : Act} {K : Act → World → Prop} {Q : Exit → Act → World → Prop} {E : Prop} (hgd : o.guard = none) (s x : Operand)
    (ho : o.op = .call { callee := .builtin .append, args := #[s, x], argTypes := #[28, 28] })
    (base g n cap : Nat) (xs : List Nt) (hs : a.eval s = .slice (some ⟨g, 0, none⟩) n cap) (hown : Own w base 54 (.slice (some ⟨g, 0, none⟩) n cap) xs)
    (A : Option Addr) (m c : Nat) (news : List Nt) (hx : a.eval x = .slice A m c) (hl : news.length = m) (hA : A = none → c = 0)
    (hnews : RA w A news) (hroom : n + m ≤ cap)
    (h : ∀ w', Own w' base 54 (.slice (some ⟨g, 0, none⟩) (n + m) cap) (xs ++ news) → w.grownBy w' (some g) → K (a.put o.dst (.slice (some ⟨g, 0, none⟩) (n + m) cap)) w') :
    if Region.wanted o (yielded ops a.tmps) = true then Oper.wp Tryz.prog o a w K Q else E := by
  have hw : Region.wanted o (yielded ops a.tmps) = true := by simp [Region.wanted, hgd]
  rw [if_pos hw]
  exact wp_roomHole w s x ho base g n cap xs hs hown A m c news hx hl hA hnews hroom h

theorem wpList_roomHole (w : World) {ops : Array Oper} {rest : List Oper} {o : Oper} {a : Act} {Q : Exit → Act → World → Prop} (hgd : o.guard = none) (s x : Operand)
    (ho : o.op = .call { callee := .builtin .append, args := #[s, x], argTypes := #[28, 28] })
    (base g n cap : Nat) (xs : List Nt) (hs : a.eval s = .slice (some ⟨g, 0, none⟩) n cap) (hown : Own w base 54 (.slice (some ⟨g, 0, none⟩) n cap) xs)
    (A : Option Addr) (m c : Nat) (news : List Nt) (hx : a.eval x = .slice A m c) (hl : news.length = m) (hA : A = none → c = 0)
    (hnews : RA w A news) (hroom : n + m ≤ cap)
    (h : ∀ w', Own w' base 54 (.slice (some ⟨g, 0, none⟩) (n + m) cap) (xs ++ news) → w.grownBy w' (some g) → wpList Tryz.prog ops Q rest (a.put o.dst (.slice (some ⟨g, 0, none⟩) (n + m) cap)) w') : wpList Tryz.prog ops Q (o :: rest) a w :=
  wpList_plain hgd fun _ hK => wp_roomHole w s x ho base g n cap xs hs hown A m c news hx hl hA hnews hroom fun w' h2 h3 => hK _ _ (h w' h2 h3)

theorem run_clearHole (w : World) (base g n cap : Nat) (xs : List Nt) (hown : Own w base 54 (.slice (some ⟨g, 0, none⟩) n cap) xs) (A : Option Addr) (m c ty : Nat) (hA : 0 < m → A = some ⟨g, n * 3, none⟩) (hfit : n + m ≤ cap) :
    ∃ w', (Builtin.clear_ #[28] ty #[.slice A m c]).run Tryz.prog w = .ok (.tuple #[]) w' ∧ Own w' base 54 (.slice (some ⟨g, 0, none⟩) n cap) xs ∧ w.grownBy w' (some g) := by
  rcases Nat.eq_zero_or_pos m with h0 | h0
  · subst h0
    have hr : (Builtin.clear_ #[28] ty #[.slice A 0 c]).run Tryz.prog w = .ok (.tuple #[]) w := by
      cases A <;> simp [Builtin.clear_, run_underlying Tryz.underlying28]
    exact ⟨w, hr, hown, World.grownBy.refl w _⟩
  · obtain rfl := hA h0
    obtain ⟨hnx, hnc, hcm, hbg, hgs⟩ := hown.room
    rcases hown.2 with ⟨h', _⟩ | ⟨g', cap', cur, h', hb, hg, hnc', hcm', hcs, ht⟩
    · cases h'
    · simp only [Value.slice.injEq, Option.some.injEq, Addr.mk.injEq, and_true, true_and] at h'
      obtain ⟨rfl, rfl, rfl⟩ := h'
      obtain ⟨m, rfl⟩ : ∃ m', m = m' + 1 := ⟨m - 1, by omega⟩
      have hz : (Builtin.zeroCells (Value.agg #[.int .i64 0, .int .i64 0, .int .i64 0]).cells (m + 1)).toList.length = (m + 1) * 3 := by simp [Builtin.zeroCells, Value.cells]
      have hone : ∀ v ∈ (Builtin.zeroCells (Value.agg #[.int .i64 0, .int .i64 0, .int .i64 0]).cells (m + 1)).toList, v.oneCell' = true := by
        intro v hv
        simp only [Builtin.zeroCells, Value.cells, Array.toList_map, List.mem_map] at hv
        obtain ⟨j, hj, rfl⟩ := hv
        have hlt : j % #[Value.int .i64 0, .int .i64 0, .int .i64 0].size < #[Value.int .i64 0, .int .i64 0, .int .i64 0].size := Nat.mod_lt _ (by simp)
        generalize j % #[Value.int .i64 0, .int .i64 0, .int .i64 0].size = q at hlt
        have : q = 0 ∨ q = 1 ∨ q = 2 := by simp at hlt; omega
        rcases this with rfl | rfl | rfl <;> rfl
      have hmul := Nat.mul_le_mul_right 3 hfit
      rw [Nat.add_mul] at hmul
      have hst := run_storeCells_at Tryz.prog g (xs.length * 3) 54 (Builtin.zeroCells (Value.agg #[.int .i64 0, .int .i64 0, .int .i64 0]).cells (m + 1)).toList 0 cur w hg (by rw [hz, hcs]; omega) hone
      have hr : (Builtin.clear_ #[28] ty #[.slice (some ⟨g, xs.length * 3, none⟩) (m + 1) c]).run Tryz.prog w = .ok (.tuple #[]) (w.setRow g (cur.toList.take (xs.length * 3 + 0) ++ (Builtin.zeroCells (Value.agg #[.int .i64 0, .int .i64 0, .int .i64 0]).cells (m + 1)).toList ++ cur.toList.drop (xs.length * 3 + 0 + (Builtin.zeroCells (Value.agg #[.int .i64 0, .int .i64 0, .int .i64 0]).cells (m + 1)).toList.length)).toArray) := by
        simp only [Builtin.clear_, List.getElem?_toArray, List.getElem?_cons_zero, Sem.run_bind, Sem.run_pure, run_underlying Tryz.underlying28, Result.andThen_ok, Tryz.zeroValue54, hst]
      refine ⟨_, hr, ⟨hown.1, .inr ⟨g, cap, _, rfl, hb, setRow_heap w g cur _ 54 _ hg, hnc, hcm, ?_, ?_⟩⟩, ⟨rfl, rfl, rfl, by simp, fun k _ hk => setRow_other w g k _ (fun e => hk (by simp [e]))⟩⟩
      · simp only [List.size_toArray, List.length_append, List.length_take, List.length_drop, Array.length_toList, hz]
        omega
      · have hle : xs.length * 3 ≤ cur.toList.length := by rw [Array.length_toList (xs := cur), hcs]; exact Nat.mul_le_mul_right _ hnc
        simp only [Nat.add_zero, List.append_assoc]
        rw [← ht]
        have hl2 : (cur.toList.take (xs.length * 3)).length = xs.length * 3 := by rw [List.length_take]; omega
        exact List.take_left' hl2

/-- Where the walk stands at a clear. -/
theorem clear_thenHole {w : World} {A : Option Addr} {m c ty : Nat} (base g n cap : Nat) (xs : List Nt) (hown : Own w base 54 (.slice (some ⟨g, 0, none⟩) n cap) xs) (hA : 0 < m → A = some ⟨g, n * 3, none⟩) (hfit : n + m ≤ cap)
    {β : Type} {f : Value → World → Result β} {C : Result β → Prop} (h : ∀ w', Own w' base 54 (.slice (some ⟨g, 0, none⟩) n cap) xs → w.grownBy w' (some g) → C (f (.tuple #[]) w')) :
    C ((Sem.run Tryz.prog (Builtin.clear_ #[28] ty #[.slice A m c]) w).andThen f) := by
  obtain ⟨w', hr, ho, hg⟩ := run_clearHole w base g n cap xs hown A m c ty hA hfit
  rw [hr]
  exact h w' ho hg
end Go.Proofs.YtkfgmkgbicahgaaGreatDoor.H
