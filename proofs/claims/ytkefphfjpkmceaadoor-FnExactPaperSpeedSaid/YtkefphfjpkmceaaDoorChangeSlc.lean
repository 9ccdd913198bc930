/- Contracts of the laws' own functions on slices of one struct: sizes, copies, equality, marks. -/
import Derived.Test.YtkefphfjpkmceaaDoorChangeTwo
import Derived.Test.YtkefphfjpkmceaaDoorPlain2
import Derived.LoopTactic
import Derived.Maps.AppendAt
namespace Go.Proofs.YtkefphfjpkmceaaDoor
open Go.RowKit
set_option linter.unusedVariables false

theorem Tryd.info_Change : (Tryd.prog.info? 36).map (fun i => (i.zero, i.size, i.bytes)) = some (some (.agg #[.int .i64 0, .int .i64 0]), 2, 16) := by kernel_rfl

theorem make_Change (n : Nat) (hn : n ≤ 1048576) (W : World) :
    (Instr.makeSlice 26 (.int .i64 (n : Int)) (.int .i64 (n : Int))).run Tryd.prog W = .ok (.slice (some ⟨W.heap.size, 0, none⟩) n n) (W.alloc (.cells (madeCells #[.int .i64 0, .int .i64 0] (n * 2)) 36)) := by
  obtain ⟨i, hi, hz, hs, hb⟩ := info_parts Tryd.info_Change
  have h := run_make (P := Tryd.prog) W 26 36 i _ Tryd.underlying26 hi hz .i64 .i64 (n : Int) (n : Int) (by omega) (by omega) (by rw [hb]; omega) (by omega)
  rw [hs] at h
  simp only [Int.toNat_natCast] at h
  exact h

set_option maxHeartbeats 400000 in
theorem szChangeS_any (A : Option Addr) (n c : Nat) (left : Int) (w : World) (hn : n ≤ 9223372036854775807) (h0 : 0 ≤ left) (h1 : left ≤ 1048576) :
    Calls Tryd.prog 4 #[.slice A n c, .int .i64 left] w fun e w' => e = .returned (.int .i64 (if left - n < 0 then -1 else left - n)) ∧ w = w' := by
  by_cases h : left - n < 0
  all_goals
    go_enter Tryd.func4, Tryd.ntmps4
    go_wp2
    go_ret
    exact ⟨ret_int (by simp), rfl⟩

set_option maxHeartbeats 1000000 in
theorem toChangeS_any (A : Option Addr) (l : List Nt2) (c : Nat) (w : World) (hn : l.length ≤ 1048576) (hA : RA2 w A l) :
    Calls Tryd.prog 6 #[.slice A l.length c] w fun e w' => e = .returned (.slice (some ⟨w.heap.size, 0, none⟩) l.length l.length) ∧
      Own2 w' w.heap.size 36 (.slice (some ⟨w.heap.size, 0, none⟩) l.length l.length) l ∧ Below w.heap.size w w' := by
  have hmk := make_Change l.length hn
  go_enter Tryd.func6, Tryd.ntmps6
  go_wp2
  go_loopw [4] (fun i wr => ∃ k : Nat, k ≤ l.length ∧ i = .int .i64 k ∧ Own2 wr w.heap.size 36 (.slice (some ⟨w.heap.size, 0, none⟩) l.length l.length) (l.take k ++ (List.replicate l.length (0, 0)).drop k) ∧ Below w.heap.size w wr)
    (fun i _ => l.length - (intOf i).toNat)
  case atStart =>
    refine ⟨0, Nat.zero_le _, rfl, ?_, (Below.refl _ _).alloc (Nat.le_refl _) _⟩
    have h := World.ownsRow_lit (base := w.heap.size) (e := 36) (size := 2) w (madeCells #[.int .i64 0, .int .i64 0] (l.length * 2)) l.length (Nat.le_refl _) (by unfold maxLen; omega) (size_madeCells _ _)
    rw [made_cl2] at h
    simpa [Own2] using h
  case round =>
    obtain ⟨k, hk, rfl, hown, hb⟩ := hrel
    by_cases hlt : k < l.length
    · have hx : l[k]? = some l[k] := List.getElem?_eq_getElem hlt
      generalize l[k] = x at hx
      obtain ⟨p, s⟩ := x
      obtain ⟨g, o, rfl, hg, h0, h1⟩ := (hA.below hb) k _ hx
      simp only at h0 h1
      go_wp2_with fail
      refine (toChange_any _ _ _).mono ?_
      rintro e w1 ⟨rfl, hb1⟩
      have hown1 := hown.below hb1 (Nat.le_refl _)
      have hz1 : w.heap.size < w1.heap.size := (hown1.lt _ rfl).2
      have hL : (l.take k ++ (List.replicate l.length ((0, 0) : Nt2)).drop k).length = l.length := by simp; omega
      have hs : (List.replicate l.length ((0, 0) : Nt2))[k]? = some (0, 0) := by rw [List.getElem?_replicate, if_pos hlt]
      unfold Own2 at hown1
      rw [hL] at hown1
      have f := fun j => hown1.frozenAt j
      have c0 : ∃ u, w1.cell? ⟨w.heap.size, k * 2, none⟩ = some u := by rw [hown1.cellAt _ (by omega)]; exact ⟨_, List.getElem?_eq_getElem (by rw [cl2_length, hL]; omega)⟩
      have c1 : ∃ u, w1.cell? ⟨w.heap.size, k * 2 + 1, none⟩ = some u := by rw [hown1.cellAt _ (by omega)]; exact ⟨_, List.getElem?_eq_getElem (by rw [cl2_length, hL]; omega)⟩
      obtain ⟨u0, c0⟩ := c0
      obtain ⟨u1, c1⟩ := c1
      have f0 := f (k * 2)
      have f1 := f (k * 2 + 1)
      have H := Lib.hid hown1
      have HL := Lib.hid hL
      have HX := Lib.hid hx
      clear f hown1 hL hx hs hA hown
      go_wp2
      go_roundw
      case rel =>
        refine ⟨k + 1, by omega, by go_num, ?_, (((hb.trans (hb1.mono hb.size)).setCell (by simp) _).setCell (by simp) _)⟩
        have k2 := ((H.out.stored (k * 2) (.int .i64 p)).1.stored (k * 2 + 1) (.int .i64 s)).1
        rw [cl2_set _ _ (p, s) (by rw [HL.out]; exact hlt), take_set2 l _ k _ HX.out (by simpa using hlt)] at k2
        unfold Own2
        have hL' : (l.take (k + 1) ++ (List.replicate l.length ((0, 0) : Nt2)).drop (k + 1)).length = l.length := by simp; omega
        rw [hL']
        exact k2
      case measure => simp [intOf]; omega
    · obtain rfl : k = l.length := by omega
      go_wp2
      go_ret
      exact ⟨rfl, by simpa using hown, hb⟩

set_option maxRecDepth 100000 in
set_option maxHeartbeats 1000000 in
theorem eqChangeS_any (A B : Option Addr) (l m : List Nt2) (c d : Nat) (w : World) (hl : l.length ≤ 9223372036854775807) (hm : m.length ≤ 9223372036854775807) (hA : RA2 w A l) (hB : RA2 w B m) :
    Calls Tryd.prog 8 #[.slice A l.length c, .slice B m.length d] w fun e w' => e = .returned (.bool (decide (l = m))) ∧ Below w.heap.size w w' := by
  by_cases hlen : l.length = m.length
  · go_enter Tryd.func8, Tryd.ntmps8
    have hne : ((l.length : Int) != (m.length : Int)) = false := by simp [hlen]
    have HLEN := Lib.hid hlen
    clear hlen
    go_wp2
    go_loopw [5] (fun i wr => ∃ k : Nat, k ≤ l.length ∧ i = .int .i64 k ∧ l.take k = m.take k ∧ Below w.heap.size w wr)
      (fun i _ => l.length - (intOf i).toNat)
    case atStart => exact ⟨0, Nat.zero_le _, rfl, by simp, Below.refl _ _⟩
    case round =>
      obtain ⟨k, hk, rfl, htake, hb⟩ := hrel
      have HT := Lib.hid htake
      clear htake
      by_cases hlt : k < l.length
      · have hlt' : k < m.length := by have := HLEN.out; omega
        have hx : l[k]? = some l[k] := List.getElem?_eq_getElem hlt
        have hy : m[k]? = some m[k] := List.getElem?_eq_getElem hlt'
        generalize l[k] = x at hx
        generalize m[k] = y at hy
        obtain ⟨p, s⟩ := x
        obtain ⟨p', s'⟩ := y
        obtain ⟨g, o, rfl, hg, h0, h1⟩ := (hA.below hb) k _ hx
        obtain ⟨g', o', rfl, hg', h0', h1'⟩ := (hB.below hb) k _ hy
        simp only at h0 h1 h0' h1'
        have i1 : (0 : Int) ≤ (k : Int) := by omega
        have i2 : (k : Int) < (l.length : Int) := by omega
        have i3 : (k : Int) < (m.length : Int) := by omega
        have HX := Lib.hid hx
        have HY := Lib.hid hy
        clear hx hy hA hB
        go_wp2_with fail
        refine wp_region_still_tail 8 (by kernel_rfl) (by kernel_rfl) ?_
        change wpStill _ _ (World.drew _) (fun a' => wpList _ _ _ _ a' (World.drew _)) _ _
        simp only [List.take_succ_cons, List.take_zero, List.drop_succ_cons, List.drop_zero]
        repeat still_step
        try refine wpStill_nil ?_
        by_cases he : eqBChange p s p' s' = true
        · go_wp2_with (go_at_call 18; refine (eqChange_any _ _ _ _ _).mono ?_; rintro e w1 ⟨rfl, hb1⟩)
          go_roundw
          case rel =>
            refine ⟨k + 1, by omega, by go_num, ?_, hb.drew.trans (hb1.mono hb.size)⟩
            rw [List.take_add_one, List.take_add_one, HT.out, HX.out, HY.out]
            simp [eqBChange] at he
            obtain ⟨rfl, rfl⟩ := he
            rfl
          case measure => simp [intOf]; omega
        · go_wp2_with (go_at_call 18; refine (eqChange_any _ _ _ _ _).mono ?_; rintro e w1 ⟨rfl, hb1⟩)
          go_ret
          refine ⟨ret_bool ?_, hb.drew.trans (hb1.mono hb.size)⟩
          have : l ≠ m := by
            rintro rfl
            have := HX.out.symm.trans HY.out
            simp at this
            obtain ⟨rfl, rfl⟩ := this
            simp [eqBChange] at he
          simp [this]
      · obtain rfl : k = l.length := by omega
        go_wp2
        go_ret
        refine ⟨ret_bool ?_, hb⟩
        have : l = m := by
          have h := HT.out
          rw [List.take_length, HLEN.out, List.take_length] at h
          exact h
        simp [this]
  · go_enter Tryd.func8, Tryd.ntmps8
    have hne : ((l.length : Int) != (m.length : Int)) = true := by simp; omega
    go_wp2
    go_ret
    exact ⟨ret_bool (by simp; intro h; exact hlen (by rw [h])), Below.refl _ _⟩

end Go.Proofs.YtkefphfjpkmceaaDoor
