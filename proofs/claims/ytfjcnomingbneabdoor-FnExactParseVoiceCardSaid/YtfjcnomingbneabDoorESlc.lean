/- Contracts of the laws' own functions on slices of events: sizes, copies, equality, marks. -/
import Derived.Test.YtfjcnomingbneabDoorETwo
import Derived.Test.YtfjcnomingbneabDoorPlain
import Derived.LoopTactic
import Derived.Maps.AppendAt
namespace Go.Proofs.YtfjcnomingbneabDoor
open Go.RowKit
set_option linter.unusedVariables false

theorem Tryd.info_Event : (Tryd.prog.info? 42).map (fun i => (i.zero, i.size, i.bytes)) = some (some (.agg #[.int .i64 0, .int .i64 0, .int .i64 0]), 3, 24) := by kernel_rfl

theorem make_events (n : Nat) (hn : n ≤ 1048576) (W : World) :
    (Instr.makeSlice 28 (.int .i64 (n : Int)) (.int .i64 (n : Int))).run Tryd.prog W = .ok (.slice (some ⟨W.heap.size, 0, none⟩) n n) (W.alloc (.cells (madeCells #[.int .i64 0, .int .i64 0, .int .i64 0] (n * 3)) 42)) := by
  obtain ⟨i, hi, hz, hs, hb⟩ := info_parts Tryd.info_Event
  have h := run_make (P := Tryd.prog) W 28 42 i _ Tryd.underlying28 hi hz .i64 .i64 (n : Int) (n : Int) (by omega) (by omega) (by rw [hb]; omega) (by omega)
  rw [hs] at h
  simp only [Int.toNat_natCast] at h
  exact h

set_option maxRecDepth 100000 in
set_option maxHeartbeats 1000000 in
theorem eqEventS_any (A B : Option Addr) (l m : List Nt) (c d : Nat) (w : World) (hl : l.length ≤ 9223372036854775807) (hm : m.length ≤ 9223372036854775807) (hA : RA w A l) (hB : RA w B m) :
    Calls Tryd.prog 12 #[.slice A l.length c, .slice B m.length d] w fun e w' => e = .returned (.bool (decide (l = m))) ∧ Below w.heap.size w w' := by
  by_cases hlen : l.length = m.length
  · go_enter Tryd.func12, Tryd.ntmps12
    have hne : ((l.length : Int) != (m.length : Int)) = false := by simp [hlen]
    have HLEN := Lib.hid hlen
    clear hlen
    go_wp2
    go_loopw [5] (fun i wr => ∃ k : Nat, k ≤ l.length ∧ i = .int .i64 k ∧ l.take k = m.take k ∧ Below w.heap.size w wr)
      (fun i _ => l.length - (intOf i).toNat)
    case atStart => exact ⟨0, Nat.zero_le _, rfl, by simp, Below.refl _ _⟩
    case round =>
      obtain ⟨k, hk, rfl, htake, hb⟩ := hrel
      have HT := Lib.hid htake
      clear htake
      by_cases hlt : k < l.length
      · have hlt' : k < m.length := by have := HLEN.out; omega
        have hx : l[k]? = some l[k] := List.getElem?_eq_getElem hlt
        have hy : m[k]? = some m[k] := List.getElem?_eq_getElem hlt'
        generalize l[k] = x at hx
        generalize m[k] = y at hy
        obtain ⟨p, s, n⟩ := x
        obtain ⟨p', s', n'⟩ := y
        obtain ⟨g, o, rfl, hg, h0, h1, h2⟩ := (hA.below hb) k _ hx
        obtain ⟨g', o', rfl, hg', h0', h1', h2'⟩ := (hB.below hb) k _ hy
        simp only at h0 h1 h2 h0' h1' h2'
        have i1 : (0 : Int) ≤ (k : Int) := by omega
        have i2 : (k : Int) < (l.length : Int) := by omega
        have i3 : (k : Int) < (m.length : Int) := by omega
        have HX := Lib.hid hx
        have HY := Lib.hid hy
        clear hx hy hA hB
        go_wp2_with fail
        refine wp_region_still_tail 8 (by kernel_rfl) (by kernel_rfl) ?_
        change wpStill _ _ (World.drew _) (fun a' => wpList _ _ _ _ a' (World.drew _)) _ _
        simp only [List.take_succ_cons, List.take_zero, List.drop_succ_cons, List.drop_zero]
        repeat still_step
        try refine wpStill_nil ?_
        by_cases he : eqB p s n p' s' n' = true
        · go_wp2_with (go_at_call 27; refine (eqEvent_any _ _ _ _ _ _ _).mono ?_; rintro e w1 ⟨rfl, hb1⟩)
          go_roundw
          case rel =>
            refine ⟨k + 1, by omega, by go_num, ?_, hb.drew.trans (hb1.mono hb.size)⟩
            rw [List.take_add_one, List.take_add_one, HT.out, HX.out, HY.out]
            simp [eqB] at he
            obtain ⟨rfl, rfl, rfl⟩ := he
            rfl
          case measure => simp [intOf]; omega
        · go_wp2_with (go_at_call 27; refine (eqEvent_any _ _ _ _ _ _ _).mono ?_; rintro e w1 ⟨rfl, hb1⟩)
          go_ret
          refine ⟨ret_bool ?_, hb.drew.trans (hb1.mono hb.size)⟩
          have : l ≠ m := by
            rintro rfl
            have := HX.out.symm.trans HY.out
            simp at this
            obtain ⟨rfl, rfl, rfl⟩ := this
            simp [eqB] at he
          simp [this]
      · obtain rfl : k = l.length := by omega
        go_wp2
        go_ret
        refine ⟨ret_bool ?_, hb⟩
        have : l = m := by
          have h := HT.out
          rw [List.take_length, HLEN.out, List.take_length] at h
          exact h
        simp [this]
  · go_enter Tryd.func12, Tryd.ntmps12
    have hne : ((l.length : Int) != (m.length : Int)) = true := by simp; omega
    go_wp2
    go_ret
    exact ⟨ret_bool (by simp; intro h; exact hlen (by rw [h])), Below.refl _ _⟩

end Go.Proofs.YtfjcnomingbneabDoor
