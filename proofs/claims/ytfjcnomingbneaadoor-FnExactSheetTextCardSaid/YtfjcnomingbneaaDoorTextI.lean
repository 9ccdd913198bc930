/- The text of a sheet: the program's function. -/
import Derived.Test.YtfjcnomingbneaaDoorLine
import Derived.Test.YtfjcnomingbneaaDoorIsScore
import Derived.OwnWalk
namespace Go.Proofs.YtfjcnomingbneaaDoor
open Go.RowKit Go.Sort
set_option linter.unusedVariables false
set_option linter.unusedSimpArgs false


set_option maxRecDepth 100000 in
set_option maxHeartbeats 4000000 in
theorem implText_any (A : Option Addr) (l : List Nt) (c : Nat) (w : World) (hn : l.length ≤ 1048576) (hA : RA w A l) (hT : Tabs w) :
    Calls Tryd.prog 8 #[.slice A l.length c] w fun e w' => e = .returned (.tuple (textR l)) ∧ Below w.heap.size w w' := by
  cases hgb : goodB l with
  | false =>
    rw [show textR l = #[.string ⟨#[]⟩, .bool false] from by simp [textR, hgb]]
    go_enter Tryd.func8, Tryd.ntmps8
    go_wp2_with fail
    refine (isScore_any _ _ _ _ hn hA).mono ?_
    rintro e w1 ⟨rfl, hb1⟩
    go_wp2
    go_ret2
    exact ⟨rfl, hb1⟩
  | true =>
    have hg := (goodB_iff l).1 hgb
    have h60 := hg.2
    have HR := Lib.hid (show textR l = #[.string (bs (textOf l)), .bool true] from by simp [textR, hgb])
    go_enter Tryd.func8, Tryd.ntmps8
    go_wp2_with fail
    refine (isScore_any _ _ _ _ hn hA).mono ?_
    rintro e w1 ⟨rfl, hb1⟩
    have hA1 := hA.below hb1
    have hT1 := hT.below hb1
    have hB0 := Bd.fresh w1
    have hbb : Below w1.heap.size w1 (w1.alloc (.cells #[.pointer none, .slice none 0 0] 43)) := (Below.refl _ _).alloc (Nat.le_refl _) _
    clear hA hT
    go_wp2
    go_loopw [12] (fun i wr => ∃ k : Nat, k ≤ l.length ∧ i = .int .i64 k ∧ Bd w1.heap.size (textOf (l.take k)) wr ∧ Below w1.heap.size w1 wr)
      (fun i _ => l.length - (intOf i).toNat)
    case atStart => exact ⟨0, Nat.zero_le _, rfl, hB0, hbb⟩
    case round =>
      obtain ⟨k, hk, rfl, hB, hb⟩ := hrel
      clear hB0 hbb
      by_cases hlt : k < l.length
      · have hx : l[k]? = some l[k] := List.getElem?_eq_getElem hlt
        generalize l[k] = x at hx
        have hs := textOf_snoc l k x hx
        have hv := (noteN_iff x).1 (hg.1 k x hlt hx).1
        obtain ⟨p, s, n⟩ := x
        simp only at hs hv
        obtain ⟨g, o, rfl, hgb, h0, h1, h2⟩ := (hA1.below hb) k _ hx
        simp only at h0 h1 h2
        have i1 : (0 : Int) ≤ (k : Int) := by omega
        have i2 : (k : Int) < (l.length : Int) := by omega
        have sT := textOf_len l hg k hk
        have sL := lineOf_len (p, s, n) (by exact (noteN_iff (p, s, n)).2 hv)
        have HSN := Lib.hid hs
        have CW := Lib.hid (fun (W : World) (hW : Bd w1.heap.size (textOf (l.take k)) W) => by have := writeString_k w1.heap.size (textOf (l.take k)) (lineOf (p, s, n)) W hW (by omega); rwa [← hs] at this)
        have hb2 : Below wr.heap.size wr ((wr.alloc (.cells #[.int .i64 p, .int .i64 s, .int .i64 n] 37)).alloc (.cells #[.int .i64 p, .int .i64 s, .int .i64 n] 3)) := ((Below.refl _ _).alloc (Nat.le_refl _) _).alloc (by simp) _
        have hz2 : wr.heap.size + 1 < ((wr.alloc (.cells #[.int .i64 p, .int .i64 s, .int .i64 n] 37)).alloc (.cells #[.int .i64 p, .int .i64 s, .int .i64 n] 3)).heap.size := by simp
        have hxc : ∀ j, ((wr.alloc (.cells #[.int .i64 p, .int .i64 s, .int .i64 n] 37)).alloc (.cells #[.int .i64 p, .int .i64 s, .int .i64 n] 3)).cell? ⟨wr.heap.size + 1, j, none⟩ = #[Value.int .i64 p, .int .i64 s, .int .i64 n][j]? := fun j => by
          have h := World.cell?_alloc_new (wr.alloc (.cells #[.int .i64 p, .int .i64 s, .int .i64 n] 37)) #[Value.int .i64 p, .int .i64 s, .int .i64 n] 3 j
          rw [show (wr.alloc (.cells #[.int .i64 p, .int .i64 s, .int .i64 n] 37)).heap.size = wr.heap.size + 1 by simp] at h
          exact h
        have HC := Lib.hid (numbersLine_any (wr.heap.size + 1) p s n _ ((hT1.below hb).below hb2) hz2 ((hxc 0).trans rfl) ((hxc 1).trans rfl) ((hxc 2).trans rfl) (by omega) (by omega) (by omega))
        have HB := Lib.hid (hB.below hb2)
        have HBX := Lib.hid (hb.trans (hb2.mono hb.size))
        clear hs hx hxc hz2 hb2 hB sT sL
        go_wp2_with (first
          | (go_at_call 19; refine HC.out.mono ?_; rintro e w3 ⟨rfl, hb3⟩; have HB3 := Lib.hid (HB.out.below hb3); have HBY := Lib.hid (HBX.out.trans (hb3.mono HBX.out.size)); clear hb3)
          | (go_at_call 18; refine (CW.out _ HB3.out).mono ?_; rintro e w4 ⟨rfl, hB4, hb4⟩; have HB4 := Lib.hid hB4; have HBZ := Lib.hid (HBY.out.trans hb4); clear hB4 hb4))
        go_roundw
        case rel => exact ⟨k + 1, by omega, by go_num, by first | exact HB4.out | (rw [HSN.out]; exact HB4.out), HBZ.out⟩
        case measure => simp [intOf]; omega
      · obtain rfl : k = l.length := by omega
        go_wp2_with (go_at_call 20; refine (string_k _ _ _ hB).mono ?_; rintro e w3 ⟨rfl, hb3⟩)
        go_ret2
        rw [HR.out]
        exact ⟨by simp only [List.take_length]; rfl, hb1.trans ((hb.trans hb3).mono hb1.size)⟩
end Go.Proofs.YtfjcnomingbneaaDoor
