/- The model's inLast: the index of the last note of a pitch before one. -/
import Derived.Test.YtecbeicppfcofabDoorPairP
import Derived.Test.YtecbeicppfcofabDoorSlc
import Derived.Lib.QuietBelow
namespace Go.Proofs.YtecbeicppfcofabDoor
open Go.RowKit Go.Sort
set_option linter.unusedVariables false
set_option linter.unusedSimpArgs false

set_option maxRecDepth 100000 in
set_option maxHeartbeats 1000000 in
theorem inLast_any (A : Option Addr) (l : List Nt) (c : Nat) (i : Nat) (x : Nt) (w : World) (hn : l.length ≤ 1048576) (hA : RA w A l) (hx : l[i]? = some x) :
    Calls Tryd.prog 28 #[.slice A l.length c, .int .i64 (i : Int)] w fun e w' => e = .returned (.int .i64 (lastIx x.1 l i)) ∧ Below w.heap.size w w' := by
  have hil := (List.getElem?_eq_some_iff.1 hx).1
  obtain ⟨p, s, n⟩ := x
  obtain ⟨g, o, rfl, hg, x0, x1, x2⟩ := hA i _ hx
  simp only at x0 x1 x2
  have i1 : (0 : Int) ≤ (i : Int) := by omega
  have i2 : (i : Int) < (l.length : Int) := by omega
  have hw : IntKind.i64.wrap ((i : Int) - 1) = (i : Int) - 1 := IntWalk.i64_in _ (by omega)
  clear x1 x2
  have HX := Lib.hid hx
  clear hx
  go_enter Tryd.func28, Tryd.ntmps28
  go_wp2
  go_loopw [5] (fun j wr => ∃ m : Nat, m ≤ i ∧ j = .int .i64 ((m : Int) - 1) ∧ lastIx p l i = lastIx p l m ∧ Below w.heap.size w wr)
    (fun j _ => (intOf j + 1).toNat)
  case atStart => exact ⟨i, Nat.le_refl _, rfl, rfl, Below.refl _ _⟩
  case round =>
    obtain ⟨m, hm, rfl, hl, hb⟩ := hrel
    have HL := Lib.hid hl
    clear hl
    rcases Nat.eq_zero_or_pos m with hm0 | hm0
    · subst hm0
      have hd : ¬ ((0 : Int) ≤ ((0 : Nat) : Int) - 1) := by omega
      go_wp2
      go_ret
      exact ⟨ret_int (by rw [HL.out]; rfl), hb⟩
    · have hy : l[m - 1]? = some l[m - 1] := List.getElem?_eq_getElem (by omega)
      generalize l[m - 1] = y at hy
      obtain ⟨py, sy, ny⟩ := y
      obtain ⟨g2, o2, hgo, hg2, y0, y1, y2⟩ := (hA.below hb) (m - 1) _ hy
      simp only [Option.some.injEq, Addr.mk.injEq, and_true] at hgo
      obtain ⟨rfl, rfl⟩ := hgo
      simp only at y0 y1 y2
      have xr := (hb.cell (p := ⟨g, o + i * 3, none⟩) hg).trans x0
      have hmm : ((m : Int) - 1) = ((m - 1 : Nat) : Int) := by omega
      have j1 : (0 : Int) ≤ ((m - 1 : Nat) : Int) := by omega
      have j2 : ((m - 1 : Nat) : Int) < (l.length : Int) := by omega
      have hs := lastIx_succ (p := p) hy
      rw [show m - 1 + 1 = m by omega] at hs
      have HS := Lib.hid hs
      have HM := Lib.hid hmm
      have hM := hm0
      rw [hmm]
      generalize hk : m - 1 = k at *
      have HK := Lib.hid hk
      clear hs hmm hy y1 y2 x0 hA hk
      have hwk : IntKind.i64.wrap ((k : Int) - 1) = (k : Int) - 1 := IntWalk.i64_in _ (by omega)
      by_cases he : py = p
      · have hbe : (py == p) = true := by simp [he]
        go_wp2_with fail
        go_region
        all_goals
          go_wp2
          go_ret
          exact ⟨ret_int (by rw [HL.out, HS.out]; simp [he]), hb.drew⟩
      · have hbe : (py == p) = false := by simp [he]
        go_wp2_with fail
        go_region
        all_goals
          go_wp2
          go_roundw
          case rel => exact ⟨k, by have := HK.out; omega, by go_num, by rw [HL.out, HS.out]; simp [he], hb.drew⟩
          case measure => simp [intOf]
end Go.Proofs.YtecbeicppfcofabDoor
