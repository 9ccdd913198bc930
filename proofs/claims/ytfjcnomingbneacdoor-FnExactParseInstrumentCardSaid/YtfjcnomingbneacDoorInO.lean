/- The program hands on an instrument that is valid. -/
import Derived.Test.YtfjcnomingbneacDoorInsF
import Derived.Test.YtfjcnomingbneacDoorLimR
import Derived.OwnWalk
namespace Go.Proofs.YtfjcnomingbneacDoor
open Go.RowKit Go.Sort
set_option linter.unusedVariables false
set_option linter.unusedSimpArgs false

def onlyR (A : Option Addr) (l : List Int) (c : Nat) (r : Int) : Array Value := if gdI l r = true then #[.agg #[.slice A l.length c, .int .i64 r], .bool true] else #[.agg #[.slice none 0 0, .int .i64 0], .bool false]

set_option maxRecDepth 100000 in
set_option maxHeartbeats 1000000 in
theorem insOnly_any (A : Option Addr) (l : List Int) (c : Nat) (r : Int) (w : World) (hn : l.length ≤ 1048576) (hA : RI w A l) (hL : Lim w) :
    Calls Tryd.prog 29 #[.agg #[.slice A l.length c, .int .i64 r]] w fun e w' => e = .returned (.tuple (onlyR A l c r)) ∧ Below w.heap.size w w' := by
  have hb2 : Below w.heap.size w ((w.alloc (.cells #[.slice A l.length c, .int .i64 r] 28)).alloc (.cells #[.slice none 0 0, .int .i64 0] 28)) := ((Below.refl _ _).alloc (Nat.le_refl _) _).alloc (by simp) _
  have a0 : ((w.alloc (.cells #[.slice A l.length c, .int .i64 r] 28)).alloc (.cells #[.slice none 0 0, .int .i64 0] 28)).cell? ⟨w.heap.size, 0, none⟩ = some (.slice A l.length c) := by go_simp
  have a1 : ((w.alloc (.cells #[.slice A l.length c, .int .i64 r] 28)).alloc (.cells #[.slice none 0 0, .int .i64 0] 28)).cell? ⟨w.heap.size, 1, none⟩ = some (.int .i64 r) := by go_simp
  have d0 : ((w.alloc (.cells #[.slice A l.length c, .int .i64 r] 28)).alloc (.cells #[.slice none 0 0, .int .i64 0] 28)).cell? ⟨w.heap.size + 1, 0, none⟩ = some (.slice none 0 0) := by go_simp
  have d1 : ((w.alloc (.cells #[.slice A l.length c, .int .i64 r] 28)).alloc (.cells #[.slice none 0 0, .int .i64 0] 28)).cell? ⟨w.heap.size + 1, 1, none⟩ = some (.int .i64 0) := by go_simp
  have f0 : ((w.alloc (.cells #[.slice A l.length c, .int .i64 r] 28)).alloc (.cells #[.slice none 0 0, .int .i64 0] 28)).frozen? ⟨w.heap.size + 1, 0, none⟩ = false := by go_simp
  have f1 : ((w.alloc (.cells #[.slice A l.length c, .int .i64 r] 28)).alloc (.cells #[.slice none 0 0, .int .i64 0] 28)).frozen? ⟨w.heap.size + 1, 1, none⟩ = false := by go_simp
  have hz : w.heap.size + 1 < ((w.alloc (.cells #[.slice A l.length c, .int .i64 r] 28)).alloc (.cells #[.slice none 0 0, .int .i64 0] 28)).heap.size := by simp
  have hA := hA.below hb2
  have hL := hL.below hb2
  go_enter Tryd.func29, Tryd.ntmps29
  go_wp2_with fail
  generalize ((w.alloc (.cells #[.slice A l.length c, .int .i64 r] 28)).alloc (.cells #[.slice none 0 0, .int .i64 0] 28)) = W at *
  refine (isIns_any _ _ _ _ _ hn hA hL).mono ?_
  rintro e w1 ⟨rfl, hb1⟩
  have hz0 : w.heap.size < W.heap.size := by omega
  have a0 := (hb1.cell (p := ⟨w.heap.size, 0, none⟩) hz0).trans a0
  have a1 := (hb1.cell (p := ⟨w.heap.size, 1, none⟩) hz0).trans a1
  have d0 := (hb1.cell (p := ⟨w.heap.size + 1, 0, none⟩) hz).trans d0
  have d1 := (hb1.cell (p := ⟨w.heap.size + 1, 1, none⟩) hz).trans d1
  have f0 := (hb1.frozen (p := ⟨w.heap.size + 1, 0, none⟩) hz).trans f0
  have f1 := (hb1.frozen (p := ⟨w.heap.size + 1, 1, none⟩) hz).trans f1
  have hB := Lib.hid (hb2.trans (hb1.mono hb2.size))
  have m1 : w.heap.size ≤ w.heap.size + 1 := by omega
  have n1 : w.heap.size + 1 ≠ w.heap.size := by omega
  clear hb2 hb1 hA hL hz hz0
  cases hg : gdI l r with
  | false =>
    go_wp2
    exact bodyPost_ret (v := .tuple #[.agg #[.slice none 0 0, .int .i64 0], .bool false]) (by simp [results, Tryd.results29, go_sem, *]) rfl ⟨by simp [onlyR, hg], (hB.out.setCell m1 _).setCell m1 _⟩
  | true =>
    go_wp2
    exact bodyPost_ret (v := .tuple #[.agg #[.slice A l.length c, .int .i64 r], .bool true]) (by simp [results, Tryd.results29, go_sem, *]) rfl ⟨by simp [onlyR, hg], (hB.out.setCell m1 _).setCell m1 _⟩
end Go.Proofs.YtfjcnomingbneacDoor
