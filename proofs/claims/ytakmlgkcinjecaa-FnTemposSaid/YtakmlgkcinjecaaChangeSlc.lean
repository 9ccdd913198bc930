/- Contracts of the laws' own functions on slices of one struct: sizes, copies, equality, marks. -/
import Derived.Test.YtakmlgkcinjecaaChangeTwo
import Derived.Test.YtakmlgkcinjecaaPlain2
import Derived.LoopTactic
import Derived.Maps.AppendAt
namespace Go.Proofs.Ytakmlgkcinjecaa
open Go.RowKit
set_option linter.unusedVariables false

theorem Try.info_Change : (Try.prog.info? 32).map (fun i => (i.zero, i.size, i.bytes)) = some (some (.agg #[.int .i64 0, .int .i64 0]), 2, 16) := by kernel_rfl

theorem make_Change (n : Nat) (hn : n ≤ 1048576) (W : World) :
    (Instr.makeSlice 23 (.int .i64 (n : Int)) (.int .i64 (n : Int))).run Try.prog W = .ok (.slice (some ⟨W.heap.size, 0, none⟩) n n) (W.alloc (.cells (madeCells #[.int .i64 0, .int .i64 0] (n * 2)) 32)) := by
  obtain ⟨i, hi, hz, hs, hb⟩ := info_parts Try.info_Change
  have h := run_make (P := Try.prog) W 23 32 i _ Try.underlying23 hi hz .i64 .i64 (n : Int) (n : Int) (by omega) (by omega) (by rw [hb]; omega) (by omega)
  rw [hs] at h
  simp only [Int.toNat_natCast] at h
  exact h

end Go.Proofs.Ytakmlgkcinjecaa
