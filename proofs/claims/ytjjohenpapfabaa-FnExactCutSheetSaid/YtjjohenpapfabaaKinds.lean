/- Contracts: the four changes of a sheet: whether one suits a sheet, and what it makes of a hole. -/
import Derived.Test.YtjjohenpapfabaaLen
import Derived.StillTailTactics
import Derived.Deep.RegionWith
import Derived.Deep.RegionHeld3
import Derived.Deep.OwnRows
import Derived.BigRegion
namespace Go.Proofs.Ytjjohenpapfabaa
open Go.RowKit Go.Sort
set_option linter.unusedVariables false
set_option linter.unusedSimpArgs false

theorem as11 (b : Value) (w : World) : (Instr.typeAssert (.iface 82 b) 98 82 true).run Try.prog w = .ok (.tuple #[b, .bool true]) w := by kernel_rfl
theorem as12 (b : Value) (w : World) : (Instr.typeAssert (.iface 84 b) 98 82 true).run Try.prog w = .ok (.tuple #[.agg #[.int .i64 0], .bool false]) w := by kernel_rfl
theorem as22 (b : Value) (w : World) : (Instr.typeAssert (.iface 84 b) 98 84 true).run Try.prog w = .ok (.tuple #[b, .bool true]) w := by kernel_rfl
theorem as13 (b : Value) (w : World) : (Instr.typeAssert (.iface 86 b) 98 82 true).run Try.prog w = .ok (.tuple #[.agg #[.int .i64 0], .bool false]) w := by kernel_rfl
theorem as23 (b : Value) (w : World) : (Instr.typeAssert (.iface 86 b) 98 84 true).run Try.prog w = .ok (.tuple #[.agg #[.int .i64 0], .bool false]) w := by kernel_rfl
theorem as33 (b : Value) (w : World) : (Instr.typeAssert (.iface 86 b) 98 86 true).run Try.prog w = .ok (.tuple #[b, .bool true]) w := by kernel_rfl
theorem as14 (b : Value) (w : World) : (Instr.typeAssert (.iface 88 b) 98 82 true).run Try.prog w = .ok (.tuple #[.agg #[.int .i64 0], .bool false]) w := by kernel_rfl
theorem as24 (b : Value) (w : World) : (Instr.typeAssert (.iface 88 b) 98 84 true).run Try.prog w = .ok (.tuple #[.agg #[.int .i64 0], .bool false]) w := by kernel_rfl
theorem as34 (b : Value) (w : World) : (Instr.typeAssert (.iface 88 b) 98 86 true).run Try.prog w = .ok (.tuple #[.agg #[], .bool false]) w := by kernel_rfl
theorem as44 (b : Value) (w : World) : (Instr.typeAssert (.iface 88 b) 98 88 true).run Try.prog w = .ok (.tuple #[b, .bool true]) w := by kernel_rfl

set_option maxRecDepth 100000 in
set_option maxHeartbeats 4000000 in
theorem changed_move (b p s n : Int) (w : World) (hb1 : -2000 ≤ b) (hb2 : b ≤ 2000) (h1 : 0 ≤ s) (h2 : s < n) (h3 : n ≤ 2000) :
    Calls Try.prog 92 #[.agg #[.int .i64 p, .int .i64 s, .int .i64 n], .iface 82 (.agg #[.int .i64 b])] w fun e w' => e = .returned (.tuple #[.agg #[.int .i64 p, .int .i64 (s + b), .int .i64 (n + b)], .bool (decide ((s + b) < (n + b)))]) ∧ Below w.heap.size w w' := by
  have q11 := as11
  have z1 : w.heap.size ≠ w.heap.size + 1 := by omega
  have z2 : w.heap.size ≠ w.heap.size + 1 + 1 := by omega
  have z3 : w.heap.size + 1 ≠ w.heap.size + 1 + 1 := by omega
  go_enter Try.func92, Try.ntmps92
  go_wp2_with fail
  go_region
  all_goals
    go_wp2_with fail
    go_region
  all_goals
    go_wp2
    refine bodyPost_ret (v := .tuple #[.agg #[.int .i64 p, .int .i64 (s + b), .int .i64 (n + b)], .bool (decide ((s + b) < (n + b)))]) (by simp [results, Try.results92, go_sem, *]) rfl ⟨rfl, ?_⟩
    first
      | exact ((((Below.refl _ _).alloc (Nat.le_refl _) _).alloc (by simp) _).alloc (by simp; omega) _).drew.drew
      | exact ((((Below.refl _ _).alloc (Nat.le_refl _) _).alloc (by simp) _).alloc (by simp; omega) _).drew

set_option maxRecDepth 100000 in
set_option maxHeartbeats 4000000 in
theorem changed_rev (m p s n : Int) (w : World) (hb1 : 0 ≤ m) (hb2 : m ≤ 2000) (h1 : 0 ≤ s) (h2 : s < n) (h3 : n ≤ 2000) :
    Calls Try.prog 92 #[.agg #[.int .i64 p, .int .i64 s, .int .i64 n], .iface 84 (.agg #[.int .i64 m])] w fun e w' => e = .returned (.tuple #[.agg #[.int .i64 p, .int .i64 (m - n), .int .i64 (m - s)], .bool (decide ((m - n) < (m - s)))]) ∧ Below w.heap.size w w' := by
  have q12 := as12
  have q22 := as22
  have z1 : w.heap.size ≠ w.heap.size + 1 := by omega
  have z2 : w.heap.size ≠ w.heap.size + 1 + 1 := by omega
  have z3 : w.heap.size + 1 ≠ w.heap.size + 1 + 1 := by omega
  go_enter Try.func92, Try.ntmps92
  go_wp2_with fail
  go_region
  all_goals
    go_wp2_with fail
    go_region
  all_goals
    go_wp2
    refine bodyPost_ret (v := .tuple #[.agg #[.int .i64 p, .int .i64 (m - n), .int .i64 (m - s)], .bool (decide ((m - n) < (m - s)))]) (by simp [results, Try.results92, go_sem, *]) rfl ⟨rfl, ?_⟩
    first
      | exact ((((Below.refl _ _).alloc (Nat.le_refl _) _).alloc (by simp) _).alloc (by simp; omega) _).drew.drew
      | exact ((((Below.refl _ _).alloc (Nat.le_refl _) _).alloc (by simp) _).alloc (by simp; omega) _).drew

set_option maxRecDepth 100000 in
set_option maxHeartbeats 4000000 in
theorem changed_mir (p s n : Int) (w : World) (hb1 : 0 ≤ p) (hb2 : p ≤ 19) :
    Calls Try.prog 92 #[.agg #[.int .i64 p, .int .i64 s, .int .i64 n], .iface 86 (.agg #[])] w fun e w' => e = .returned (.tuple #[.agg #[.int .i64 (19 - p), .int .i64 s, .int .i64 n], .bool (decide (s < n))]) ∧ Below w.heap.size w w' := by
  have q13 := as13
  have q23 := as23
  have q33 := as33
  have z1 : w.heap.size ≠ w.heap.size + 1 := by omega
  have z2 : w.heap.size ≠ w.heap.size + 1 + 1 := by omega
  have z3 : w.heap.size + 1 ≠ w.heap.size + 1 + 1 := by omega
  go_enter Try.func92, Try.ntmps92
  go_wp2_with fail
  all_goals
    go_wp2_with fail
    go_region
  all_goals
    go_wp2
    refine bodyPost_ret (v := .tuple #[.agg #[.int .i64 (19 - p), .int .i64 s, .int .i64 n], .bool (decide (s < n))]) (by simp [results, Try.results92, go_sem, *]) rfl ⟨rfl, ?_⟩
    first
      | exact ((((Below.refl _ _).alloc (Nat.le_refl _) _).alloc (by simp) _).alloc (by simp; omega) _).drew.drew
      | exact ((((Below.refl _ _).alloc (Nat.le_refl _) _).alloc (by simp) _).alloc (by simp; omega) _).drew

end Go.Proofs.Ytjjohenpapfabaa
