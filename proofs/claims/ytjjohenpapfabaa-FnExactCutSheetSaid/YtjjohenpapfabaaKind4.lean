/- Contract: a part of a hole. -/
import Derived.Test.YtjjohenpapfabaaKinds
namespace Go.Proofs.Ytjjohenpapfabaa
open Go.RowKit Go.Sort
set_option linter.unusedVariables false
set_option linter.unusedSimpArgs false

set_option maxRecDepth 100000 in
set_option maxHeartbeats 4000000 in
theorem changed_cut (f t p s n : Int) (w : World) (hb1 : 0 ≤ f) (hb2 : f ≤ 1999) (hb3 : f < t) (hb4 : t ≤ 2000) (h1 : 0 ≤ s) (h2 : s < n) (h3 : n ≤ 2000) :
    Calls Try.prog 92 #[.agg #[.int .i64 p, .int .i64 s, .int .i64 n], .iface 88 (.agg #[.int .i64 f, .int .i64 t])] w fun e w' => e = .returned (.tuple #[.agg #[.int .i64 p, .int .i64 (mxI s f - f), .int .i64 (mnI n t - f)], .bool (decide (mxI s f - f < mnI n t - f))]) ∧ Below w.heap.size w w' := by
  have q14 := as14
  have q24 := as24
  have q34 := as34
  have q44 := as44
  have z1 : w.heap.size ≠ w.heap.size + 1 := by omega
  have z2 : w.heap.size ≠ w.heap.size + 1 + 1 := by omega
  have z3 : w.heap.size + 1 ≠ w.heap.size + 1 + 1 := by omega
  go_enter Try.func92, Try.ntmps92
  go_wp2_with fail
  go_region
  rw [show (if s < f then f else s) = mxI s f from rfl, show (if t < n then t else n) = mnI n t from rfl]
  have hu := mxI_spec s f
  have hv := mnI_spec n t
  have u1 : 0 ≤ mxI s f ∧ mxI s f ≤ 2000 := by omega
  have v1 : 0 ≤ mnI n t ∧ mnI n t ≤ 2000 := by omega
  clear hu hv
  obtain ⟨u1, u2⟩ := u1
  obtain ⟨v1, v2⟩ := v1
  go_wp2_with fail
  go_region
  go_wp2
  refine bodyPost_ret (v := .tuple #[.agg #[.int .i64 p, .int .i64 (mxI s f - f), .int .i64 (mnI n t - f)], .bool (decide (mxI s f - f < mnI n t - f))]) (by simp [results, Try.results92, go_sem, *]) rfl ⟨rfl, ?_⟩
  exact ((((Below.refl _ _).alloc (Nat.le_refl _) _).alloc (by simp) _).alloc (by simp; omega) _).drew.drew
end Go.Proofs.Ytjjohenpapfabaa
