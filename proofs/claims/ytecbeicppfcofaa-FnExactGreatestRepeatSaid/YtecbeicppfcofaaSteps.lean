/- The program's stepsApart; an append of a slice of two numbers onto a slice of such. -/
import Derived.Test.YtecbeicppfcofaaRepN
import Derived.Lib.QuietBelow
namespace Go.Proofs.Ytecbeicppfcofaa
open Go.RowKit Go.Sort Go.Maps
set_option linter.unusedVariables false
set_option linter.unusedSimpArgs false

set_option maxRecDepth 100000 in
set_option maxHeartbeats 1000000 in
theorem steps_any (A : Option Addr) (l : List Nt) (c g : Nat) (a b : Int) (w : World) (hn : l.length ≤ 1048576) (hA : RA w A l) (hg : Good l) (ha : 0 ≤ a) (ha' : a < l.length) (hb : 0 ≤ b) (hb' : b < l.length)
    (c0 : w.cell? ⟨g, 0, none⟩ = some (.int .i64 a)) (c1 : w.cell? ⟨g, 1, none⟩ = some (.int .i64 b)) :
    Calls Try.prog 74 #[.slice A l.length c, ps2 g] w fun e w' => e = .returned (.int .i64 (apart l a b)) ∧ Below w.heap.size w w' := by
  have hx : l[a.toNat]? = some l[a.toNat] := List.getElem?_eq_getElem (by omega)
  have hy : l[b.toNat]? = some l[b.toNat] := List.getElem?_eq_getElem (by omega)
  have hxd : l.getD a.toNat (0, 0, 0) = l[a.toNat] := by rw [List.getD_eq_getElem?_getD, hx]; rfl
  have hyd : l.getD b.toNat (0, 0, 0) = l[b.toNat] := by rw [List.getD_eq_getElem?_getD, hy]; rfl
  have hvx := (noteN_iff _).1 (hg.1 a.toNat _ (by omega) hx).1
  have hvy := (noteN_iff _).1 (hg.1 b.toNat _ (by omega) hy).1
  generalize l[a.toNat] = x at hx hxd hvx
  generalize l[b.toNat] = y at hy hyd hvy
  obtain ⟨px, sx, nx⟩ := x
  obtain ⟨py, sy, ny⟩ := y
  simp only at hvx hvy
  obtain ⟨g1, o1, rfl, hg1, x0, x1, x2⟩ := hA a.toNat _ hx
  obtain ⟨g2, o2, hgo, hg2, y0, y1, y2⟩ := hA b.toNat _ hy
  simp only [Option.some.injEq, Addr.mk.injEq, and_true] at hgo
  obtain ⟨rfl, rfl⟩ := hgo
  simp only at x1 y1
  have hap : apart l a b = sy - sx := by unfold apart; rw [hxd, hyd]
  have hw : IntKind.i64.wrap (sy - sx) = sy - sx := IntWalk.i64_in _ (by omega)
  have HAP := Lib.hid hap
  clear hap hxd hyd hx hy x0 x2 y0 y2 hA
  have x1 := cell_regrown x1
  have y1 := cell_regrown y1
  have c0 := cell_regrown c0
  have c1 := cell_regrown c1
  go_enter Try.func74, Try.ntmps74
  go_wp2_with fail
  refine wp_region_quiet_below (by kernel_rfl) (by kernel_rfl) ?_
  repeat (go_big_quiet_step (fail))
  refine wpQuiet_nil ?_
  intro _ hw'
  obtain ⟨qr, hw''⟩ := hw'
  subst hw''
  go_wp2
  go_ret
  exact ⟨ret_int (by rw [HAP.out]), below_regrown w qr.d qr.os⟩
end Go.Proofs.Ytecbeicppfcofaa
