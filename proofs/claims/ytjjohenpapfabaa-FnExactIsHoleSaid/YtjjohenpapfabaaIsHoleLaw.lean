/- Proved: for every hole, IsHole of the program answers as the model's, and nothing that was there before the call has turned. No condition. -/
import Derived.Test.YtjjohenpapfabaaTwo
import Derived.Test.YtjjohenpapfabaaHoleTwo
import Derived.Test.YtjjohenpapfabaaLaw
import Derived.Lib.SmallJoins
namespace Go.Proofs.Ytjjohenpapfabaa
open Go.ChangeShapes Go.WideShapes Go.ChangeAt Go.RowKit Go.Joins

theorem Try.cells_Hole_laws : Try.prog.cellsOf 32 = 3 := by kernel_rfl

set_option maxHeartbeats 400000 in
theorem specIsHole_any (p s n : Int) (w : World) :
    Calls Try.prog 22 #[.agg #[.int .i64 p, .int .i64 s, .int .i64 n]] w fun e w' => e = .returned (.bool (noteB p s n)) ∧ Below w.heap.size w w' := by
  go_enter Try.func22, Try.ntmps22
  go_wp2_with (go_at_call 62; refine (ntNote_any _ _ _ _).mono ?_; rintro e w1 ⟨rfl, hb⟩)
  go_ret
  exact ⟨rfl, ((Below.refl _ _).alloc (Nat.le_refl _) _).trans (hb.mono (by simp))⟩

set_option maxHeartbeats 1000000 in
theorem isHoleLaw_walk (p s n : Int) (w : World) :
    Calls Try.prog 4 #[.agg #[.int .i64 p, .int .i64 s, .int .i64 n]] w fun e w' => e = .returned (.bool true) ∧ Below w.heap.size w w' := by
  go_enter Try.func4, Try.ntmps4
  go_wp2_with fail
  have k0 : ∀ o, (w.alloc (.cells #[.int .i64 p, .int .i64 s, .int .i64 n] 32)).cell? ⟨w.heap.size, o, none⟩ = #[Value.int .i64 p, .int .i64 s, .int .i64 n][o]? := fun o => World.cell?_alloc_new w _ _ o
  refine (toHole_any _ _ _ _).mono ?_
  rintro e w1 ⟨rfl, hb1⟩
  have k1 : ∀ o, w1.cell? ⟨w.heap.size, o, none⟩ = #[Value.int .i64 p, .int .i64 s, .int .i64 n][o]? := fun o => ((bcell hb1).1 _ o (by simp)).trans (k0 o)
  have z1 : w.heap.size < w1.heap.size := by have := hb1.size; simp at this; omega
  go_wp2_with fail
  refine (specIsHole_any _ _ _ _).mono ?_
  rintro e w2 ⟨rfl, hb2⟩
  have k2 : ∀ o, w2.cell? ⟨w.heap.size, o, none⟩ = #[Value.int .i64 p, .int .i64 s, .int .i64 n][o]? := fun o => ((bcell hb2).1 _ o z1).trans (k1 o)
  have z2 : w.heap.size < w2.heap.size := by have := hb2.size; omega
  go_wp2_with fail
  refine (toHole_any _ _ _ _).mono ?_
  rintro e w3 ⟨rfl, hb3⟩
  have z3 := hb3.size
  go_wp2_with fail
  refine (implIsNote_any _ _ _ _).mono ?_
  rintro e w4 ⟨rfl, hb4⟩
  go_wp2
  go_ret
  refine ⟨rfl, ?_⟩
  exact ((((((Below.refl _ _).alloc (Nat.le_refl _) _).trans (hb1.mono (by simp))).trans (hb2.mono (by omega))).trans (hb3.mono (by omega))).trans (hb4.mono (by omega)))

set_option maxRecDepth 100000 in
theorem isHoleLaw_lifted (os : Os) (started : os.Started) (H : Type) (enc : TypeId × Value → H) :
    ReturnsInHanded {} Try.checked os 4 .any (Rows.fnExactIsHoleSpec.pre6 enc Try.prog Try.f4 Rows.fnExactIsHoleRow.domain false) (Rows.fnExactIsHoleSpec.post enc Try.prog Try.f4 false true false false) := by
  refine returnsInHanded_of_change (C := Try.checked) Try.own started (by kernel_rfl) Try.func4
    (ChangeSpec.witness6 (enc := enc) (C := Try.checked) false ⟨#[], #[.agg #[.int .i64 0, .int .i64 0, .int .i64 0]], []⟩ 8 (by kernel_rfl) (by kernel_rfl) (by kernel_rfl) (by kernel_rfl)) ?_
  intro W base args ds gs before hval0 hW hcnd _
  have hval : ∀ (j : Nat) t v, Try.f4.params[j]? = some t → args[j]? = some v → Value.okWide Try.prog W .any base t v := hval0
  have hW' := hW
  obtain ⟨p, q, hA0, hV, rfl, hfz, hnd⟩ := hW
  have hA : DataW.TrodAll enc Try.prog W 0 (fun _ => true) true Try.f4.params.toList args.toList ds p := hA0
  rw [Try.params4] at hA hval
  obtain ⟨v0, d0, rfl, rfl, h0⟩ := trodAll_one hA
  obtain ⟨rfl, rfl⟩ := trodVars_none hV
  obtain ⟨c0, c1, c2, y0, y1, y2, m, rfl, rfl, rfl, hy0, hy1, hy2⟩ := open_agg3 Try.underlying32 (by kernel_rfl) Try.cells_Hole_laws (hval 0 32 v0 rfl rfl) h0
  obtain ⟨a, e0, rfl, wa⟩ := DataW.trod_int Try.underlying3 hy0
  obtain ⟨b, e1, rfl, wb⟩ := DataW.trod_int Try.underlying3 hy1
  obtain ⟨c, e2, rfl, wc⟩ := DataW.trod_int Try.underlying3 hy2
  simp at e0 e1 e2
  subst e0 e1 e2
  refine (isHoleLaw_walk a b c W).mono fun e W' ⟨he, hw⟩ => ?_
  subst he
  exact ⟨_, rfl, law_post Try.laidOut (by rw [Try.params4]; intro t ht; simp at ht; subst ht; exact ⟨by kernel_rfl, of_decide_eq_true (by kernel_rfl)⟩) rfl rfl rfl Try.underlying4 hW' hw⟩

theorem isHoleLaw_holds : Rows.FnExactIsHoleSaid :=
  OpenClaim.holds_of_wide 4 Try.f4 rfl rfl rfl rfl rfl rfl rfl ⟨rfl, rfl, rfl, rfl, rfl⟩ rfl rfl rfl rfl rfl (by kernel_rfl) Try.func4 (by kernel_rfl)
    (of_decide_eq_true (by kernel_rfl)) (by unfold Func.isWrapper; rw [if_neg (of_decide_eq_false (by kernel_rfl))]; exact ⟨rfl, rfl⟩)
    (fun os started H enc _ => isHoleLaw_lifted os started H enc)
end Go.Proofs.Ytjjohenpapfabaa
