/- Proved: for every slice of Hole values and every number, CrowdedSteps of the program answers as the model's, and neither the argument nor anything that was there before the call has turned. No condition. -/
import Derived.Test.YtkfgmkgbicahgaaCrowd
import Derived.Test.YtkfgmkgbicahgaaHoleOpen
namespace Go.Proofs.Ytkfgmkgbicahgaa
open Go.ChangeShapes Go.WideShapes Go.ChangeAt Go.RowKit
set_option linter.unusedVariables false

set_option maxRecDepth 100000 in
set_option maxHeartbeats 2000000 in
theorem crowdedStepsLaw_core (A : Option Addr) (l : List Nt) (c : Nat) (m_ : Int) (w : World) (hlc : l.length ≤ c) (hcm : c ≤ maxLen) (hA : RA w A l) (va : Int) (vb : Bool)
    (HS : Hid (∀ (A : Nat) (c : Nat) (W : World), l.length ≤ c → c ≤ 9223372036854775807 → RA W (some ⟨A, 0, none⟩) l → Calls Try.prog 17 #[.slice (some ⟨A, 0, none⟩) l.length c, .int .i64 m_] W fun e W' => e = .returned (.tuple #[.int .i64 va, .bool vb]) ∧ Below W.heap.size W W'))
    (HI : Hid (∀ (A : Nat) (c : Nat) (W : World), l.length ≤ c → c ≤ 9223372036854775807 → RA W (some ⟨A, 0, none⟩) l → Calls Try.prog 18 #[.slice (some ⟨A, 0, none⟩) l.length c, .int .i64 m_] W fun e W' => e = .returned (.tuple #[.int .i64 va, .bool vb]) ∧ Below W.heap.size W W')) (hbig : l.length ≤ 1048576) :
    Calls Try.prog 5 #[.slice A l.length c, .int .i64 m_] w fun e w' => e = .returned (.bool true) ∧ Below w.heap.size w w' := by
  unfold maxLen at hcm
  have hleft : ¬ ((1048576 : Int) - l.length < 0) := by omega
  go_enter Try.func5, Try.ntmps5
  go_wp2_with fail
  refine (szHoleS_any _ _ _ _ _ (by omega) (by omega) (by omega)).mono ?_
  rintro e w' ⟨rfl, rfl⟩
  rw [if_neg (by omega)]
  go_wp2_with fail
  refine (toHoleS_any _ _ _ _ hbig hA).mono ?_
  rintro e w1 ⟨rfl, ho1, hb1⟩
  go_wp2_with fail
  refine (HS.out _ _ _ (Nat.le_refl _) (by omega) ho1.ra).mono ?_
  rintro e w2 ⟨rfl, hb2⟩
  have hB2 := hb1.trans (hb2.mono hb1.size)
  go_wp2_with fail
  refine (toHoleS_any _ _ _ _ hbig (hA.below hB2)).mono ?_
  rintro e w3 ⟨rfl, ho3, hb3⟩
  have hB3 := hB2.trans (hb3.mono hB2.size)
  go_wp2_with fail
  refine (HI.out _ _ _ (Nat.le_refl _) (by omega) ho3.ra).mono ?_
  rintro e w4 ⟨rfl, hb4⟩
  have hB4 := hB3.trans (hb4.mono hB3.size)
  have ho4 := ho3.below hb4 (Nat.le_refl _)
  go_wp2_with fail
  refine (toHoleS_any _ _ _ _ hbig (hA.below hB4)).mono ?_
  rintro e w5 ⟨rfl, ho5, hb5⟩
  have hB5 := hB4.trans (hb5.mono hB4.size)
  have ho45 := ho4.below hb5 (Nat.le_refl _)
  go_wp2_with fail
  refine (eqHoleS_any _ _ _ _ _ _ _ (by omega) (by omega) ho45.ra ho5.ra).mono ?_
  rintro e w6 ⟨rfl, hb6⟩
  go_wp2
  go_ret
  exact ⟨rfl, hB5.trans (hb6.mono hB5.size)⟩

set_option maxRecDepth 100000 in
set_option maxHeartbeats 1000000 in
theorem crowdedStepsLaw_walk (A : Option Addr) (l : List Nt) (c : Nat) (m_ : Int) (w : World) (hlc : l.length ≤ c) (hcm : c ≤ maxLen) (hA : RA w A l) :
    Calls Try.prog 5 #[.slice A l.length c, .int .i64 m_] w fun e w' => e = .returned (.bool true) ∧ Below w.heap.size w w' := by
  by_cases hbig : l.length ≤ 1048576
  · obtain ⟨va, vb, h1, h2⟩ := crowdedSteps_both l m_ hbig
    exact crowdedStepsLaw_core A l c m_ w hlc hcm hA va vb h1 h2 hbig
  · unfold maxLen at hcm
    have hleft : (1048576 : Int) - l.length < 0 := by omega
    go_enter Try.func5, Try.ntmps5
    go_wp2_with fail
    refine (szHoleS_any _ _ _ _ _ (by omega) (by omega) (by omega)).mono ?_
    rintro e w' ⟨rfl, rfl⟩
    rw [if_pos (by omega)]
    go_wp2
    go_ret
    exact ⟨rfl, Below.refl _ _⟩

set_option maxRecDepth 100000 in
theorem crowdedStepsLaw_lifted (os : Os) (started : os.Started) (H : Type) (enc : TypeId × Value → H) :
    ReturnsInHanded {} Try.checked os 5 .any (Rows.fnExactCrowdedStepsSpec.pre6 enc Try.prog Try.f5 Rows.fnExactCrowdedStepsRow.domain false) (Rows.fnExactCrowdedStepsSpec.post enc Try.prog Try.f5 false true false false) := by
  refine returnsInHanded_of_change (C := Try.checked) Try.own started (by kernel_rfl) Try.func5
    (ChangeSpec.witness6 (enc := enc) (C := Try.checked) false ⟨#[], #[.slice none 0 0, .int .i64 0], []⟩ 8 (by kernel_rfl) (by kernel_rfl) (by kernel_rfl) (by kernel_rfl)) ?_
  intro W base args ds gs before hval0 hW hcnd _
  have hval : ∀ (j : Nat) t v, Try.f5.params[j]? = some t → args[j]? = some v → Value.okWide Try.prog W .any base t v := hval0
  have hW' := hW
  have hlt := fun p hp => hW.lt p hp
  obtain ⟨p, q, hA0, hV, rfl, hfz, hnd⟩ := hW
  have hA : DataW.TrodAll enc Try.prog W 0 (fun _ => true) true Try.f5.params.toList args.toList ds p := hA0
  rw [Try.params5] at hA hval
  obtain ⟨rfl, rfl⟩ := trodVars_none hV
  obtain ⟨v0, v1, d0, d1, p0, p1, rfl, rfl, rfl, h0, h1⟩ := trodAll_two hA
  obtain ⟨m_, rfl, rfl, rfl, w1⟩ := open_int Try.underlying3 (hval 1 3 v1 rfl rfl) h1
  obtain ⟨a0, n0, c0, hv0⟩ := okWide_slice Try.underlying22 (hval 0 22 v0 rfl rfl)
  obtain ⟨A, l, c, rfl, hlc, hcm, hRA⟩ := open_HoleS ⟨a0, n0, c0, hv0⟩ h0 (fun x hx => hlt x (by simp [hx]))
  refine (crowdedStepsLaw_walk A l c m_ W hlc hcm hRA).mono fun e W' ⟨he, hw⟩ => ?_
  subst he
  exact ⟨_, rfl, law_post Try.laidOut (by rw [Try.params5]; intro t ht; simp at ht; rcases ht with rfl | rfl <;> exact ⟨by kernel_rfl, of_decide_eq_true (by kernel_rfl)⟩) rfl rfl rfl Try.underlying4 hW' hw⟩

theorem crowdedStepsLaw_holds : Rows.FnExactCrowdedStepsSaid :=
  OpenClaim.holds_of_wide 5 Try.f5 rfl rfl rfl rfl rfl rfl rfl ⟨rfl, rfl, rfl, rfl, rfl⟩ rfl rfl rfl rfl rfl (by kernel_rfl) Try.func5 (by kernel_rfl)
    (of_decide_eq_true (by kernel_rfl)) (by unfold Func.isWrapper; rw [if_neg (of_decide_eq_false (by kernel_rfl))]; exact ⟨rfl, rfl⟩)
    (fun os started H enc _ => crowdedStepsLaw_lifted os started H enc)

end Go.Proofs.Ytkfgmkgbicahgaa
