/- Proved: for every instrument and every number, NearestPitch of the program answers as the model's, and neither the argument nor anything that was there before the call has turned; the table of limits is tied to the program's own text. No condition. -/
import Derived.Test.YtbdffmacpajebaaDoorNearestPitchLawW
import Derived.Test.YtbdffmacpajebaaDoorCardK
import Derived.Lay
namespace Go.Proofs.YtbdffmacpajebaaDoor
open Go.ChangeShapes Go.WideShapes Go.ChangeAt Go.RowKit
set_option linter.unusedVariables false

theorem nearLaw_met (os : Os) (args : Array Value) : laidMetH Tryd.prog Rows.fnExactNearestPitchRow.laid ((World.laidAll Tryd.prog os Rows.fnExactNearestPitchRow.laid).forCall (fun _ _ => 0) ⟨#[], args, []⟩).memory := by
  rw [MakeChecks.laidMetH_plain _ _ _ (by kernel_rfl)]
  exact laidMet_laidAll _ (by kernel_rfl) (by kernel_rfl)

set_option maxRecDepth 100000 in
theorem nearLaw_lifted (os : Os) (started : os.Started) (H : Type) (enc : TypeId × Value → H) :
    ReturnsInHanded {} Tryd.checked os 3 .any (fun w args => (Rows.fnExactNearestPitchSpec.pre enc Tryd.prog Tryd.f3 [] false w args ∧ laidMetH Tryd.prog Rows.fnExactNearestPitchRow.laid w) ∧ sizedMet enc Tryd.prog Tryd.f3 (OpenSpec.ofChange Rows.fnExactNearestPitchSpec) false w args)
      (Rows.fnExactNearestPitchSpec.post enc Tryd.prog Tryd.f3 false true false false) := by
  refine returnsInHanded_of_change_and (C := Tryd.checked) (X := fun w _ => laidMetH Tryd.prog Rows.fnExactNearestPitchRow.laid w) (fun _ _ _ hh h => h.of_heap hh) Tryd.own started (by kernel_rfl) Tryd.func3
    (ChangeSpec.witness_shaped (enc := enc) (C := Tryd.checked) (os := os) (X := fun w _ => laidMetH Tryd.prog Rows.fnExactNearestPitchRow.laid w) false (World.laidAll Tryd.prog os Rows.fnExactNearestPitchRow.laid) #[.agg #[.slice none 0 0, .int .i64 0], .int .i64 0] 8 (World.laidAll_os _ _ _)
      (World.shaped_of_ZipB (by kernel_rfl) (by kernel_rfl)) (by kernel_rfl) (by kernel_rfl) (by kernel_rfl) (nearLaw_met os _)) ?_
  intro W base args ds gs before hval0 hW _ _ hL _
  have hval : ∀ (j : Nat) t v, Tryd.f3.params[j]? = some t → args[j]? = some v → Value.okWide Tryd.prog W .any base t v := hval0
  have hW' := hW
  have hlt := fun p hp => hW.lt p hp
  obtain ⟨p, q, hA0, hV, rfl, hfz, hnd⟩ := hW
  have hA : DataW.TrodAll enc Tryd.prog W 0 (fun _ => true) true Tryd.f3.params.toList args.toList ds p := hA0
  rw [Tryd.params3] at hA hval
  obtain ⟨v0, v1, d0, d1, p0, p1, rfl, rfl, rfl, h0, h1⟩ := trodAll_two hA
  obtain ⟨A0, l0, c0, r0, rfl, hlc0, hcm0, hRA0⟩ := open_ins (hval 0 24 v0 rfl rfl) h0
  obtain ⟨b1, rfl, rfl, rfl, wb1⟩ := open_int Tryd.underlying3 (hval 1 3 v1 rfl rfl) h1
  obtain ⟨gg, tt, cc, ff, dd, pp, rfl, hg1, hg2, hg3, hg4, hg5⟩ := trodVars_one hV
  rw [MakeChecks.laidMetH_plain _ _ _ (by kernel_rfl)] at hL
  have hT := lim_of_reads (Lib.laidMet.reads hL (.head _))
  refine (nearLaw_walk A0 l0 c0 r0 b1 W hlc0 hcm0 hRA0 hT).mono fun e W' ⟨he, hw⟩ => ?_
  subst he
  exact ⟨_, rfl, law_postV Tryd.laidOut (by rw [Tryd.params3]; intro t ht; simp at ht; rcases ht with rfl | rfl <;> exact ⟨by kernel_rfl, of_decide_eq_true (by kernel_rfl)⟩) (by kernel_rfl) rfl rfl Tryd.underlying4 hW' hw⟩

theorem nearLaw_ip : (Rows.fnExactNearestPitchRow.inPlace == Tryd.pinned.checked.prog.inPlace 3) = true := by kernel_rfl
theorem nearLaw_un : (Rows.fnExactNearestPitchRow.unfollowed == Tryd.pinned.checked.prog.unfollowed 3) = true := by kernel_rfl
theorem nearLaw_re : (Rows.fnExactNearestPitchRow.recurses == Tryd.pinned.checked.prog.recurses 3) = true := by kernel_rfl
theorem nearLaw_vn : (Rows.fnExactNearestPitchRow.named == Tryd.pinned.checked.prog.varsNamed 3) = true := by kernel_rfl
theorem nearLaw_named : Tryd.prog.funcNamed "loop.example/g00949/laws.FnExactNearestPitch" = some 3 := by kernel_rfl
set_option maxRecDepth 100000 in
theorem nearLaw_facts : joinedFacts Tryd.pinned.checked.prog 3 Tryd.f3 Rows.fnExactNearestPitchSpec Rows.fnExactNearestPitchRow = true := by
  unfold joinedFacts
  exact (tt (tt (tt (tt (tt (tt (tt (tt (tt (tt (tt (tt (tt (tt (tt (tt (tt (tt (tt (tt (tt (tt (tt (tt (tt (tt (tt (tt (tt (tt (tt (by kernel_rfl) kLaid) kMaps) (by kernel_rfl)) (by kernel_rfl)) (by kernel_rfl)) kStops) (by kernel_rfl)) kKnobs) nearLaw_ip) nearLaw_un) nearLaw_re) nearLaw_vn) (by kernel_rfl)) (by kernel_rfl)) (by kernel_rfl)) (by kernel_rfl)) (by kernel_rfl)) (by kernel_rfl)) (by kernel_rfl)) (by kernel_rfl)) (by kernel_rfl)) kKeys) (by kernel_rfl)) kHeard) kMay) kLifts) kMake) (by kernel_rfl)) (by kernel_rfl)) (by kernel_rfl)) (by kernel_rfl))

theorem nearLaw_row : Rows.FnExactNearestPitchSaid :=
  OpenClaim.holds_of_wide 3 Tryd.f3 rfl rfl rfl rfl rfl rfl rfl ⟨rfl, rfl, rfl, rfl, rfl⟩ rfl rfl rfl rfl rfl nearLaw_named Tryd.func3 nearLaw_facts
    (of_decide_eq_true (by kernel_rfl)) (by unfold Func.isWrapper; first | (rw [if_pos (by decide +kernel)]; kernel_rfl) | (rw [if_neg (by decide +kernel)]; exact ⟨rfl, rfl⟩))
    (fun os started H enc _ => nearLaw_lifted os started H enc)

theorem nearLaw_goes : false = Rows.fnExactNearestPitchRow.goesBy Tryd.pinned.checked.prog := by kernel_rfl
theorem nearLaw_wf : Rows.fnExactNearestPitchRow.wfByText (OpenSpec.ofChange Rows.fnExactNearestPitchSpec) = true := by kernel_rfl
theorem nearLaw_stand : ([24, 3].all fun u => !Tryd.prog.wantsStandIn u) = true := by kernel_rfl

theorem nearLaw_card : Rows.FnExactNearestPitchCardSaid :=
  Claim7.holds_tied_plain_at .later [] [.data] true Rows.fnExactNearestPitchCard.stood.harness false nearLaw_row (fun _ h => by cases h) nearLaw_wf (fun _ h => by cases h) fnExactNearestPitch_row_tie rfl ⟨rfl, rfl⟩ kMain rfl
    (fun f fn hf hfn => by
      obtain rfl : f = 3 := Option.some.inj (nearLaw_named.symm.trans hf) |>.symm
      obtain rfl : fn = Tryd.f3 := (Option.some.inj (Tryd.func3.symm.trans hfn)).symm
      exact ⟨kLooks, fun j t ht => by
        rw [Tryd.params3] at ht
        have hm : t ∈ [24, 3] := by simpa using Array.mem_of_getElem? ht
        exact (show Tryd.prog.wantsStandIn t = false by simpa using List.all_eq_true.1 nearLaw_stand t hm)⟩)
    nearLaw_goes
end Go.Proofs.YtbdffmacpajebaaDoor
