/- Proved: for every instrument and every number, FoldPitch of the program answers as the model's, and neither the argument nor anything that was there before the call has turned; the table of limits is tied to the program's own text. No condition. -/
import Derived.Test.YtbdffmacpajebaaDoorFoldPitchLawW
import Derived.Test.YtbdffmacpajebaaDoorCardK
import Derived.Lay
namespace Go.Proofs.YtbdffmacpajebaaDoor
open Go.ChangeShapes Go.WideShapes Go.ChangeAt Go.RowKit
set_option linter.unusedVariables false

theorem foldLaw_met (os : Os) (args : Array Value) : laidMetH Tryd.prog Rows.fnExactFoldPitchRow.laid ((World.laidAll Tryd.prog os Rows.fnExactFoldPitchRow.laid).forCall (fun _ _ => 0) ⟨#[], args, []⟩).memory := by
  rw [MakeChecks.laidMetH_plain _ _ _ (by kernel_rfl)]
  exact laidMet_laidAll _ (by kernel_rfl) (by kernel_rfl)

set_option maxRecDepth 100000 in
theorem foldLaw_lifted (os : Os) (started : os.Started) (H : Type) (enc : TypeId × Value → H) :
    ReturnsInHanded {} Tryd.checked os 4 .any (fun w args => (Rows.fnExactFoldPitchSpec.pre enc Tryd.prog Tryd.f4 [] false w args ∧ laidMetH Tryd.prog Rows.fnExactFoldPitchRow.laid w) ∧ sizedMet enc Tryd.prog Tryd.f4 (OpenSpec.ofChange Rows.fnExactFoldPitchSpec) false w args)
      (Rows.fnExactFoldPitchSpec.post enc Tryd.prog Tryd.f4 false true false false) := by
  refine returnsInHanded_of_change_and (C := Tryd.checked) (X := fun w _ => laidMetH Tryd.prog Rows.fnExactFoldPitchRow.laid w) (fun _ _ _ hh h => h.of_heap hh) Tryd.own started (by kernel_rfl) Tryd.func4
    (ChangeSpec.witness_shaped (enc := enc) (C := Tryd.checked) (os := os) (X := fun w _ => laidMetH Tryd.prog Rows.fnExactFoldPitchRow.laid w) false (World.laidAll Tryd.prog os Rows.fnExactFoldPitchRow.laid) #[.agg #[.slice none 0 0, .int .i64 0], .int .i64 0] 8 (World.laidAll_os _ _ _)
      (World.shaped_of_ZipB (by kernel_rfl) (by kernel_rfl)) (by kernel_rfl) (by kernel_rfl) (by kernel_rfl) (foldLaw_met os _)) ?_
  intro W base args ds gs before hval0 hW _ _ hL _
  have hval : ∀ (j : Nat) t v, Tryd.f4.params[j]? = some t → args[j]? = some v → Value.okWide Tryd.prog W .any base t v := hval0
  have hW' := hW
  have hlt := fun p hp => hW.lt p hp
  obtain ⟨p, q, hA0, hV, rfl, hfz, hnd⟩ := hW
  have hA : DataW.TrodAll enc Tryd.prog W 0 (fun _ => true) true Tryd.f4.params.toList args.toList ds p := hA0
  rw [Tryd.params4] at hA hval
  obtain ⟨v0, v1, d0, d1, p0, p1, rfl, rfl, rfl, h0, h1⟩ := trodAll_two hA
  obtain ⟨A0, l0, c0, r0, rfl, hlc0, hcm0, hRA0⟩ := open_ins (hval 0 24 v0 rfl rfl) h0
  obtain ⟨b1, rfl, rfl, rfl, wb1⟩ := open_int Tryd.underlying3 (hval 1 3 v1 rfl rfl) h1
  obtain ⟨gg, tt, cc, ff, dd, pp, rfl, hg1, hg2, hg3, hg4, hg5⟩ := trodVars_one hV
  rw [MakeChecks.laidMetH_plain _ _ _ (by kernel_rfl)] at hL
  have hT := lim_of_reads (Lib.laidMet.reads hL (.head _))
  refine (foldLaw_walk A0 l0 c0 r0 b1 W hlc0 hcm0 hRA0 hT).mono fun e W' ⟨he, hw⟩ => ?_
  subst he
  exact ⟨_, rfl, law_postV Tryd.laidOut (by rw [Tryd.params4]; intro t ht; simp at ht; rcases ht with rfl | rfl <;> exact ⟨by kernel_rfl, of_decide_eq_true (by kernel_rfl)⟩) (by kernel_rfl) rfl rfl Tryd.underlying4 hW' hw⟩

theorem foldLaw_ip : (Rows.fnExactFoldPitchRow.inPlace == Tryd.pinned.checked.prog.inPlace 4) = true := by kernel_rfl
theorem foldLaw_un : (Rows.fnExactFoldPitchRow.unfollowed == Tryd.pinned.checked.prog.unfollowed 4) = true := by kernel_rfl
theorem foldLaw_re : (Rows.fnExactFoldPitchRow.recurses == Tryd.pinned.checked.prog.recurses 4) = true := by kernel_rfl
theorem foldLaw_vn : (Rows.fnExactFoldPitchRow.named == Tryd.pinned.checked.prog.varsNamed 4) = true := by kernel_rfl
theorem foldLaw_named : Tryd.prog.funcNamed "loop.example/g00949/laws.FnExactFoldPitch" = some 4 := by kernel_rfl
set_option maxRecDepth 100000 in
theorem foldLaw_facts : joinedFacts Tryd.pinned.checked.prog 4 Tryd.f4 Rows.fnExactFoldPitchSpec Rows.fnExactFoldPitchRow = true := by
  unfold joinedFacts
  exact (tt (tt (tt (tt (tt (tt (tt (tt (tt (tt (tt (tt (tt (tt (tt (tt (tt (tt (tt (tt (tt (tt (tt (tt (tt (tt (tt (tt (tt (tt (tt (by kernel_rfl) kLaid) kMaps) (by kernel_rfl)) (by kernel_rfl)) (by kernel_rfl)) kStops) (by kernel_rfl)) kKnobs) foldLaw_ip) foldLaw_un) foldLaw_re) foldLaw_vn) (by kernel_rfl)) (by kernel_rfl)) (by kernel_rfl)) (by kernel_rfl)) (by kernel_rfl)) (by kernel_rfl)) (by kernel_rfl)) (by kernel_rfl)) (by kernel_rfl)) kKeys) (by kernel_rfl)) kHeard) kMay) kLifts) kMake) (by kernel_rfl)) (by kernel_rfl)) (by kernel_rfl)) (by kernel_rfl))

theorem foldLaw_row : Rows.FnExactFoldPitchSaid :=
  OpenClaim.holds_of_wide 4 Tryd.f4 rfl rfl rfl rfl rfl rfl rfl ⟨rfl, rfl, rfl, rfl, rfl⟩ rfl rfl rfl rfl rfl foldLaw_named Tryd.func4 foldLaw_facts
    (of_decide_eq_true (by kernel_rfl)) (by unfold Func.isWrapper; first | (rw [if_pos (by decide +kernel)]; kernel_rfl) | (rw [if_neg (by decide +kernel)]; exact ⟨rfl, rfl⟩))
    (fun os started H enc _ => foldLaw_lifted os started H enc)

theorem foldLaw_goes : false = Rows.fnExactFoldPitchRow.goesBy Tryd.pinned.checked.prog := by kernel_rfl
theorem foldLaw_wf : Rows.fnExactFoldPitchRow.wfByText (OpenSpec.ofChange Rows.fnExactFoldPitchSpec) = true := by kernel_rfl
theorem foldLaw_stand : ([24, 3].all fun u => !Tryd.prog.wantsStandIn u) = true := by kernel_rfl

theorem foldLaw_card : Rows.FnExactFoldPitchCardSaid :=
  Claim7.holds_tied_plain_at .later [] [.data] true Rows.fnExactFoldPitchCard.stood.harness false foldLaw_row (fun _ h => by cases h) foldLaw_wf (fun _ h => by cases h) fnExactFoldPitch_row_tie rfl ⟨rfl, rfl⟩ kMain rfl
    (fun f fn hf hfn => by
      obtain rfl : f = 4 := Option.some.inj (foldLaw_named.symm.trans hf) |>.symm
      obtain rfl : fn = Tryd.f4 := (Option.some.inj (Tryd.func4.symm.trans hfn)).symm
      exact ⟨kLooks, fun j t ht => by
        rw [Tryd.params4] at ht
        have hm : t ∈ [24, 3] := by simpa using Array.mem_of_getElem? ht
        exact (show Tryd.prog.wantsStandIn t = false by simpa using List.all_eq_true.1 foldLaw_stand t hm)⟩)
    foldLaw_goes
end Go.Proofs.YtbdffmacpajebaaDoor
