/- Proved: for every instrument and every number, PitchOf of the program answers as the model's, and neither the argument nor anything that was there before the call has turned; the table of limits is tied to the program's own text. No condition. -/
import Derived.Test.YtfgfiahampjfiaaDoorPitchOfLawW
import Derived.Test.YtfgfiahampjfiaaDoorCardK
import Derived.Lay
namespace Go.Proofs.YtfgfiahampjfiaaDoor
open Go.ChangeShapes Go.WideShapes Go.ChangeAt Go.RowKit
set_option linter.unusedVariables false

theorem pitchOfLaw_met (os : Os) (args : Array Value) : laidMetH Tryd.prog Rows.fnExactPitchOfRow.laid ((World.laidAll Tryd.prog os Rows.fnExactPitchOfRow.laid).forCall (fun _ _ => 0) ⟨#[], args, []⟩).memory := by
  rw [MakeChecks.laidMetH_plain _ _ _ (by kernel_rfl)]
  exact laidMet_laidAll _ (by kernel_rfl) (by kernel_rfl)

set_option maxRecDepth 100000 in
theorem pitchOfLaw_lifted (os : Os) (started : os.Started) (H : Type) (enc : TypeId × Value → H) :
    ReturnsInHanded {} Tryd.checked os 5 .any (fun w args => (Rows.fnExactPitchOfSpec.pre enc Tryd.prog Tryd.f5 [] false w args ∧ laidMetH Tryd.prog Rows.fnExactPitchOfRow.laid w) ∧ sizedMet enc Tryd.prog Tryd.f5 (OpenSpec.ofChange Rows.fnExactPitchOfSpec) false w args)
      (Rows.fnExactPitchOfSpec.post enc Tryd.prog Tryd.f5 false true false false) := by
  refine returnsInHanded_of_change_and (C := Tryd.checked) (X := fun w _ => laidMetH Tryd.prog Rows.fnExactPitchOfRow.laid w) (fun _ _ _ hh h => h.of_heap hh) Tryd.own started (by kernel_rfl) Tryd.func5
    (ChangeSpec.witness_shaped (enc := enc) (C := Tryd.checked) (os := os) (X := fun w _ => laidMetH Tryd.prog Rows.fnExactPitchOfRow.laid w) false (World.laidAll Tryd.prog os Rows.fnExactPitchOfRow.laid) #[.agg #[.slice none 0 0, .int .i64 0], .int .i64 0] 8 (World.laidAll_os _ _ _)
      (World.shaped_of_ZipB (by kernel_rfl) (by kernel_rfl)) (by kernel_rfl) (by kernel_rfl) (by kernel_rfl) (pitchOfLaw_met os _)) ?_
  intro W base args ds gs before hval0 hW _ _ hL _
  have hval : ∀ (j : Nat) t v, Tryd.f5.params[j]? = some t → args[j]? = some v → Value.okWide Tryd.prog W .any base t v := hval0
  have hW' := hW
  have hlt := fun p hp => hW.lt p hp
  obtain ⟨p, q, hA0, hV, rfl, hfz, hnd⟩ := hW
  have hA : DataW.TrodAll enc Tryd.prog W 0 (fun _ => true) true Tryd.f5.params.toList args.toList ds p := hA0
  rw [Tryd.params5] at hA hval
  obtain ⟨v0, v1, d0, d1, p0, p1, rfl, rfl, rfl, h0, h1⟩ := trodAll_two hA
  obtain ⟨A0, l0, c0, r0, rfl, hlc0, hcm0, hRA0⟩ := open_ins (hval 0 24 v0 rfl rfl) h0
  obtain ⟨b1, rfl, rfl, rfl, wb1⟩ := open_int Tryd.underlying3 (hval 1 3 v1 rfl rfl) h1
  obtain ⟨gg, tt, cc, ff, dd, pp, rfl, hg1, hg2, hg3, hg4, hg5⟩ := trodVars_one hV
  rw [MakeChecks.laidMetH_plain _ _ _ (by kernel_rfl)] at hL
  have hT := lim_of_reads (Lib.laidMet.reads hL (.head _))
  refine (pitchOfLaw_walk A0 l0 c0 r0 b1 W hlc0 hcm0 hRA0 hT).mono fun e W' ⟨he, hw⟩ => ?_
  subst he
  exact ⟨_, rfl, law_postV Tryd.laidOut (by rw [Tryd.params5]; intro t ht; simp at ht; rcases ht with rfl | rfl <;> exact ⟨by kernel_rfl, of_decide_eq_true (by kernel_rfl)⟩) (by kernel_rfl) rfl rfl Tryd.underlying4 hW' hw⟩

theorem pitchOfLaw_ip : (Rows.fnExactPitchOfRow.inPlace == Tryd.pinned.checked.prog.inPlace 5) = true := by kernel_rfl
theorem pitchOfLaw_un : (Rows.fnExactPitchOfRow.unfollowed == Tryd.pinned.checked.prog.unfollowed 5) = true := by kernel_rfl
theorem pitchOfLaw_re : (Rows.fnExactPitchOfRow.recurses == Tryd.pinned.checked.prog.recurses 5) = true := by kernel_rfl
theorem pitchOfLaw_vn : (Rows.fnExactPitchOfRow.named == Tryd.pinned.checked.prog.varsNamed 5) = true := by kernel_rfl
theorem pitchOfLaw_named : Tryd.prog.funcNamed "loop.example/g00949/laws.FnExactPitchOf" = some 5 := by kernel_rfl
set_option maxRecDepth 100000 in
theorem pitchOfLaw_facts : joinedFacts Tryd.pinned.checked.prog 5 Tryd.f5 Rows.fnExactPitchOfSpec Rows.fnExactPitchOfRow = true := by
  unfold joinedFacts
  exact (tt (tt (tt (tt (tt (tt (tt (tt (tt (tt (tt (tt (tt (tt (tt (tt (tt (tt (tt (tt (tt (tt (tt (tt (tt (tt (tt (tt (tt (tt (tt (by kernel_rfl) kLaid) kMaps) (by kernel_rfl)) (by kernel_rfl)) (by kernel_rfl)) kStops) (by kernel_rfl)) kKnobs) pitchOfLaw_ip) pitchOfLaw_un) pitchOfLaw_re) pitchOfLaw_vn) (by kernel_rfl)) (by kernel_rfl)) (by kernel_rfl)) (by kernel_rfl)) (by kernel_rfl)) (by kernel_rfl)) (by kernel_rfl)) (by kernel_rfl)) (by kernel_rfl)) kKeys) (by kernel_rfl)) kHeard) kMay) kLifts) kMake) (by kernel_rfl)) (by kernel_rfl)) (by kernel_rfl)) (by kernel_rfl))

theorem pitchOfLaw_row : Rows.FnExactPitchOfSaid :=
  OpenClaim.holds_of_wide 5 Tryd.f5 rfl rfl rfl rfl rfl rfl rfl ⟨rfl, rfl, rfl, rfl, rfl⟩ rfl rfl rfl rfl rfl pitchOfLaw_named Tryd.func5 pitchOfLaw_facts
    (of_decide_eq_true (by kernel_rfl)) (by unfold Func.isWrapper; first | (rw [if_pos (by decide +kernel)]; kernel_rfl) | (rw [if_neg (by decide +kernel)]; exact ⟨rfl, rfl⟩))
    (fun os started H enc _ => pitchOfLaw_lifted os started H enc)

theorem pitchOfLaw_goes : false = Rows.fnExactPitchOfRow.goesBy Tryd.pinned.checked.prog := by kernel_rfl
theorem pitchOfLaw_wf : Rows.fnExactPitchOfRow.wfByText (OpenSpec.ofChange Rows.fnExactPitchOfSpec) = true := by kernel_rfl
theorem pitchOfLaw_stand : ([24, 3].all fun u => !Tryd.prog.wantsStandIn u) = true := by kernel_rfl

theorem pitchOfLaw_card : Rows.FnExactPitchOfCardSaid :=
  Claim7.holds_tied_plain_at .later [] [.data] true Rows.fnExactPitchOfCard.stood.harness true pitchOfLaw_row (fun _ h => by cases h) pitchOfLaw_wf (fun _ h => by cases h) fnExactPitchOf_row_tie rfl ⟨rfl, rfl⟩ kMain rfl
    (fun f fn hf hfn => by
      obtain rfl : f = 5 := Option.some.inj (pitchOfLaw_named.symm.trans hf) |>.symm
      obtain rfl : fn = Tryd.f5 := (Option.some.inj (Tryd.func5.symm.trans hfn)).symm
      exact ⟨kLooks, fun j t ht => by
        rw [Tryd.params5] at ht
        have hm : t ∈ [24, 3] := by simpa using Array.mem_of_getElem? ht
        exact (show Tryd.prog.wantsStandIn t = false by simpa using List.all_eq_true.1 pitchOfLaw_stand t hm)⟩)
    pitchOfLaw_goes
end Go.Proofs.YtfgfiahampjfiaaDoor
