/- Proved: for every instrument, InstrumentText of the program answers as the model's, and neither the argument nor anything that was there before the call has turned; the table of limits is tied to the program's own text. No condition. -/
import Derived.Test.YtfcinddpnikloacDoorITextLawW
import Derived.Test.YtfcinddpnikloacDoorCardK
import Derived.Lay
namespace Go.Proofs.YtfcinddpnikloacDoor
open Go.ChangeShapes Go.WideShapes Go.ChangeAt Go.RowKit
set_option linter.unusedVariables false

theorem itextLaw_met (os : Os) (args : Array Value) : laidMetH Tryd.prog Rows.fnExactInstrumentTextRow.laid ((World.laidAll Tryd.prog os Rows.fnExactInstrumentTextRow.laid).forCall (fun _ _ => 0) ⟨#[], args, []⟩).memory := by
  rw [MakeChecks.laidMetH_plain _ _ _ (by kernel_rfl)]
  exact laidMet_laidAll _ (by kernel_rfl) (by kernel_rfl)

set_option maxRecDepth 100000 in
theorem itextLaw_lifted (os : Os) (started : os.Started) (H : Type) (enc : TypeId × Value → H) :
    ReturnsInHanded {} Tryd.checked os 3 .any (fun w args => (Rows.fnExactInstrumentTextSpec.pre enc Tryd.prog Tryd.f3 [] false w args ∧ laidMetH Tryd.prog Rows.fnExactInstrumentTextRow.laid w) ∧ sizedMet enc Tryd.prog Tryd.f3 (OpenSpec.ofChange Rows.fnExactInstrumentTextSpec) false w args)
      (Rows.fnExactInstrumentTextSpec.post enc Tryd.prog Tryd.f3 false true false false) := by
  refine returnsInHanded_of_change_and (C := Tryd.checked) (X := fun w _ => laidMetH Tryd.prog Rows.fnExactInstrumentTextRow.laid w) (fun _ _ _ hh h => h.of_heap hh) Tryd.own started (by kernel_rfl) Tryd.func3
    (ChangeSpec.witness_shaped (enc := enc) (C := Tryd.checked) (os := os) (X := fun w _ => laidMetH Tryd.prog Rows.fnExactInstrumentTextRow.laid w) false (World.laidAll Tryd.prog os Rows.fnExactInstrumentTextRow.laid) #[.agg #[.slice none 0 0, .int .i64 0]] 8 (World.laidAll_os _ _ _)
      (World.shaped_of_ZipB (by kernel_rfl) (by kernel_rfl)) (by kernel_rfl) (by kernel_rfl) (by kernel_rfl) (itextLaw_met os _)) ?_
  intro W base args ds gs before hval0 hW _ _ hL _
  have hval : ∀ (j : Nat) t v, Tryd.f3.params[j]? = some t → args[j]? = some v → Value.okWide Tryd.prog W .any base t v := hval0
  have hW' := hW
  have hlt := fun p hp => hW.lt p hp
  obtain ⟨p, q, hA0, hV, rfl, hfz, hnd⟩ := hW
  have hA : DataW.TrodAll enc Tryd.prog W 0 (fun _ => true) true Tryd.f3.params.toList args.toList ds p := hA0
  rw [Tryd.params3] at hA hval
  obtain ⟨v0, d0, rfl, rfl, h0⟩ := trodAll_one hA
  obtain ⟨A0, l0, c0, r0, rfl, hlc0, hcm0, hRA0⟩ := open_ins (hval 0 24 v0 rfl rfl) h0
  have hgs : ∃ d1 d2, gs = [d1, d2] := by
    have hV2 : DataW.TrodVars enc Tryd.prog W (fun _ => true) ["loop.example/g00949/impl.instrumentLimits", "loop.example/g00949/impl.classNames"] gs q := hV
    cases gs with
    | nil => simp [DataW.TrodVars] at hV2
    | cons d1 ds1 =>
      obtain ⟨_, _, _, _, _, q1, _, _, _, _, hV3, _⟩ := hV2
      obtain ⟨_, _, _, _, d2, _, e, _⟩ := trodVars_one hV3
      exact ⟨d1, d2, by rw [e]⟩
  obtain ⟨d1, d2, rfl⟩ := hgs
  rw [MakeChecks.laidMetH_plain _ _ _ (by kernel_rfl)] at hL
  have hT : Tabs W := ⟨names_of_reads (Lib.laidMet.reads hL (.tail _ (.tail _ (.tail _ (.head _))))), pow_of_reads (Lib.laidMet.reads hL (.tail _ (.tail _ (.head _))))⟩
  have hM := lim_of_reads (Lib.laidMet.reads hL (.tail _ (.tail _ (.tail _ (.tail _ (.head _))))))
  refine (itextLaw_walk A0 l0 c0 r0 W hlc0 hcm0 hRA0 hT hM).mono fun e W' ⟨he, hw⟩ => ?_
  subst he
  exact ⟨_, rfl, law_postV Tryd.laidOut (by rw [Tryd.params3]; intro t ht; simp at ht; subst ht; exact ⟨by kernel_rfl, of_decide_eq_true (by kernel_rfl)⟩) (by kernel_rfl) rfl rfl Tryd.underlying4 hW' hw⟩

theorem itextLaw_ip : (Rows.fnExactInstrumentTextRow.inPlace == Tryd.pinned.checked.prog.inPlace 3) = true := by kernel_rfl
theorem itextLaw_un : (Rows.fnExactInstrumentTextRow.unfollowed == Tryd.pinned.checked.prog.unfollowed 3) = true := by kernel_rfl
theorem itextLaw_re : (Rows.fnExactInstrumentTextRow.recurses == Tryd.pinned.checked.prog.recurses 3) = true := by kernel_rfl
theorem itextLaw_vn : (Rows.fnExactInstrumentTextRow.named == Tryd.pinned.checked.prog.varsNamed 3) = true := by kernel_rfl
theorem itextLaw_named : Tryd.prog.funcNamed "loop.example/g00949/laws.FnExactInstrumentText" = some 3 := by kernel_rfl
set_option maxRecDepth 100000 in
theorem itextLaw_facts : joinedFacts Tryd.pinned.checked.prog 3 Tryd.f3 Rows.fnExactInstrumentTextSpec Rows.fnExactInstrumentTextRow = true := by
  unfold joinedFacts
  exact (tt (tt (tt (tt (tt (tt (tt (tt (tt (tt (tt (tt (tt (tt (tt (tt (tt (tt (tt (tt (tt (tt (tt (tt (tt (tt (tt (tt (tt (tt (tt (by kernel_rfl) kLaid) kMaps) (by kernel_rfl)) (by kernel_rfl)) (by kernel_rfl)) kStops) (by kernel_rfl)) kKnobs) itextLaw_ip) itextLaw_un) itextLaw_re) itextLaw_vn) (by kernel_rfl)) (by kernel_rfl)) (by kernel_rfl)) (by kernel_rfl)) (by kernel_rfl)) (by kernel_rfl)) (by kernel_rfl)) (by kernel_rfl)) (by kernel_rfl)) kKeys) (by kernel_rfl)) kHeard) kMay) kLifts) kMake) (by kernel_rfl)) (by kernel_rfl)) (by kernel_rfl)) (by kernel_rfl))

theorem itextLaw_row : Rows.FnExactInstrumentTextSaid :=
  OpenClaim.holds_of_wide 3 Tryd.f3 rfl rfl rfl rfl rfl rfl rfl ⟨rfl, rfl, rfl, rfl, rfl⟩ rfl rfl rfl rfl rfl itextLaw_named Tryd.func3 itextLaw_facts
    (of_decide_eq_true (by kernel_rfl)) (by unfold Func.isWrapper; first | (rw [if_pos (by decide +kernel)]; kernel_rfl) | (rw [if_neg (by decide +kernel)]; exact ⟨rfl, rfl⟩))
    (fun os started H enc _ => itextLaw_lifted os started H enc)

theorem itextLaw_goes : false = Rows.fnExactInstrumentTextRow.goesBy Tryd.pinned.checked.prog := by kernel_rfl
theorem itextLaw_wf : Rows.fnExactInstrumentTextRow.wfByText (OpenSpec.ofChange Rows.fnExactInstrumentTextSpec) = true := by kernel_rfl
theorem itextLaw_stand : ([24].all fun u => !Tryd.prog.wantsStandIn u) = true := by kernel_rfl

theorem itextLaw_card : Rows.FnExactInstrumentTextCardSaid :=
  Claim7.holds_tied_plain_at .later [] [.data, .data, .data, .data, .data] true Rows.fnExactInstrumentTextCard.stood.harness true itextLaw_row (fun _ h => by cases h) itextLaw_wf (fun _ h => by cases h) fnExactInstrumentText_row_tie rfl ⟨rfl, rfl⟩ kMain rfl
    (fun f fn hf hfn => by
      obtain rfl : f = 3 := Option.some.inj (itextLaw_named.symm.trans hf) |>.symm
      obtain rfl : fn = Tryd.f3 := (Option.some.inj (Tryd.func3.symm.trans hfn)).symm
      exact ⟨kLooks, fun j t ht => by
        rw [Tryd.params3] at ht
        have hm : t ∈ [24] := by simpa using Array.mem_of_getElem? ht
        exact (show Tryd.prog.wantsStandIn t = false by simpa using List.all_eq_true.1 itextLaw_stand t hm)⟩)
    itextLaw_goes
end Go.Proofs.YtfcinddpnikloacDoor
