/- Proved: for every string, ParseInstrument of the program answers as the model's, in memory of its own, and nothing that was there before the call has turned; the tables and the two sentinels that it reads are tied to the program's own text. No condition. -/
import Derived.Test.YtfjcnomingbneacDoorPInLawW
import Derived.Test.YtfjcnomingbneacDoorCardK
import Derived.Lay
import Derived.ChangeMaps5
namespace Go.Proofs.YtfjcnomingbneacDoor
open Go.ChangeShapes Go.WideShapes Go.ChangeAt Go.RowKit
set_option linter.unusedVariables false

theorem err_of_reads {n : String} {g : Nat} {W : World} {a : String} {b : DataW Unit} (hg0 : Tryd.prog.globalNamed n = some g) (hty : (Tryd.prog.globals[g]?).map (·.type) = some 46) (h : Lib.VarReads Tryd.prog W n (.iface a b)) : ∃ tp p, W.var? Tryd.prog n = some #[.iface tp p] := by
  obtain ⟨g', t, cs, fuel, p, hg, ht, hv, hd⟩ := h
  obtain rfl := Option.some.inj (hg0.symm.trans hg)
  obtain rfl := Option.some.inj (hty.symm.trans ht)
  rw [hv]
  cases fuel with
  | zero => simp [DataW.trod] at hd
  | succ fuel =>
    simp only [DataW.trod, Tryd.underlying46] at hd
    obtain ⟨l⟩ := cs
    simp only at hd
    match l, hd with
    | [], h => simp at h
    | [x], h =>
      cases x with
      | iface tp q => exact ⟨tp, q, rfl⟩
      | pointer o => cases o <;> simp at h
      | _ => simp at h
    | x :: y :: r, h => cases x <;> simp at h

theorem parseILaw_met (os : Os) (args : Array Value) : laidMetH Tryd.prog Rows.fnExactParseInstrumentRow.laid ((World.laidAll Tryd.prog os Rows.fnExactParseInstrumentRow.laid).forCall (fun _ _ => 0) ⟨#[], args, []⟩).memory := by
  rw [MakeChecks.laidMetH_plain _ _ _ (by kernel_rfl)]
  exact laidMet_laidAll _ (by kernel_rfl) (by kernel_rfl)

set_option maxRecDepth 100000 in
theorem parseILaw_lifted (os : Os) (started : os.Started) (H : Type) (enc : TypeId × Value → H) :
    ReturnsInHanded {} Tryd.checked os 4 .any (fun w args => (Rows.fnExactParseInstrumentSpec.pre enc Tryd.prog Tryd.f4 [] false w args ∧ laidMetH Tryd.prog Rows.fnExactParseInstrumentRow.laid w) ∧ sizedMet enc Tryd.prog Tryd.f4 (OpenSpec.ofChange Rows.fnExactParseInstrumentSpec) false w args)
      (Rows.fnExactParseInstrumentSpec.post enc Tryd.prog Tryd.f4 false true false false) := by
  refine returnsInHanded_of_change_and (C := Tryd.checked) (X := fun w _ => laidMetH Tryd.prog Rows.fnExactParseInstrumentRow.laid w) (fun _ _ _ hh h => h.of_heap hh) Tryd.own started (by kernel_rfl) Tryd.func4
    (ChangeSpec.witness_shaped (enc := enc) (C := Tryd.checked) (os := os) (X := fun w _ => laidMetH Tryd.prog Rows.fnExactParseInstrumentRow.laid w) false (World.laidAll Tryd.prog os Rows.fnExactParseInstrumentRow.laid) #[.string ⟨#[]⟩] 8 (World.laidAll_os _ _ _)
      (World.shaped_of_ZipB (by kernel_rfl) (by kernel_rfl)) (by kernel_rfl) (by kernel_rfl) (by kernel_rfl) (parseILaw_met os _)) ?_
  intro W base args ds gs before hval0 hW _ _ hL _
  have hval : ∀ (j : Nat) t v, Tryd.f4.params[j]? = some t → args[j]? = some v → Value.okWide Tryd.prog W .any base t v := hval0
  have hW' := hW
  have hlt := fun p hp => hW.lt p hp
  obtain ⟨p, q, hA0, hV, rfl, hfz, hnd⟩ := hW
  have hA : DataW.TrodAll enc Tryd.prog W 0 (fun _ => true) true Tryd.f4.params.toList args.toList ds p := hA0
  rw [Tryd.params4] at hA hval
  obtain ⟨v0, d0, rfl, rfl, h0⟩ := trodAll_one hA
  obtain ⟨sb, rfl, rfl, rfl, hss⟩ := Go.ChangeMaps.open_string Tryd.underlying9 (hval 0 9 v0 rfl rfl) h0
  have hgs : ∃ d1 d2, gs = [d1, d2] := by
    have hV2 : DataW.TrodVars enc Tryd.prog W (fun _ => true) ["loop.example/g00949/impl.classNames", "loop.example/g00949/impl.instrumentLimits"] gs q := hV
    cases gs with
    | nil => simp [DataW.TrodVars] at hV2
    | cons d1 ds1 =>
      obtain ⟨_, _, _, _, _, q1, _, _, _, _, hV3, _⟩ := hV2
      obtain ⟨_, _, _, _, d2, _, e, _⟩ := trodVars_one hV3
      exact ⟨d1, d2, by rw [e]⟩
  obtain ⟨d1, d2, rfl⟩ := hgs
  rw [MakeChecks.laidMetH_plain _ _ _ (by kernel_rfl)] at hL
  have hT : Tabs W := ⟨names_of_reads (Lib.laidMet.reads hL (.tail _ (.tail _ (.tail _ (.tail _ (.tail _ (.head _))))))), pow_of_reads (Lib.laidMet.reads hL (.tail _ (.tail _ (.head _))))⟩
  have hM := lim_of_reads (Lib.laidMet.reads hL (.tail _ (.tail _ (.tail _ (.tail _ (.tail _ (.tail _ (.head _))))))))
  have hE : Errs W := ⟨err_of_reads gSyn (by kernel_rfl) (Lib.laidMet.reads hL (.tail _ (.tail _ (.tail _ (.tail _ (.head _)))))), err_of_reads gRng (by kernel_rfl) (Lib.laidMet.reads hL (.tail _ (.tail _ (.tail _ (.head _)))))⟩
  have hsb : sb = bs sb.data.toList := by simp [bs]
  rw [hsb]
  refine (parseILaw_walk sb.data.toList W hT hE hM).mono fun e W' ⟨he, hw⟩ => ?_
  subst he
  exact ⟨_, rfl, law_postV Tryd.laidOut (by rw [Tryd.params4]; intro t ht; simp at ht; subst ht; exact ⟨by kernel_rfl, of_decide_eq_true (by kernel_rfl)⟩) (by kernel_rfl) rfl rfl Tryd.underlying4 hW' hw⟩

theorem parseILaw_ip : (Rows.fnExactParseInstrumentRow.inPlace == Tryd.pinned.checked.prog.inPlace 4) = true := by kernel_rfl
theorem parseILaw_un : (Rows.fnExactParseInstrumentRow.unfollowed == Tryd.pinned.checked.prog.unfollowed 4) = true := by kernel_rfl
theorem parseILaw_re : (Rows.fnExactParseInstrumentRow.recurses == Tryd.pinned.checked.prog.recurses 4) = true := by kernel_rfl
theorem parseILaw_vn : (Rows.fnExactParseInstrumentRow.named == Tryd.pinned.checked.prog.varsNamed 4) = true := by kernel_rfl
theorem parseILaw_named : Tryd.prog.funcNamed "loop.example/g00949/laws.FnExactParseInstrument" = some 4 := by kernel_rfl
set_option maxRecDepth 100000 in
theorem parseILaw_facts : joinedFacts Tryd.pinned.checked.prog 4 Tryd.f4 Rows.fnExactParseInstrumentSpec Rows.fnExactParseInstrumentRow = true := by
  unfold joinedFacts
  exact (tt (tt (tt (tt (tt (tt (tt (tt (tt (tt (tt (tt (tt (tt (tt (tt (tt (tt (tt (tt (tt (tt (tt (tt (tt (tt (tt (tt (tt (tt (tt (by kernel_rfl) kLaid) kMaps) (by kernel_rfl)) (by kernel_rfl)) (by kernel_rfl)) kStops) (by kernel_rfl)) kKnobs) parseILaw_ip) parseILaw_un) parseILaw_re) parseILaw_vn) (by kernel_rfl)) (by kernel_rfl)) (by kernel_rfl)) (by kernel_rfl)) (by kernel_rfl)) (by kernel_rfl)) (by kernel_rfl)) (by kernel_rfl)) (by kernel_rfl)) kKeys) (by kernel_rfl)) kHeard) kMay) kLifts) kMake) (by kernel_rfl)) (by kernel_rfl)) (by kernel_rfl)) (by kernel_rfl))

theorem parseILaw_row : Rows.FnExactParseInstrumentSaid :=
  OpenClaim.holds_of_wide 4 Tryd.f4 rfl rfl rfl rfl rfl rfl rfl ⟨rfl, rfl, rfl, rfl, rfl⟩ rfl rfl rfl rfl rfl parseILaw_named Tryd.func4 parseILaw_facts
    (of_decide_eq_true (by kernel_rfl)) (by unfold Func.isWrapper; first | (rw [if_pos (by decide +kernel)]; kernel_rfl) | (rw [if_neg (by decide +kernel)]; exact ⟨rfl, rfl⟩))
    (fun os started H enc _ => parseILaw_lifted os started H enc)

theorem parseILaw_goes : false = Rows.fnExactParseInstrumentRow.goesBy Tryd.pinned.checked.prog := by kernel_rfl
theorem parseILaw_wf : Rows.fnExactParseInstrumentRow.wfByText (OpenSpec.ofChange Rows.fnExactParseInstrumentSpec) = true := by kernel_rfl
theorem parseILaw_stand : ([9].all fun u => !Tryd.prog.wantsStandIn u) = true := by kernel_rfl

theorem parseILaw_card : Rows.FnExactParseInstrumentCardSaid :=
  Claim7.holds_tied_plain_at .later [] [.data, .data, .data, .sentinel, .sentinel, .data, .data] true Rows.fnExactParseInstrumentCard.stood.harness true parseILaw_row (fun _ h => by cases h) parseILaw_wf (fun _ h => by cases h) fnExactParseInstrument_row_tie rfl ⟨rfl, rfl⟩ kMain rfl
    (fun f fn hf hfn => by
      obtain rfl : f = 4 := Option.some.inj (parseILaw_named.symm.trans hf) |>.symm
      obtain rfl : fn = Tryd.f4 := (Option.some.inj (Tryd.func4.symm.trans hfn)).symm
      exact ⟨kLooks, fun j t ht => by
        rw [Tryd.params4] at ht
        have hm : t ∈ [9] := by simpa using Array.mem_of_getElem? ht
        exact (show Tryd.prog.wantsStandIn t = false by simpa using List.all_eq_true.1 parseILaw_stand t hm)⟩)
    parseILaw_goes
end Go.Proofs.YtfjcnomingbneacDoor
