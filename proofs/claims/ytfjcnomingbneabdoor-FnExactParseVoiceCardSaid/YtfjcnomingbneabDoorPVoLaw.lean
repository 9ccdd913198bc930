/- Proved: for every string, ParseVoice of the program answers as the model's, in memory of its own, and nothing that was there before the call has turned; the tables and the two sentinels that it reads are tied to the program's own text. No condition. -/
import Derived.Test.YtfjcnomingbneabDoorPVoLawW
import Derived.Test.YtfjcnomingbneabDoorCardK
import Derived.Test.YtfjcnomingbneabDoorLawV
import Derived.HandedShaped
import Derived.Shelf.Vars
import Derived.Lay
import Derived.ChangeMaps5
namespace Go.Proofs.YtfjcnomingbneabDoor
open Go.ChangeShapes Go.WideShapes Go.ChangeAt Go.RowKit
set_option linter.unusedVariables false

theorem err_of_reads {n : String} {g : Nat} {W : World} {a : String} {b : DataW Unit} (hg0 : Tryd.prog.globalNamed n = some g) (hty : (Tryd.prog.globals[g]?).map (·.type) = some 70) (h : Lib.VarReads Tryd.prog W n (.iface a b)) : ∃ tp p, W.var? Tryd.prog n = some #[.iface tp p] := by
  obtain ⟨g', t, cs, fuel, p, hg, ht, hv, hd⟩ := h
  obtain rfl := Option.some.inj (hg0.symm.trans hg)
  obtain rfl := Option.some.inj (hty.symm.trans ht)
  rw [hv]
  cases fuel with
  | zero => simp [DataW.trod] at hd
  | succ fuel =>
    simp only [DataW.trod, Tryd.underlying70] at hd
    obtain ⟨l⟩ := cs
    simp only at hd
    match l, hd with
    | [], h => simp at h
    | [x], h =>
      cases x with
      | iface tp q => exact ⟨tp, q, rfl⟩
      | pointer o => cases o <;> simp at h
      | _ => simp at h
    | x :: y :: r, h => cases x <;> simp at h

/-- The wrap of a row that lists variables, the world's shape kept. -/
theorem returns_and_shaped {H : Type} {enc : TypeId × Value → H} {a : Assume} {C : Checked} {os : Os} {f : FuncId} {fn : Func} {s : ChangeSpec} {conds : List PathCond} {apart fresh handsOn again : Bool} {X : World → Array Value → Prop}
    (hX : ∀ (w w' : World) (args : Array Value), w.heap = w'.heap → X w args → X w' args)
    (own : ownKnob C.prog.godebug = none) (started : os.Started) (noInit : C.prog.inits.idxOf? f = none) (hfn : C.prog.funcs[f]? = some fn)
    (witness : ∃ (w : World) (tape : Tape) (i : Input), w.os = os ∧ (w.forCall tape i).Shaped C.prog ∧ i.vars = [] ∧ Input.okWide C.prog (w.forCall tape i) .any w.heap.size f i ∧
      ((s.pre enc C.prog fn conds apart (w.forCall tape i).memory i.args ∧ X (w.forCall tape i).memory i.args) ∧ sizedMet enc C.prog fn (OpenSpec.ofChange s) apart (w.forCall tape i).memory i.args) ∧ a.holds C.prog (lone (Frame.enter C.prog f i.args .normal) [] (w.forCall tape i)))
    (contract : ∀ (W : World) (base : Nat) (args : Array Value) (ds gs : List (DataW H)) (before : List MemPlace),
      (∀ (j : Nat) t v, fn.params[j]? = some t → args[j]? = some v → Value.okWide C.prog W .any base t v) →
      DataW.Whole enc C.prog fn.params.toList s.vars apart W args.toList ds gs before → X W args → W.ShapedOpen C.prog →
      Calls C.prog f args W fun e W' => ∃ v, e = .returned v ∧ s.post enc C.prog fn apart fresh handsOn again W args v W') :
    ReturnsInHanded a C os f .any (fun w args => (s.pre enc C.prog fn conds apart w args ∧ X w args) ∧ sizedMet enc C.prog fn (OpenSpec.ofChange s) apart w args) (s.post enc C.prog fn apart fresh handsOn again) := by
  refine returnsInHanded_of_calls own started noInit witness ?_
  intro w tape i _ hsh _ hok hpre _
  obtain ⟨_, _, _, fn', hfn', _, _, _, _, hval⟩ := hok
  have e : fn' = fn := Option.some.inj (hfn'.symm.trans hfn)
  subst e
  obtain ⟨⟨⟨ds, gs, before, hw, hc⟩, hx⟩, hz⟩ := hpre
  have hw' := DataW.Whole.of_heap (w' := w.forCall tape i) (by rfl) hw
  refine (contract (w.forCall tape i) w.heap.size i.args ds gs before hval hw' (hX _ _ _ (by rfl) hx) hsh).mono fun e W' ⟨v, he, hp⟩ => ?_
  subst he
  exact ChangeSpec.post_blind hp

theorem maxc_shaped (W : World) (h : W.ShapedOpen Tryd.prog) : ∃ m : Int, W.cell? ⟨1, 0, none⟩ = some (.int .i64 m) :=
  Go.Proofs.cell_of_shapedOpen_int (zero := #[.int .i64 0]) (t := 3) h (of_decide_eq_true (by kernel_rfl)) (by kernel_rfl) rfl (by kernel_rfl) (by kernel_rfl) Tryd.underlying3

theorem parseVoLaw_met (os : Os) (args : Array Value) : laidMetH Tryd.prog Rows.fnExactParseVoiceRow.laid ((World.laidAll Tryd.prog os Rows.fnExactParseVoiceRow.laid).forCall (fun _ _ => 0) ⟨#[], args, []⟩).memory := by
  rw [MakeChecks.laidMetH_plain _ _ _ (by kernel_rfl)]
  exact laidMet_laidAll _ (by kernel_rfl) (by kernel_rfl)

set_option maxRecDepth 100000 in
theorem parseVoLaw_lifted (os : Os) (started : os.Started) (H : Type) (enc : TypeId × Value → H) :
    ReturnsInHanded {} Tryd.checked os 4 .any (fun w args => (Rows.fnExactParseVoiceSpec.pre enc Tryd.prog Tryd.f4 [] false w args ∧ laidMetH Tryd.prog Rows.fnExactParseVoiceRow.laid w) ∧ sizedMet enc Tryd.prog Tryd.f4 (OpenSpec.ofChange Rows.fnExactParseVoiceSpec) false w args)
      (Rows.fnExactParseVoiceSpec.post enc Tryd.prog Tryd.f4 false true false false) := by
  refine returns_and_shaped (C := Tryd.checked) (X := fun w _ => laidMetH Tryd.prog Rows.fnExactParseVoiceRow.laid w) (fun _ _ _ hh h => h.of_heap hh) Tryd.own started (by kernel_rfl) Tryd.func4
    (ChangeSpec.witness_shaped (enc := enc) (C := Tryd.checked) (os := os) (X := fun w _ => laidMetH Tryd.prog Rows.fnExactParseVoiceRow.laid w) false (World.laidAll Tryd.prog os Rows.fnExactParseVoiceRow.laid) #[.string ⟨#[]⟩] 8 (World.laidAll_os _ _ _)
      (World.shaped_of_ZipB (by kernel_rfl) (by kernel_rfl)) (by kernel_rfl) (by kernel_rfl) (by kernel_rfl) (parseVoLaw_met os _)) ?_
  intro W base args ds gs before hval0 hW hL hsh
  have hval : ∀ (j : Nat) t v, Tryd.f4.params[j]? = some t → args[j]? = some v → Value.okWide Tryd.prog W .any base t v := hval0
  have hW' := hW
  have hlt := fun p hp => hW.lt p hp
  obtain ⟨p, q, hA0, hV, rfl, hfz, hnd⟩ := hW
  have hA : DataW.TrodAll enc Tryd.prog W 0 (fun _ => true) true Tryd.f4.params.toList args.toList ds p := hA0
  rw [Tryd.params4] at hA hval
  obtain ⟨v0, d0, rfl, rfl, h0⟩ := trodAll_one hA
  obtain ⟨sb, rfl, rfl, rfl, hss⟩ := Go.ChangeMaps.open_string Tryd.underlying9 (hval 0 9 v0 rfl rfl) h0
  have hgs : ∃ d1, gs = [d1] := by
    have hV2 : DataW.TrodVars enc Tryd.prog W (fun _ => true) ["loop.example/g00949/impl.classNames"] gs q := hV
    obtain ⟨_, _, _, _, d2, _, e, _⟩ := trodVars_one hV2
    exact ⟨d2, by rw [e]⟩
  obtain ⟨d1, rfl⟩ := hgs
  rw [MakeChecks.laidMetH_plain _ _ _ (by kernel_rfl)] at hL
  have hT : Tabs W := ⟨names_of_reads (Lib.laidMet.reads hL (.tail _ (.tail _ (.tail _ (.tail _ (.tail _ (.tail _ (.head _)))))))), pow_of_reads (Lib.laidMet.reads hL (.tail _ (.tail _ (.head _))))⟩
  have hE : Errs W := ⟨err_of_reads gSyn (by kernel_rfl) (Lib.laidMet.reads hL (.tail _ (.tail _ (.tail _ (.tail _ (.tail _ (.head _))))))), err_of_reads gRng (by kernel_rfl) (Lib.laidMet.reads hL (.tail _ (.tail _ (.tail _ (.tail _ (.head _))))))⟩
  have hP : PW W := ⟨hT, hE, maxc_shaped W hsh⟩
  have hsb : sb = bs sb.data.toList := by simp [bs]
  rw [hsb]
  refine (parseVoLaw_walk sb.data.toList W hP).mono fun e W' ⟨he, hw⟩ => ?_
  subst he
  exact ⟨_, rfl, law_postV Tryd.laidOut (by rw [Tryd.params4]; intro t ht; simp at ht; subst ht; exact ⟨by kernel_rfl, of_decide_eq_true (by kernel_rfl)⟩) (by kernel_rfl) rfl rfl Tryd.underlying4 hW' hw⟩

theorem parseVoLaw_ip : (Rows.fnExactParseVoiceRow.inPlace == Tryd.pinned.checked.prog.inPlace 4) = true := by kernel_rfl
theorem parseVoLaw_un : (Rows.fnExactParseVoiceRow.unfollowed == Tryd.pinned.checked.prog.unfollowed 4) = true := by kernel_rfl
theorem parseVoLaw_re : (Rows.fnExactParseVoiceRow.recurses == Tryd.pinned.checked.prog.recurses 4) = true := by kernel_rfl
theorem parseVoLaw_vn : (Rows.fnExactParseVoiceRow.named == Tryd.pinned.checked.prog.varsNamed 4) = true := by kernel_rfl
theorem parseVoLaw_named : Tryd.prog.funcNamed "loop.example/g00949/laws.FnExactParseVoice" = some 4 := by kernel_rfl
set_option maxRecDepth 100000 in
theorem parseVoLaw_facts : joinedFacts Tryd.pinned.checked.prog 4 Tryd.f4 Rows.fnExactParseVoiceSpec Rows.fnExactParseVoiceRow = true := by
  unfold joinedFacts
  exact (tt (tt (tt (tt (tt (tt (tt (tt (tt (tt (tt (tt (tt (tt (tt (tt (tt (tt (tt (tt (tt (tt (tt (tt (tt (tt (tt (tt (tt (tt (tt (by kernel_rfl) kLaid) kMaps) (by kernel_rfl)) (by kernel_rfl)) (by kernel_rfl)) kStops) (by kernel_rfl)) kKnobs) parseVoLaw_ip) parseVoLaw_un) parseVoLaw_re) parseVoLaw_vn) (by kernel_rfl)) (by kernel_rfl)) (by kernel_rfl)) (by kernel_rfl)) (by kernel_rfl)) (by kernel_rfl)) (by kernel_rfl)) (by kernel_rfl)) (by kernel_rfl)) kKeys) (by kernel_rfl)) kHeard) kMay) kLifts) kMake) (by kernel_rfl)) (by kernel_rfl)) (by kernel_rfl)) (by kernel_rfl))

theorem parseVoLaw_row : Rows.FnExactParseVoiceSaid :=
  OpenClaim.holds_of_wide 4 Tryd.f4 rfl rfl rfl rfl rfl rfl rfl ⟨rfl, rfl, rfl, rfl, rfl⟩ rfl rfl rfl rfl rfl parseVoLaw_named Tryd.func4 parseVoLaw_facts
    (of_decide_eq_true (by kernel_rfl)) (by unfold Func.isWrapper; first | (rw [if_pos (by decide +kernel)]; kernel_rfl) | (rw [if_neg (by decide +kernel)]; exact ⟨rfl, rfl⟩))
    (fun os started H enc _ => parseVoLaw_lifted os started H enc)

theorem parseVoLaw_goes : false = Rows.fnExactParseVoiceRow.goesBy Tryd.pinned.checked.prog := by kernel_rfl
theorem parseVoLaw_wf : Rows.fnExactParseVoiceRow.wfByText (OpenSpec.ofChange Rows.fnExactParseVoiceSpec) = true := by kernel_rfl
theorem parseVoLaw_stand : ([9].all fun u => !Tryd.prog.wantsStandIn u) = true := by kernel_rfl

theorem parseVoLaw_card : Rows.FnExactParseVoiceCardSaid :=
  Claim7.holds_tied_plain_at .later [] [.data, .data, .data, .data, .sentinel, .sentinel, .data, .pinned] true Rows.fnExactParseVoiceCard.stood.harness true parseVoLaw_row (fun _ h => by cases h) parseVoLaw_wf (fun _ h => by cases h) fnExactParseVoice_row_tie rfl ⟨rfl, rfl⟩ kMain rfl
    (fun f fn hf hfn => by
      obtain rfl : f = 4 := Option.some.inj (parseVoLaw_named.symm.trans hf) |>.symm
      obtain rfl : fn = Tryd.f4 := (Option.some.inj (Tryd.func4.symm.trans hfn)).symm
      exact ⟨kLooks, fun j t ht => by
        rw [Tryd.params4] at ht
        have hm : t ∈ [9] := by simpa using Array.mem_of_getElem? ht
        exact (show Tryd.prog.wantsStandIn t = false by simpa using List.all_eq_true.1 parseVoLaw_stand t hm)⟩)
    parseVoLaw_goes
end Go.Proofs.YtfjcnomingbneabDoor
