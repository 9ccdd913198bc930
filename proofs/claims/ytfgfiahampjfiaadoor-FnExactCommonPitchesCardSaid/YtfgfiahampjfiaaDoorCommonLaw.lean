/- Proved: for every two instruments, CommonPitches of the program answers as the model's, in memory of its own, and neither the arguments nor anything that was there before the call has turned; the table of limits is tied to the program's own text. No condition. -/
import Derived.Test.YtfgfiahampjfiaaDoorCommonLawW
import Derived.Test.YtfgfiahampjfiaaDoorCardK
import Derived.Lay
namespace Go.Proofs.YtfgfiahampjfiaaDoor
open Go.ChangeShapes Go.WideShapes Go.ChangeAt Go.RowKit
set_option linter.unusedVariables false
set_option linter.unusedSimpArgs false

set_option maxRecDepth 100000 in
set_option maxHeartbeats 2000000 in
theorem commonLaw_walk (A : Option Addr) (l : List Int) (c : Nat) (r : Int) (B : Option Addr) (m : List Int) (d : Nat) (s : Int) (w : World) (hlc : l.length ≤ c) (hcm : c ≤ maxLen) (hA : RI w A l) (hmd : m.length ≤ d) (hdm : d ≤ maxLen) (hB : RI w B m) (hL : Lim w) :
    Calls Tryd.prog 11 #[.agg #[.slice A l.length c, .int .i64 r], .agg #[.slice B m.length d, .int .i64 s]] w fun e w' => e = .returned (.bool true) ∧ Below w.heap.size w w' := by
  by_cases hbig : l.length + m.length ≤ 1048576
  · exact commonLaw_core A l c r B m d s w hlc hcm hA hmd hdm hB hL (if (gdI l r && gdI m s) = true then comL m l else []) (gdI l r && gdI m s)
      (by split
          · have := comL_length m l; omega
          · simp)
      (fun A c B d W hA hB => specCommon_any A B l m c d r s W (by omega) (by omega) hA hB)
      (fun A c B d W hA hB hL => implCommon_any A B l m c d r s W (by omega) (by omega) hA hB hL) hbig
  · unfold maxLen at hcm hdm
    have hb0 : Below w.heap.size w ((w.alloc (.cells #[.slice A l.length c, .int .i64 r] 24)).alloc (.cells #[.slice B m.length d, .int .i64 s] 24)) := ((Below.refl _ _).alloc (Nat.le_refl _) _).alloc (by simp) _
    have hxB : Box ((w.alloc (.cells #[.slice A l.length c, .int .i64 r] 24)).alloc (.cells #[.slice B m.length d, .int .i64 s] 24)) (w.heap.size + 1) B m.length d s := by
      rw [show w.heap.size + 1 = (w.alloc (.cells #[.slice A l.length c, .int .i64 r] 24)).heap.size by simp]
      exact Box.new _ B m.length d s _
    obtain ⟨d0, d1, dz⟩ := hxB
    by_cases hbl : l.length ≤ 1048576
    · have hleft1 : ¬ ((1048576 : Int) - l.length < 0) := by omega
      have hleft2 : (1048576 : Int) - l.length - m.length < 0 := by omega
      go_enter Tryd.func11, Tryd.ntmps11
      go_wp2_with fail
      generalize ((w.alloc (.cells #[.slice A l.length c, .int .i64 r] 24)).alloc (.cells #[.slice B m.length d, .int .i64 s] 24)) = W at *
      refine (szIns_any _ _ _ _ _ _ (by omega) (by omega) (by omega)).mono ?_
      rintro e w1 ⟨rfl, hb1⟩
      rw [if_neg (by omega)]
      have q0 := (hb1.cell (p := ⟨w.heap.size + 1, 0, none⟩) dz).trans d0
      have q1 := (hb1.cell (p := ⟨w.heap.size + 1, 1, none⟩) dz).trans d1
      go_wp2_with fail
      refine (szIns_any _ _ _ _ _ _ (by omega) (by omega) (by omega)).mono ?_
      rintro e w2 ⟨rfl, hb2⟩
      rw [if_pos (by omega)]
      go_wp2
      go_ret
      exact ⟨rfl, hb0.trans ((hb1.trans (hb2.mono hb1.size)).mono hb0.size)⟩
    · have hleft : (1048576 : Int) - l.length < 0 := by omega
      go_enter Tryd.func11, Tryd.ntmps11
      go_wp2_with fail
      generalize ((w.alloc (.cells #[.slice A l.length c, .int .i64 r] 24)).alloc (.cells #[.slice B m.length d, .int .i64 s] 24)) = W at *
      refine (szIns_any _ _ _ _ _ _ (by omega) (by omega) (by omega)).mono ?_
      rintro e w1 ⟨rfl, hb1⟩
      rw [if_pos (by omega)]
      go_wp2
      go_ret
      exact ⟨rfl, hb0.trans (hb1.mono hb0.size)⟩

theorem commonLaw_met (os : Os) (args : Array Value) : laidMetH Tryd.prog Rows.fnExactCommonPitchesRow.laid ((World.laidAll Tryd.prog os Rows.fnExactCommonPitchesRow.laid).forCall (fun _ _ => 0) ⟨#[], args, []⟩).memory := by
  rw [MakeChecks.laidMetH_plain _ _ _ (by kernel_rfl)]
  exact laidMet_laidAll _ (by kernel_rfl) (by kernel_rfl)

set_option maxRecDepth 100000 in
theorem commonLaw_lifted (os : Os) (started : os.Started) (H : Type) (enc : TypeId × Value → H) :
    ReturnsInHanded {} Tryd.checked os 11 .any (fun w args => (Rows.fnExactCommonPitchesSpec.pre enc Tryd.prog Tryd.f11 [] false w args ∧ laidMetH Tryd.prog Rows.fnExactCommonPitchesRow.laid w) ∧ sizedMet enc Tryd.prog Tryd.f11 (OpenSpec.ofChange Rows.fnExactCommonPitchesSpec) false w args)
      (Rows.fnExactCommonPitchesSpec.post enc Tryd.prog Tryd.f11 false true false false) := by
  refine returnsInHanded_of_change_and (C := Tryd.checked) (X := fun w _ => laidMetH Tryd.prog Rows.fnExactCommonPitchesRow.laid w) (fun _ _ _ hh h => h.of_heap hh) Tryd.own started (by kernel_rfl) Tryd.func11
    (ChangeSpec.witness_shaped (enc := enc) (C := Tryd.checked) (os := os) (X := fun w _ => laidMetH Tryd.prog Rows.fnExactCommonPitchesRow.laid w) false (World.laidAll Tryd.prog os Rows.fnExactCommonPitchesRow.laid) #[.agg #[.slice none 0 0, .int .i64 0], .agg #[.slice none 0 0, .int .i64 0]] 8 (World.laidAll_os _ _ _)
      (World.shaped_of_ZipB (by kernel_rfl) (by kernel_rfl)) (by kernel_rfl) (by kernel_rfl) (by kernel_rfl) (commonLaw_met os _)) ?_
  intro W base args ds gs before hval0 hW _ _ hL _
  have hval : ∀ (j : Nat) t v, Tryd.f11.params[j]? = some t → args[j]? = some v → Value.okWide Tryd.prog W .any base t v := hval0
  have hW' := hW
  have hlt := fun p hp => hW.lt p hp
  obtain ⟨p, q, hA0, hV, rfl, hfz, hnd⟩ := hW
  have hA : DataW.TrodAll enc Tryd.prog W 0 (fun _ => true) true Tryd.f11.params.toList args.toList ds p := hA0
  rw [Tryd.params11] at hA hval
  obtain ⟨v0, v1, d0, d1, p0, p1, rfl, rfl, rfl, h0, h1⟩ := trodAll_two hA
  obtain ⟨A0, l0, c0, r0, rfl, hlc0, hcm0, hRA0⟩ := open_ins (hval 0 24 v0 rfl rfl) h0
  obtain ⟨A1, l1, c1, r1, rfl, hlc1, hcm1, hRA1⟩ := open_ins (hval 1 24 v1 rfl rfl) h1
  obtain ⟨gg, tt, cc, ff, dd, pp, rfl, hg1, hg2, hg3, hg4, hg5⟩ := trodVars_one hV
  rw [MakeChecks.laidMetH_plain _ _ _ (by kernel_rfl)] at hL
  have hT := lim_of_reads (Lib.laidMet.reads hL (.head _))
  refine (commonLaw_walk A0 l0 c0 r0 A1 l1 c1 r1 W hlc0 hcm0 hRA0 hlc1 hcm1 hRA1 hT).mono fun e W' ⟨he, hw⟩ => ?_
  subst he
  exact ⟨_, rfl, law_postV Tryd.laidOut (by rw [Tryd.params11]; intro t ht; simp at ht; subst ht; exact ⟨by kernel_rfl, of_decide_eq_true (by kernel_rfl)⟩) (by kernel_rfl) rfl rfl Tryd.underlying4 hW' hw⟩

theorem commonLaw_ip : (Rows.fnExactCommonPitchesRow.inPlace == Tryd.pinned.checked.prog.inPlace 11) = true := by kernel_rfl
theorem commonLaw_un : (Rows.fnExactCommonPitchesRow.unfollowed == Tryd.pinned.checked.prog.unfollowed 11) = true := by kernel_rfl
theorem commonLaw_re : (Rows.fnExactCommonPitchesRow.recurses == Tryd.pinned.checked.prog.recurses 11) = true := by kernel_rfl
theorem commonLaw_vn : (Rows.fnExactCommonPitchesRow.named == Tryd.pinned.checked.prog.varsNamed 11) = true := by kernel_rfl
theorem commonLaw_named : Tryd.prog.funcNamed "loop.example/g00949/laws.FnExactCommonPitches" = some 11 := by kernel_rfl
set_option maxRecDepth 100000 in
theorem commonLaw_facts : joinedFacts Tryd.pinned.checked.prog 11 Tryd.f11 Rows.fnExactCommonPitchesSpec Rows.fnExactCommonPitchesRow = true := by
  unfold joinedFacts
  exact (tt (tt (tt (tt (tt (tt (tt (tt (tt (tt (tt (tt (tt (tt (tt (tt (tt (tt (tt (tt (tt (tt (tt (tt (tt (tt (tt (tt (tt (tt (tt (by kernel_rfl) kLaid) kMaps) (by kernel_rfl)) (by kernel_rfl)) (by kernel_rfl)) kStops) (by kernel_rfl)) kKnobs) commonLaw_ip) commonLaw_un) commonLaw_re) commonLaw_vn) (by kernel_rfl)) (by kernel_rfl)) (by kernel_rfl)) (by kernel_rfl)) (by kernel_rfl)) (by kernel_rfl)) (by kernel_rfl)) (by kernel_rfl)) (by kernel_rfl)) kKeys) (by kernel_rfl)) kHeard) kMay) kLifts) kMake) (by kernel_rfl)) (by kernel_rfl)) (by kernel_rfl)) (by kernel_rfl))

theorem commonLaw_row : Rows.FnExactCommonPitchesSaid :=
  OpenClaim.holds_of_wide 11 Tryd.f11 rfl rfl rfl rfl rfl rfl rfl ⟨rfl, rfl, rfl, rfl, rfl⟩ rfl rfl rfl rfl rfl commonLaw_named Tryd.func11 commonLaw_facts
    (of_decide_eq_true (by kernel_rfl)) (by unfold Func.isWrapper; first | (rw [if_pos (by decide +kernel)]; kernel_rfl) | (rw [if_neg (by decide +kernel)]; exact ⟨rfl, rfl⟩))
    (fun os started H enc _ => commonLaw_lifted os started H enc)

theorem commonLaw_goes : false = Rows.fnExactCommonPitchesRow.goesBy Tryd.pinned.checked.prog := by kernel_rfl
theorem commonLaw_wf : Rows.fnExactCommonPitchesRow.wfByText (OpenSpec.ofChange Rows.fnExactCommonPitchesSpec) = true := by kernel_rfl
theorem commonLaw_stand : ([24, 24].all fun u => !Tryd.prog.wantsStandIn u) = true := by kernel_rfl

theorem commonLaw_card : Rows.FnExactCommonPitchesCardSaid :=
  Claim7.holds_tied_plain_at .later [] [.data] true Rows.fnExactCommonPitchesCard.stood.harness true commonLaw_row (fun _ h => by cases h) commonLaw_wf (fun _ h => by cases h) fnExactCommonPitches_row_tie rfl ⟨rfl, rfl⟩ kMain rfl
    (fun f fn hf hfn => by
      obtain rfl : f = 11 := Option.some.inj (commonLaw_named.symm.trans hf) |>.symm
      obtain rfl : fn = Tryd.f11 := (Option.some.inj (Tryd.func11.symm.trans hfn)).symm
      exact ⟨kLooks, fun j t ht => by
        rw [Tryd.params11] at ht
        have hm : t ∈ [24, 24] := by simpa using Array.mem_of_getElem? ht
        exact (show Tryd.prog.wantsStandIn t = false by simpa using List.all_eq_true.1 commonLaw_stand t hm)⟩)
    commonLaw_goes
end Go.Proofs.YtfgfiahampjfiaaDoor
