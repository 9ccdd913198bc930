/- Proved: for every slice of Hole values, SheetText of the program answers as the model's, and neither the argument nor anything that was there before the call has turned; the tables that it reads are tied to the program's own text. No condition. -/
import Derived.Test.YtfjcnomingbneaaDoorTextI
import Derived.Test.YtfjcnomingbneaaDoorHoleOpen
import Derived.Test.YtfjcnomingbneaaDoorCardK
import Derived.Lay
namespace Go.Proofs.YtfjcnomingbneaaDoor
open Go.ChangeShapes Go.WideShapes Go.ChangeAt Go.RowKit
set_option linter.unusedVariables false
set_option linter.unusedSimpArgs false

set_option maxRecDepth 100000 in
set_option maxHeartbeats 2000000 in
theorem textLaw_walk (A : Option Addr) (l : List Nt) (c : Nat) (w : World) (hlc : l.length ≤ c) (hcm : c ≤ maxLen) (hA : RA w A l) (hT : Tabs w) :
    Calls Tryd.prog 3 #[.slice A l.length c] w fun e w' => e = .returned (.bool true) ∧ Below w.heap.size w w' := by
  unfold maxLen at hcm
  by_cases hbig : l.length ≤ 1048576
  · have hleft : ¬ ((1048576 : Int) - l.length < 0) := by omega
    obtain ⟨s, b, hR⟩ : ∃ s b, textR l = #[.string s, .bool b] := by unfold textR; split <;> exact ⟨_, _, rfl⟩
    have HR := Lib.hid hR
    clear hR
    go_enter Tryd.func3, Tryd.ntmps3
    go_wp2_with fail
    refine (szHoleS_any _ _ _ _ _ (by omega) (by omega) (by omega)).mono ?_
    rintro e w' ⟨rfl, rfl⟩
    rw [if_neg (by omega)]
    go_wp2_with fail
    refine (toHoleS_any _ _ _ _ hbig hA).mono ?_
    rintro e w1 ⟨rfl, ho1, hb1⟩
    go_wp2_with fail
    refine (specText_any _ _ _ _ hbig (Nat.le_refl _) (by omega) ho1.ra).mono ?_
    rintro e w2 ⟨rfl, hb2⟩
    have hB2 := hb1.trans (hb2.mono hb1.size)
    rw [HR.out]
    go_wp2_with fail
    refine (toHoleS_any _ _ _ _ hbig (hA.below hB2)).mono ?_
    rintro e w3 ⟨rfl, ho3, hb3⟩
    have hB3 := hB2.trans (hb3.mono hB2.size)
    go_wp2_with fail
    refine (implText_any _ _ _ _ hbig ho3.ra (hT.below hB3)).mono ?_
    rintro e w4 ⟨rfl, hb4⟩
    have hB4 := hB3.trans (hb4.mono hB3.size)
    have ho4 := ho3.below hb4 (Nat.le_refl _)
    rw [HR.out]
    go_wp2_with fail
    refine (toHoleS_any _ _ _ _ hbig (hA.below hB4)).mono ?_
    rintro e w5 ⟨rfl, ho5, hb5⟩
    have hB5 := hB4.trans (hb5.mono hB4.size)
    have ho45 := ho4.below hb5 (Nat.le_refl _)
    go_wp2_with fail
    refine (eqHoleS_any _ _ _ _ _ _ _ (by omega) (by omega) ho45.ra ho5.ra).mono ?_
    rintro e w6 ⟨rfl, hb6⟩
    go_wp2
    go_ret
    exact ⟨rfl, hB5.trans (hb6.mono hB5.size)⟩
  · have hleft : (1048576 : Int) - l.length < 0 := by omega
    go_enter Tryd.func3, Tryd.ntmps3
    go_wp2_with fail
    refine (szHoleS_any _ _ _ _ _ (by omega) (by omega) (by omega)).mono ?_
    rintro e w' ⟨rfl, rfl⟩
    rw [if_pos (by omega)]
    go_wp2
    go_ret
    exact ⟨rfl, Below.refl _ _⟩

theorem textLaw_met (os : Os) (args : Array Value) : laidMetH Tryd.prog Rows.fnExactSheetTextRow.laid ((World.laidAll Tryd.prog os Rows.fnExactSheetTextRow.laid).forCall (fun _ _ => 0) ⟨#[], args, []⟩).memory := by
  rw [MakeChecks.laidMetH_plain _ _ _ (by kernel_rfl)]
  exact laidMet_laidAll _ (by kernel_rfl) (by kernel_rfl)

set_option maxRecDepth 100000 in
theorem textLaw_lifted (os : Os) (started : os.Started) (H : Type) (enc : TypeId × Value → H) :
    ReturnsInHanded {} Tryd.checked os 3 .any (fun w args => (Rows.fnExactSheetTextSpec.pre enc Tryd.prog Tryd.f3 [] false w args ∧ laidMetH Tryd.prog Rows.fnExactSheetTextRow.laid w) ∧ sizedMet enc Tryd.prog Tryd.f3 (OpenSpec.ofChange Rows.fnExactSheetTextSpec) false w args)
      (Rows.fnExactSheetTextSpec.post enc Tryd.prog Tryd.f3 false true false false) := by
  refine returnsInHanded_of_change_and (C := Tryd.checked) (X := fun w _ => laidMetH Tryd.prog Rows.fnExactSheetTextRow.laid w) (fun _ _ _ hh h => h.of_heap hh) Tryd.own started (by kernel_rfl) Tryd.func3
    (ChangeSpec.witness_shaped (enc := enc) (C := Tryd.checked) (os := os) (X := fun w _ => laidMetH Tryd.prog Rows.fnExactSheetTextRow.laid w) false (World.laidAll Tryd.prog os Rows.fnExactSheetTextRow.laid) #[.slice none 0 0] 8 (World.laidAll_os _ _ _)
      (World.shaped_of_ZipB (by kernel_rfl) (by kernel_rfl)) (by kernel_rfl) (by kernel_rfl) (by kernel_rfl) (textLaw_met os _)) ?_
  intro W base args ds gs before hval0 hW _ _ hL _
  have hval : ∀ (j : Nat) t v, Tryd.f3.params[j]? = some t → args[j]? = some v → Value.okWide Tryd.prog W .any base t v := hval0
  have hW' := hW
  have hlt := fun p hp => hW.lt p hp
  obtain ⟨p, q, hA0, hV, rfl, hfz, hnd⟩ := hW
  have hA : DataW.TrodAll enc Tryd.prog W 0 (fun _ => true) true Tryd.f3.params.toList args.toList ds p := hA0
  rw [Tryd.params3] at hA hval
  obtain ⟨v0, d0, rfl, rfl, h0⟩ := trodAll_one hA
  obtain ⟨a0, n0, c0, hv0⟩ := okWide_slice Tryd.underlying22 (hval 0 22 v0 rfl rfl)
  obtain ⟨A, l, c, rfl, hlc, hcm, hRA⟩ := open_HoleS ⟨a0, n0, c0, hv0⟩ h0 (fun x hx => hlt x (by simp [hx]))
  obtain ⟨rfl, rfl⟩ := trodVars_none hV
  rw [MakeChecks.laidMetH_plain _ _ _ (by kernel_rfl)] at hL
  have hT : Tabs W := ⟨pow_of_reads (Lib.laidMet.reads hL (.tail _ (.tail _ (.head _))))⟩
  refine (textLaw_walk A l c W hlc hcm hRA hT).mono fun e W' ⟨he, hw⟩ => ?_
  subst he
  exact ⟨_, rfl, law_postV Tryd.laidOut (by rw [Tryd.params3]; intro t ht; simp at ht; subst ht; exact ⟨by kernel_rfl, of_decide_eq_true (by kernel_rfl)⟩) (by kernel_rfl) rfl rfl Tryd.underlying4 hW' hw⟩

theorem textLaw_ip : (Rows.fnExactSheetTextRow.inPlace == Tryd.pinned.checked.prog.inPlace 3) = true := by kernel_rfl
theorem textLaw_un : (Rows.fnExactSheetTextRow.unfollowed == Tryd.pinned.checked.prog.unfollowed 3) = true := by kernel_rfl
theorem textLaw_re : (Rows.fnExactSheetTextRow.recurses == Tryd.pinned.checked.prog.recurses 3) = true := by kernel_rfl
theorem textLaw_vn : (Rows.fnExactSheetTextRow.named == Tryd.pinned.checked.prog.varsNamed 3) = true := by kernel_rfl
theorem textLaw_named : Tryd.prog.funcNamed "loop.example/g00949/laws.FnExactSheetText" = some 3 := by kernel_rfl
set_option maxRecDepth 100000 in
theorem textLaw_facts : joinedFacts Tryd.pinned.checked.prog 3 Tryd.f3 Rows.fnExactSheetTextSpec Rows.fnExactSheetTextRow = true := by
  unfold joinedFacts
  exact (tt (tt (tt (tt (tt (tt (tt (tt (tt (tt (tt (tt (tt (tt (tt (tt (tt (tt (tt (tt (tt (tt (tt (tt (tt (tt (tt (tt (tt (tt (tt (by kernel_rfl) kLaid) kMaps) (by kernel_rfl)) (by kernel_rfl)) (by kernel_rfl)) kStops) (by kernel_rfl)) kKnobs) textLaw_ip) textLaw_un) textLaw_re) textLaw_vn) (by kernel_rfl)) (by kernel_rfl)) (by kernel_rfl)) (by kernel_rfl)) (by kernel_rfl)) (by kernel_rfl)) (by kernel_rfl)) (by kernel_rfl)) (by kernel_rfl)) kKeys) (by kernel_rfl)) kHeard) kMay) kLifts) kMake) (by kernel_rfl)) (by kernel_rfl)) (by kernel_rfl)) (by kernel_rfl))

theorem textLaw_row : Rows.FnExactSheetTextSaid :=
  OpenClaim.holds_of_wide 3 Tryd.f3 rfl rfl rfl rfl rfl rfl rfl ⟨rfl, rfl, rfl, rfl, rfl⟩ rfl rfl rfl rfl rfl textLaw_named Tryd.func3 textLaw_facts
    (of_decide_eq_true (by kernel_rfl)) (by unfold Func.isWrapper; first | (rw [if_pos (by decide +kernel)]; kernel_rfl) | (rw [if_neg (by decide +kernel)]; exact ⟨rfl, rfl⟩))
    (fun os started H enc _ => textLaw_lifted os started H enc)

theorem textLaw_goes : false = Rows.fnExactSheetTextRow.goesBy Tryd.pinned.checked.prog := by kernel_rfl
theorem textLaw_wf : Rows.fnExactSheetTextRow.wfByText (OpenSpec.ofChange Rows.fnExactSheetTextSpec) = true := by kernel_rfl
theorem textLaw_stand : ([22].all fun u => !Tryd.prog.wantsStandIn u) = true := by kernel_rfl

theorem textLaw_card : Rows.FnExactSheetTextCardSaid :=
  Claim7.holds_tied_plain_at .later [] [.data, .data, .data] true Rows.fnExactSheetTextCard.stood.harness true textLaw_row (fun _ h => by cases h) textLaw_wf (fun _ h => by cases h) fnExactSheetText_row_tie rfl ⟨rfl, rfl⟩ kMain rfl
    (fun f fn hf hfn => by
      obtain rfl : f = 3 := Option.some.inj (textLaw_named.symm.trans hf) |>.symm
      obtain rfl : fn = Tryd.f3 := (Option.some.inj (Tryd.func3.symm.trans hfn)).symm
      exact ⟨kLooks, fun j t ht => by
        rw [Tryd.params3] at ht
        have hm : t ∈ [22] := by simpa using Array.mem_of_getElem? ht
        exact (show Tryd.prog.wantsStandIn t = false by simpa using List.all_eq_true.1 textLaw_stand t hm)⟩)
    textLaw_goes
end Go.Proofs.YtfjcnomingbneaaDoor
