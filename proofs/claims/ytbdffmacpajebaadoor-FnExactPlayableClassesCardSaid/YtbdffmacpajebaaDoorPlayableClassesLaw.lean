/- Proved: for every instrument, PlayableClasses of the program answers as the model's, in memory of its own, and neither the argument nor anything that was there before the call has turned; the table of limits is tied to the program's own text. No condition. -/
import Derived.Test.YtbdffmacpajebaaDoorPlayableClassesLawW
import Derived.Test.YtbdffmacpajebaaDoorOpenV
import Derived.Test.YtbdffmacpajebaaDoorCardK
import Derived.Lay
namespace Go.Proofs.YtbdffmacpajebaaDoor
open Go.ChangeShapes Go.WideShapes Go.ChangeAt Go.RowKit
set_option linter.unusedVariables false
set_option linter.unusedSimpArgs false

set_option maxRecDepth 100000 in
set_option maxHeartbeats 2000000 in
theorem clsLaw_walk (A : Option Addr) (l : List Int) (c : Nat) (r : Int) (w : World) (hlc : l.length ≤ c) (hcm : c ≤ maxLen) (hA : RI w A l) (hL : Lim w) :
    Calls Tryd.prog 9 #[.agg #[.slice A l.length c, .int .i64 r]] w fun e w' => e = .returned (.bool true) ∧ Below w.heap.size w w' := by
  by_cases hbig : l.length ≤ 1048576
  · exact clsLaw_core A l c r w hlc hcm hA hL (if gdI l r = true then classesL l else []) (gdI l r)
      (by split; (have := clsL_length l l.length (Nat.le_refl _); unfold classesL; omega); simp)
      (fun A c W hA => specCls_any A l c r W hbig hA)
      (fun A c W hA hL => implCls_any A l c r W hbig hA hL) hbig
  · unfold maxLen at hcm
    have hb0 : Below w.heap.size w (w.alloc (.cells #[.slice A l.length c, .int .i64 r] 24)) := (Below.refl w.heap.size w).alloc (Nat.le_refl _) _
    have hleft : (1048576 : Int) - l.length < 0 := by omega
    go_enter Tryd.func9, Tryd.ntmps9
    go_wp2_with fail
    generalize (w.alloc (.cells #[.slice A l.length c, .int .i64 r] 24)) = W at *
    refine (szIns_any _ _ _ _ _ _ (by omega) (by omega) (by omega)).mono ?_
    rintro e w1 ⟨rfl, hb1⟩
    rw [if_pos (by omega)]
    go_wp2
    go_ret
    exact ⟨rfl, hb0.trans (hb1.mono hb0.size)⟩

theorem clsLaw_met (os : Os) (args : Array Value) : laidMetH Tryd.prog Rows.fnExactPlayableClassesRow.laid ((World.laidAll Tryd.prog os Rows.fnExactPlayableClassesRow.laid).forCall (fun _ _ => 0) ⟨#[], args, []⟩).memory := by
  rw [MakeChecks.laidMetH_plain _ _ _ (by kernel_rfl)]
  exact laidMet_laidAll _ (by kernel_rfl) (by kernel_rfl)

set_option maxRecDepth 100000 in
theorem clsLaw_lifted (os : Os) (started : os.Started) (H : Type) (enc : TypeId × Value → H) :
    ReturnsInHanded {} Tryd.checked os 9 .any (fun w args => (Rows.fnExactPlayableClassesSpec.pre enc Tryd.prog Tryd.f9 [] false w args ∧ laidMetH Tryd.prog Rows.fnExactPlayableClassesRow.laid w) ∧ sizedMet enc Tryd.prog Tryd.f9 (OpenSpec.ofChange Rows.fnExactPlayableClassesSpec) false w args)
      (Rows.fnExactPlayableClassesSpec.post enc Tryd.prog Tryd.f9 false true false false) := by
  refine returnsInHanded_of_change_and (C := Tryd.checked) (X := fun w _ => laidMetH Tryd.prog Rows.fnExactPlayableClassesRow.laid w) (fun _ _ _ hh h => h.of_heap hh) Tryd.own started (by kernel_rfl) Tryd.func9
    (ChangeSpec.witness_shaped (enc := enc) (C := Tryd.checked) (os := os) (X := fun w _ => laidMetH Tryd.prog Rows.fnExactPlayableClassesRow.laid w) false (World.laidAll Tryd.prog os Rows.fnExactPlayableClassesRow.laid) #[.agg #[.slice none 0 0, .int .i64 0]] 8 (World.laidAll_os _ _ _)
      (World.shaped_of_ZipB (by kernel_rfl) (by kernel_rfl)) (by kernel_rfl) (by kernel_rfl) (by kernel_rfl) (clsLaw_met os _)) ?_
  intro W base args ds gs before hval0 hW _ _ hL _
  have hval : ∀ (j : Nat) t v, Tryd.f9.params[j]? = some t → args[j]? = some v → Value.okWide Tryd.prog W .any base t v := hval0
  have hW' := hW
  have hlt := fun p hp => hW.lt p hp
  obtain ⟨p, q, hA0, hV, rfl, hfz, hnd⟩ := hW
  have hA : DataW.TrodAll enc Tryd.prog W 0 (fun _ => true) true Tryd.f9.params.toList args.toList ds p := hA0
  rw [Tryd.params9] at hA hval
  obtain ⟨v0, d0, rfl, rfl, h0⟩ := trodAll_one hA
  obtain ⟨A0, l0, c0, r0, rfl, hlc0, hcm0, hRA0⟩ := open_ins (hval 0 24 v0 rfl rfl) h0
  obtain ⟨gg, tt, cc, ff, dd, pp, rfl, hg1, hg2, hg3, hg4, hg5⟩ := trodVars_one hV
  rw [MakeChecks.laidMetH_plain _ _ _ (by kernel_rfl)] at hL
  have hT := lim_of_reads (Lib.laidMet.reads hL (.head _))
  refine (clsLaw_walk A0 l0 c0 r0 W hlc0 hcm0 hRA0 hT).mono fun e W' ⟨he, hw⟩ => ?_
  subst he
  exact ⟨_, rfl, law_postV Tryd.laidOut (by rw [Tryd.params9]; intro t ht; simp at ht; subst ht; exact ⟨by kernel_rfl, of_decide_eq_true (by kernel_rfl)⟩) (by kernel_rfl) rfl rfl Tryd.underlying4 hW' hw⟩

theorem clsLaw_ip : (Rows.fnExactPlayableClassesRow.inPlace == Tryd.pinned.checked.prog.inPlace 9) = true := by kernel_rfl
theorem clsLaw_un : (Rows.fnExactPlayableClassesRow.unfollowed == Tryd.pinned.checked.prog.unfollowed 9) = true := by kernel_rfl
theorem clsLaw_re : (Rows.fnExactPlayableClassesRow.recurses == Tryd.pinned.checked.prog.recurses 9) = true := by kernel_rfl
theorem clsLaw_vn : (Rows.fnExactPlayableClassesRow.named == Tryd.pinned.checked.prog.varsNamed 9) = true := by kernel_rfl
theorem clsLaw_named : Tryd.prog.funcNamed "loop.example/g00949/laws.FnExactPlayableClasses" = some 9 := by kernel_rfl
set_option maxRecDepth 100000 in
theorem clsLaw_facts : joinedFacts Tryd.pinned.checked.prog 9 Tryd.f9 Rows.fnExactPlayableClassesSpec Rows.fnExactPlayableClassesRow = true := by
  unfold joinedFacts
  exact (tt (tt (tt (tt (tt (tt (tt (tt (tt (tt (tt (tt (tt (tt (tt (tt (tt (tt (tt (tt (tt (tt (tt (tt (tt (tt (tt (tt (tt (tt (tt (by kernel_rfl) kLaid) kMaps) (by kernel_rfl)) (by kernel_rfl)) (by kernel_rfl)) kStops) (by kernel_rfl)) kKnobs) clsLaw_ip) clsLaw_un) clsLaw_re) clsLaw_vn) (by kernel_rfl)) (by kernel_rfl)) (by kernel_rfl)) (by kernel_rfl)) (by kernel_rfl)) (by kernel_rfl)) (by kernel_rfl)) (by kernel_rfl)) (by kernel_rfl)) kKeys) (by kernel_rfl)) kHeard) kMay) kLifts) kMake) (by kernel_rfl)) (by kernel_rfl)) (by kernel_rfl)) (by kernel_rfl))

theorem clsLaw_row : Rows.FnExactPlayableClassesSaid :=
  OpenClaim.holds_of_wide 9 Tryd.f9 rfl rfl rfl rfl rfl rfl rfl ⟨rfl, rfl, rfl, rfl, rfl⟩ rfl rfl rfl rfl rfl clsLaw_named Tryd.func9 clsLaw_facts
    (of_decide_eq_true (by kernel_rfl)) (by unfold Func.isWrapper; first | (rw [if_pos (by decide +kernel)]; kernel_rfl) | (rw [if_neg (by decide +kernel)]; exact ⟨rfl, rfl⟩))
    (fun os started H enc _ => clsLaw_lifted os started H enc)

theorem clsLaw_goes : false = Rows.fnExactPlayableClassesRow.goesBy Tryd.pinned.checked.prog := by kernel_rfl
theorem clsLaw_wf : Rows.fnExactPlayableClassesRow.wfByText (OpenSpec.ofChange Rows.fnExactPlayableClassesSpec) = true := by kernel_rfl
theorem clsLaw_stand : ([24].all fun u => !Tryd.prog.wantsStandIn u) = true := by kernel_rfl

theorem clsLaw_card : Rows.FnExactPlayableClassesCardSaid :=
  Claim7.holds_tied_plain_at .later [] [.data] true Rows.fnExactPlayableClassesCard.stood.harness false clsLaw_row (fun _ h => by cases h) clsLaw_wf (fun _ h => by cases h) fnExactPlayableClasses_row_tie rfl ⟨rfl, rfl⟩ kMain rfl
    (fun f fn hf hfn => by
      obtain rfl : f = 9 := Option.some.inj (clsLaw_named.symm.trans hf) |>.symm
      obtain rfl : fn = Tryd.f9 := (Option.some.inj (Tryd.func9.symm.trans hfn)).symm
      exact ⟨kLooks, fun j t ht => by
        rw [Tryd.params9] at ht
        have hm : t ∈ [24] := by simpa using Array.mem_of_getElem? ht
        exact (show Tryd.prog.wantsStandIn t = false by simpa using List.all_eq_true.1 clsLaw_stand t hm)⟩)
    clsLaw_goes
end Go.Proofs.YtbdffmacpajebaaDoor
