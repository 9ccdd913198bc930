/- Proved: for every instrument and every slice of notes, BestFold of the program answers as the model's, and neither the arguments nor anything that was there before the call has turned; the table of limits is tied to the program's own text. No condition. -/
import Derived.Test.YtogklldofhcohaaDoorBestFoldLawWq
import Derived.Test.YtogklldofhcohaaDoorM5q
import Derived.Test.YtogklldofhcohaaDoorCardKq
import Derived.Lay
namespace Go.Proofs.YtogklldofhcohaaDoor
open Go.ChangeShapes Go.WideShapes Go.ChangeAt Go.RowKit
set_option linter.unusedVariables false
set_option linter.unusedSimpArgs false

set_option maxRecDepth 100000 in
set_option maxHeartbeats 2000000 in
theorem bestFLaw_walk (A : Option Addr) (l : List Int) (c : Nat) (r : Int) (M : Option Addr) (m : List Nt) (d : Nat) (w : World) (hlc : l.length ≤ c) (hcm : c ≤ maxLen) (hA : RI w A l) (hmd : m.length ≤ d) (hdm : d ≤ maxLen) (hM : RA w M m) (hL : Lim w) :
    Calls Tryd.prog 4 #[.agg #[.slice A l.length c, .int .i64 r], .slice M m.length d] w fun e w' => e = .returned (.bool true) ∧ Below w.heap.size w w' := by
  by_cases hbig : l.length + m.length ≤ 1048576
  · obtain ⟨va, vb, vc, hR⟩ := bestFR_form l r m
    exact bestFLaw_core A l c r M m d w hlc hcm hA hmd hdm hM hL va vb vc (Lib.hid hR) hbig
  · unfold maxLen at hcm hdm
    have hb0 : Below w.heap.size w (w.alloc (.cells #[.slice A l.length c, .int .i64 r] 24)) := (Below.refl w.heap.size w).alloc (Nat.le_refl _) _
    by_cases hbl : l.length ≤ 1048576
    · have hleft1 : ¬ ((1048576 : Int) - l.length < 0) := by omega
      have hleft2 : (1048576 : Int) - l.length - m.length < 0 := by omega
      go_enter Tryd.func4, Tryd.ntmps4
      go_wp2_with fail
      generalize (w.alloc (.cells #[.slice A l.length c, .int .i64 r] 24)) = W at *
      refine (szIns_any _ _ _ _ _ _ (by omega) (by omega) (by omega)).mono ?_
      rintro e w1 ⟨rfl, hb1⟩
      rw [if_neg (by omega)]
      go_wp2_with fail
      refine (szNoteS_any _ _ _ _ _ (by omega) (by omega) (by omega)).mono ?_
      rintro e w1' ⟨rfl, rfl⟩
      rw [if_pos (by omega)]
      go_wp2
      go_ret
      exact ⟨rfl, hb0.trans (hb1.mono hb0.size)⟩
    · have hleft : (1048576 : Int) - l.length < 0 := by omega
      go_enter Tryd.func4, Tryd.ntmps4
      go_wp2_with fail
      generalize (w.alloc (.cells #[.slice A l.length c, .int .i64 r] 24)) = W at *
      refine (szIns_any _ _ _ _ _ _ (by omega) (by omega) (by omega)).mono ?_
      rintro e w1 ⟨rfl, hb1⟩
      rw [if_pos (by omega)]
      go_wp2
      go_ret
      exact ⟨rfl, hb0.trans (hb1.mono hb0.size)⟩

theorem bestFLaw_met (os : Os) (args : Array Value) : laidMetH Tryd.prog Rows.fnExactBestFoldRow.laid ((World.laidAll Tryd.prog os Rows.fnExactBestFoldRow.laid).forCall (fun _ _ => 0) ⟨#[], args, []⟩).memory := by
  rw [MakeChecks.laidMetH_plain _ _ _ (by kernel_rfl)]
  exact laidMet_laidAll _ (by kernel_rfl) (by kernel_rfl)

set_option maxRecDepth 100000 in
theorem bestFLaw_lifted (os : Os) (started : os.Started) (H : Type) (enc : TypeId × Value → H) :
    ReturnsInHanded {} Tryd.checked os 4 .any (fun w args => (Rows.fnExactBestFoldSpec.pre enc Tryd.prog Tryd.f4 [] false w args ∧ laidMetH Tryd.prog Rows.fnExactBestFoldRow.laid w) ∧ sizedMet enc Tryd.prog Tryd.f4 (OpenSpec.ofChange Rows.fnExactBestFoldSpec) false w args)
      (Rows.fnExactBestFoldSpec.post enc Tryd.prog Tryd.f4 false true false false) := by
  refine returnsInHanded_of_change_and (C := Tryd.checked) (X := fun w _ => laidMetH Tryd.prog Rows.fnExactBestFoldRow.laid w) (fun _ _ _ hh h => h.of_heap hh) Tryd.own started (by kernel_rfl) Tryd.func4
    (ChangeSpec.witness_shaped (enc := enc) (C := Tryd.checked) (os := os) (X := fun w _ => laidMetH Tryd.prog Rows.fnExactBestFoldRow.laid w) false (World.laidAll Tryd.prog os Rows.fnExactBestFoldRow.laid) #[.agg #[.slice none 0 0, .int .i64 0], .slice none 0 0] 8 (World.laidAll_os _ _ _)
      (World.shaped_of_ZipB (by kernel_rfl) (by kernel_rfl)) (by kernel_rfl) (by kernel_rfl) (by kernel_rfl) (bestFLaw_met os _)) ?_
  intro W base args ds gs before hval0 hW _ _ hL _
  have hval : ∀ (j : Nat) t v, Tryd.f4.params[j]? = some t → args[j]? = some v → Value.okWide Tryd.prog W .any base t v := hval0
  have hW' := hW
  have hlt := fun p hp => hW.lt p hp
  obtain ⟨p, q, hA0, hV, rfl, hfz, hnd⟩ := hW
  have hA : DataW.TrodAll enc Tryd.prog W 0 (fun _ => true) true Tryd.f4.params.toList args.toList ds p := hA0
  rw [Tryd.params4] at hA hval
  obtain ⟨v0, v1, d0, d1, p0, p1, rfl, rfl, rfl, h0, h1⟩ := trodAll_two hA
  obtain ⟨A0, l0, c0, r0, rfl, hlc0, hcm0, hRA0⟩ := open_ins (hval 0 24 v0 rfl rfl) h0
  obtain ⟨a1, n1, c01, hv1⟩ := okWide_slice Tryd.underlying25 (hval 1 25 v1 rfl rfl)
  obtain ⟨A1, l1, c1, rfl, hlc1, hcm1, hRA1⟩ := open_notes ⟨a1, n1, c01, hv1⟩ h1 (fun x hx => hlt x (by simp [hx]))
  obtain ⟨gg, tt, cc, ff, dd, pp, rfl, hg1, hg2, hg3, hg4, hg5⟩ := trodVars_one hV
  rw [MakeChecks.laidMetH_plain _ _ _ (by kernel_rfl)] at hL
  have hT := lim_of_reads (Lib.laidMet.reads hL (.head _))
  refine (bestFLaw_walk A0 l0 c0 r0 A1 l1 c1 W hlc0 hcm0 hRA0 hlc1 hcm1 hRA1 hT).mono fun e W' ⟨he, hw⟩ => ?_
  subst he
  exact ⟨_, rfl, law_postV Tryd.laidOut (by rw [Tryd.params4]; intro t ht; simp at ht; rcases ht with rfl | rfl <;> exact ⟨by kernel_rfl, of_decide_eq_true (by kernel_rfl)⟩) (by kernel_rfl) rfl rfl Tryd.underlying4 hW' hw⟩

theorem bestFLaw_ip : (Rows.fnExactBestFoldRow.inPlace == Tryd.pinned.checked.prog.inPlace 4) = true := by kernel_rfl
theorem bestFLaw_un : (Rows.fnExactBestFoldRow.unfollowed == Tryd.pinned.checked.prog.unfollowed 4) = true := by kernel_rfl
theorem bestFLaw_re : (Rows.fnExactBestFoldRow.recurses == Tryd.pinned.checked.prog.recurses 4) = true := by kernel_rfl
theorem bestFLaw_vn : (Rows.fnExactBestFoldRow.named == Tryd.pinned.checked.prog.varsNamed 4) = true := by kernel_rfl
theorem bestFLaw_named : Tryd.prog.funcNamed "loop.example/g00949/laws.FnExactBestFold" = some 4 := by kernel_rfl
set_option maxRecDepth 100000 in
theorem bestFLaw_facts : joinedFacts Tryd.pinned.checked.prog 4 Tryd.f4 Rows.fnExactBestFoldSpec Rows.fnExactBestFoldRow = true := by
  unfold joinedFacts
  exact (tt (tt (tt (tt (tt (tt (tt (tt (tt (tt (tt (tt (tt (tt (tt (tt (tt (tt (tt (tt (tt (tt (tt (tt (tt (tt (tt (tt (tt (tt (tt (by kernel_rfl) kLaid) kMaps) (by kernel_rfl)) (by kernel_rfl)) (by kernel_rfl)) kStops) (by kernel_rfl)) kKnobs) bestFLaw_ip) bestFLaw_un) bestFLaw_re) bestFLaw_vn) (by kernel_rfl)) (by kernel_rfl)) (by kernel_rfl)) (by kernel_rfl)) (by kernel_rfl)) (by kernel_rfl)) (by kernel_rfl)) (by kernel_rfl)) (by kernel_rfl)) kKeys) (by kernel_rfl)) kHeard) kMay) kLifts) kMake) (by kernel_rfl)) (by kernel_rfl)) (by kernel_rfl)) (by kernel_rfl))

theorem bestFLaw_row : Rows.FnExactBestFoldSaid :=
  OpenClaim.holds_of_wide 4 Tryd.f4 rfl rfl rfl rfl rfl rfl rfl ⟨rfl, rfl, rfl, rfl, rfl⟩ rfl rfl rfl rfl rfl bestFLaw_named Tryd.func4 bestFLaw_facts
    (of_decide_eq_true (by kernel_rfl)) (by unfold Func.isWrapper; first | (rw [if_pos (by decide +kernel)]; kernel_rfl) | (rw [if_neg (by decide +kernel)]; exact ⟨rfl, rfl⟩))
    (fun os started H enc _ => bestFLaw_lifted os started H enc)

theorem bestFLaw_goes : false = Rows.fnExactBestFoldRow.goesBy Tryd.pinned.checked.prog := by kernel_rfl
theorem bestFLaw_wf : Rows.fnExactBestFoldRow.wfByText (OpenSpec.ofChange Rows.fnExactBestFoldSpec) = true := by kernel_rfl
theorem bestFLaw_stand : ([24, 25].all fun u => !Tryd.prog.wantsStandIn u) = true := by kernel_rfl

theorem bestFLaw_card : Rows.FnExactBestFoldCardSaid :=
  Claim7.holds_tied_plain_at .later [] [.data] true Rows.fnExactBestFoldCard.stood.harness false bestFLaw_row (fun _ h => by cases h) bestFLaw_wf (fun _ h => by cases h) fnExactBestFold_row_tie rfl ⟨rfl, rfl⟩ kMain rfl
    (fun f fn hf hfn => by
      obtain rfl : f = 4 := Option.some.inj (bestFLaw_named.symm.trans hf) |>.symm
      obtain rfl : fn = Tryd.f4 := (Option.some.inj (Tryd.func4.symm.trans hfn)).symm
      exact ⟨kLooks, fun j t ht => by
        rw [Tryd.params4] at ht
        have hm : t ∈ [24, 25] := by simpa using Array.mem_of_getElem? ht
        exact (show Tryd.prog.wantsStandIn t = false by simpa using List.all_eq_true.1 bestFLaw_stand t hm)⟩)
    bestFLaw_goes
end Go.Proofs.YtogklldofhcohaaDoor
