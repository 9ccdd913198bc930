/- Proved: for every instrument and every slice of notes and every number, LayOutFrom of the program answers as the model's, in memory of its own, and neither the arguments nor anything that was there before the call has turned; the table of limits is tied to the program's own text. No condition. -/
import Derived.Test.YtkfgmkgbicahgaaGreatDoorLayOutFromLawWq
import Derived.Test.YtkfgmkgbicahgaaGreatDoorM7q
import Derived.Test.YtkfgmkgbicahgaaGreatDoorCardKq
import Derived.Lay
namespace Go.Proofs.YtkfgmkgbicahgaaGreatDoor
open Go.ChangeShapes Go.WideShapes Go.ChangeAt Go.RowKit
set_option linter.unusedVariables false
set_option linter.unusedSimpArgs false

set_option maxRecDepth 100000 in
set_option maxHeartbeats 2000000 in
theorem fromLaw_walk (A : Option Addr) (l : List Int) (c : Nat) (r : Int) (M : Option Addr) (m : List Nt) (d : Nat) (b : Int) (w : World) (hlc : l.length ≤ c) (hcm : c ≤ maxLen) (hA : RI w A l) (hmd : m.length ≤ d) (hdm : d ≤ maxLen) (hM : RA w M m) (hL : Lim w) :
    Calls Tryz.prog 3 #[.agg #[.slice A l.length c, .int .i64 r], .slice M m.length d, .int .i64 b] w fun e w' => e = .returned (.bool true) ∧ Below w.heap.size w w' := by
  by_cases hbig : l.length + m.length ≤ 1048576
  · exact fromLaw_core A l c r M m d b w hlc hcm hA hmd hdm hM hL (if fromB l r m b = true then (m.map (holeN l)).map (H.moveN b) else []) (fromB l r m b)
      (by split; (simp; omega); simp)
      (fun A c M d W hA h1 h2 hM => specFrom_any A l c r M m d b W (by omega) hA (by omega) h1 h2 hM)
      (fun A c M d W hA hM h1 h2 hL => implFrom_any A l c r M m d b W (by omega) hA (by omega) h1 h2 hM hL) hbig
  · unfold maxLen at hcm hdm
    have hb0 : Below w.heap.size w (w.alloc (.cells #[.slice A l.length c, .int .i64 r] 24)) := (Below.refl w.heap.size w).alloc (Nat.le_refl _) _
    by_cases hbl : l.length ≤ 1048576
    · have hleft1 : ¬ ((1048576 : Int) - l.length < 0) := by omega
      have hleft2 : (1048576 : Int) - l.length - m.length < 0 := by omega
      go_enter Tryz.func3, Tryz.ntmps3
      go_wp2_with fail
      generalize (w.alloc (.cells #[.slice A l.length c, .int .i64 r] 24)) = W at *
      refine (szIns_any _ _ _ _ _ _ (by omega) (by omega) (by omega)).mono ?_
      rintro e w1 ⟨rfl, hb1⟩
      rw [if_neg (by omega)]
      go_wp2_with fail
      refine (szNoteS_any _ _ _ _ _ (by omega) (by omega) (by omega)).mono ?_
      rintro e w1' ⟨rfl, rfl⟩
      rw [if_pos (by omega)]
      go_wp2
      go_ret
      exact ⟨rfl, hb0.trans (hb1.mono hb0.size)⟩
    · have hleft : (1048576 : Int) - l.length < 0 := by omega
      go_enter Tryz.func3, Tryz.ntmps3
      go_wp2_with fail
      generalize (w.alloc (.cells #[.slice A l.length c, .int .i64 r] 24)) = W at *
      refine (szIns_any _ _ _ _ _ _ (by omega) (by omega) (by omega)).mono ?_
      rintro e w1 ⟨rfl, hb1⟩
      rw [if_pos (by omega)]
      go_wp2
      go_ret
      exact ⟨rfl, hb0.trans (hb1.mono hb0.size)⟩

theorem fromLaw_met (os : Os) (args : Array Value) : laidMetH Tryz.prog Rows.fnExactLayOutFromRow.laid ((World.laidAll Tryz.prog os Rows.fnExactLayOutFromRow.laid).forCall (fun _ _ => 0) ⟨#[], args, []⟩).memory := by
  rw [MakeChecks.laidMetH_plain _ _ _ (by kernel_rfl)]
  exact laidMet_laidAll _ (by kernel_rfl) (by kernel_rfl)

set_option maxRecDepth 100000 in
theorem fromLaw_lifted (os : Os) (started : os.Started) (H : Type) (enc : TypeId × Value → H) :
    ReturnsInHanded {} Tryz.checked os 3 .any (fun w args => (Rows.fnExactLayOutFromSpec.pre enc Tryz.prog Tryz.f3 [] false w args ∧ laidMetH Tryz.prog Rows.fnExactLayOutFromRow.laid w) ∧ sizedMet enc Tryz.prog Tryz.f3 (OpenSpec.ofChange Rows.fnExactLayOutFromSpec) false w args)
      (Rows.fnExactLayOutFromSpec.post enc Tryz.prog Tryz.f3 false true false false) := by
  refine returnsInHanded_of_change_and (C := Tryz.checked) (X := fun w _ => laidMetH Tryz.prog Rows.fnExactLayOutFromRow.laid w) (fun _ _ _ hh h => h.of_heap hh) Tryz.own started (by kernel_rfl) Tryz.func3
    (ChangeSpec.witness_shaped (enc := enc) (C := Tryz.checked) (os := os) (X := fun w _ => laidMetH Tryz.prog Rows.fnExactLayOutFromRow.laid w) false (World.laidAll Tryz.prog os Rows.fnExactLayOutFromRow.laid) #[.agg #[.slice none 0 0, .int .i64 0], .slice none 0 0, .int .i64 0] 8 (World.laidAll_os _ _ _)
      (World.shaped_of_ZipB (by kernel_rfl) (by kernel_rfl)) (by kernel_rfl) (by kernel_rfl) (by kernel_rfl) (fromLaw_met os _)) ?_
  intro W base args ds gs before hval0 hW _ _ hL _
  have hval : ∀ (j : Nat) t v, Tryz.f3.params[j]? = some t → args[j]? = some v → Value.okWide Tryz.prog W .any base t v := hval0
  have hW' := hW
  have hlt := fun p hp => hW.lt p hp
  obtain ⟨p, q, hA0, hV, rfl, hfz, hnd⟩ := hW
  have hA : DataW.TrodAll enc Tryz.prog W 0 (fun _ => true) true Tryz.f3.params.toList args.toList ds p := hA0
  rw [Tryz.params3] at hA hval
  obtain ⟨v0, v1, v2, d0, d1, d2, p0, p1, p2, rfl, rfl, rfl, h0, h1, h2⟩ := trodAll_three hA
  obtain ⟨A0, l0, c0, r0, rfl, hlc0, hcm0, hRA0⟩ := open_ins (hval 0 24 v0 rfl rfl) h0
  obtain ⟨a1, n1, c01, hv1⟩ := okWide_slice Tryz.underlying25 (hval 1 25 v1 rfl rfl)
  obtain ⟨A1, l1, c1, rfl, hlc1, hcm1, hRA1⟩ := open_notes ⟨a1, n1, c01, hv1⟩ h1 (fun x hx => hlt x (by simp [hx]))
  obtain ⟨b2, rfl, rfl, rfl, wb2⟩ := open_int Tryz.underlying3 (hval 2 3 v2 rfl rfl) h2
  obtain ⟨gg, tt, cc, ff, dd, pp, rfl, hg1, hg2, hg3, hg4, hg5⟩ := trodVars_one hV
  rw [MakeChecks.laidMetH_plain _ _ _ (by kernel_rfl)] at hL
  have hT := lim_of_reads (Lib.laidMet.reads hL (.head _))
  refine (fromLaw_walk A0 l0 c0 r0 A1 l1 c1 b2 W hlc0 hcm0 hRA0 hlc1 hcm1 hRA1 hT).mono fun e W' ⟨he, hw⟩ => ?_
  subst he
  exact ⟨_, rfl, law_postV Tryz.laidOut (by rw [Tryz.params3]; intro t ht; simp at ht; rcases ht with rfl | rfl | rfl <;> exact ⟨by kernel_rfl, of_decide_eq_true (by kernel_rfl)⟩) (by kernel_rfl) rfl rfl Tryz.underlying4 hW' hw⟩

theorem fromLaw_ip : (Rows.fnExactLayOutFromRow.inPlace == Tryz.pinned.checked.prog.inPlace 3) = true := by kernel_rfl
theorem fromLaw_un : (Rows.fnExactLayOutFromRow.unfollowed == Tryz.pinned.checked.prog.unfollowed 3) = true := by kernel_rfl
theorem fromLaw_re : (Rows.fnExactLayOutFromRow.recurses == Tryz.pinned.checked.prog.recurses 3) = true := by kernel_rfl
theorem fromLaw_vn : (Rows.fnExactLayOutFromRow.named == Tryz.pinned.checked.prog.varsNamed 3) = true := by kernel_rfl
theorem fromLaw_named : Tryz.prog.funcNamed "loop.example/g00949/laws.FnExactLayOutFrom" = some 3 := by kernel_rfl
set_option maxRecDepth 100000 in
theorem fromLaw_facts : joinedFacts Tryz.pinned.checked.prog 3 Tryz.f3 Rows.fnExactLayOutFromSpec Rows.fnExactLayOutFromRow = true := by
  unfold joinedFacts
  exact (tt (tt (tt (tt (tt (tt (tt (tt (tt (tt (tt (tt (tt (tt (tt (tt (tt (tt (tt (tt (tt (tt (tt (tt (tt (tt (tt (tt (tt (tt (tt (by kernel_rfl) kLaid) kMaps) (by kernel_rfl)) (by kernel_rfl)) (by kernel_rfl)) kStops) (by kernel_rfl)) kKnobs) fromLaw_ip) fromLaw_un) fromLaw_re) fromLaw_vn) (by kernel_rfl)) (by kernel_rfl)) (by kernel_rfl)) (by kernel_rfl)) (by kernel_rfl)) (by kernel_rfl)) (by kernel_rfl)) (by kernel_rfl)) (by kernel_rfl)) kKeys) (by kernel_rfl)) kHeard) kMay) kLifts) kMake) (by kernel_rfl)) (by kernel_rfl)) (by kernel_rfl)) (by kernel_rfl))

theorem fromLaw_row : Rows.FnExactLayOutFromSaid :=
  OpenClaim.holds_of_wide 3 Tryz.f3 rfl rfl rfl rfl rfl rfl rfl ⟨rfl, rfl, rfl, rfl, rfl⟩ rfl rfl rfl rfl rfl fromLaw_named Tryz.func3 fromLaw_facts
    (of_decide_eq_true (by kernel_rfl)) (by unfold Func.isWrapper; first | (rw [if_pos (by decide +kernel)]; kernel_rfl) | (rw [if_neg (by decide +kernel)]; exact ⟨rfl, rfl⟩))
    (fun os started H enc _ => fromLaw_lifted os started H enc)

theorem fromLaw_goes : false = Rows.fnExactLayOutFromRow.goesBy Tryz.pinned.checked.prog := by kernel_rfl
theorem fromLaw_wf : Rows.fnExactLayOutFromRow.wfByText (OpenSpec.ofChange Rows.fnExactLayOutFromSpec) = true := by kernel_rfl
theorem fromLaw_stand : ([24, 25, 3].all fun u => !Tryz.prog.wantsStandIn u) = true := by kernel_rfl

theorem fromLaw_card : Rows.FnExactLayOutFromCardSaid :=
  Claim7.holds_tied_plain_at .later [] [.data] true Rows.fnExactLayOutFromCard.stood.harness true fromLaw_row (fun _ h => by cases h) fromLaw_wf (fun _ h => by cases h) fnExactLayOutFrom_row_tie rfl ⟨rfl, rfl⟩ kMain rfl
    (fun f fn hf hfn => by
      obtain rfl : f = 3 := Option.some.inj (fromLaw_named.symm.trans hf) |>.symm
      obtain rfl : fn = Tryz.f3 := (Option.some.inj (Tryz.func3.symm.trans hfn)).symm
      exact ⟨kLooks, fun j t ht => by
        rw [Tryz.params3] at ht
        have hm : t ∈ [24, 25, 3] := by simpa using Array.mem_of_getElem? ht
        exact (show Tryz.prog.wantsStandIn t = false by simpa using List.all_eq_true.1 fromLaw_stand t hm)⟩)
    fromLaw_goes
end Go.Proofs.YtkfgmkgbicahgaaGreatDoor
