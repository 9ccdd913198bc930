/- Proved: for every instrument and every slice of notes and every number, TransposeLoss of the program answers as the model's, and neither the arguments nor anything that was there before the call has turned; the table of limits is tied to the program's own text. No condition. -/
import Derived.Test.YtbdffmacpajebaaDoorTransposeLossLawW
import Derived.Test.YtbdffmacpajebaaDoorOpenV
import Derived.Test.YtbdffmacpajebaaDoorCardK
import Derived.Lay
namespace Go.Proofs.YtbdffmacpajebaaDoor
open Go.ChangeShapes Go.WideShapes Go.ChangeAt Go.RowKit
set_option linter.unusedVariables false
set_option linter.unusedSimpArgs false

set_option maxRecDepth 100000 in
set_option maxHeartbeats 2000000 in
theorem lossLaw_walk (A : Option Addr) (l : List Int) (c : Nat) (r : Int) (M : Option Addr) (m : List Nt) (d : Nat) (b : Int) (w : World) (hlc : l.length ≤ c) (hcm : c ≤ maxLen) (hA : RI w A l) (hmd : m.length ≤ d) (hdm : d ≤ maxLen) (hM : RA w M m) (hL : Lim w) :
    Calls Tryd.prog 5 #[.agg #[.slice A l.length c, .int .i64 r], .slice M m.length d, .int .i64 b] w fun e w' => e = .returned (.bool true) ∧ Below w.heap.size w w' := by
  by_cases hbig : l.length + m.length ≤ 1048576
  · obtain ⟨va, vb, hR⟩ := lossR_form l r m b
    exact lossLaw_core A l c r M m d b w hlc hcm hA hmd hdm hM hL va vb (Lib.hid hR) hbig
  · unfold maxLen at hcm hdm
    have hb0 : Below w.heap.size w (w.alloc (.cells #[.slice A l.length c, .int .i64 r] 24)) := (Below.refl w.heap.size w).alloc (Nat.le_refl _) _
    by_cases hbl : l.length ≤ 1048576
    · have hleft1 : ¬ ((1048576 : Int) - l.length < 0) := by omega
      have hleft2 : (1048576 : Int) - l.length - m.length < 0 := by omega
      go_enter Tryd.func5, Tryd.ntmps5
      go_wp2_with fail
      generalize (w.alloc (.cells #[.slice A l.length c, .int .i64 r] 24)) = W at *
      refine (szIns_any _ _ _ _ _ _ (by omega) (by omega) (by omega)).mono ?_
      rintro e w1 ⟨rfl, hb1⟩
      rw [if_neg (by omega)]
      go_wp2_with fail
      refine (szNoteS_any _ _ _ _ _ (by omega) (by omega) (by omega)).mono ?_
      rintro e w1' ⟨rfl, rfl⟩
      rw [if_pos (by omega)]
      go_wp2
      go_ret
      exact ⟨rfl, hb0.trans (hb1.mono hb0.size)⟩
    · have hleft : (1048576 : Int) - l.length < 0 := by omega
      go_enter Tryd.func5, Tryd.ntmps5
      go_wp2_with fail
      generalize (w.alloc (.cells #[.slice A l.length c, .int .i64 r] 24)) = W at *
      refine (szIns_any _ _ _ _ _ _ (by omega) (by omega) (by omega)).mono ?_
      rintro e w1 ⟨rfl, hb1⟩
      rw [if_pos (by omega)]
      go_wp2
      go_ret
      exact ⟨rfl, hb0.trans (hb1.mono hb0.size)⟩

theorem lossLaw_met (os : Os) (args : Array Value) : laidMetH Tryd.prog Rows.fnExactTransposeLossRow.laid ((World.laidAll Tryd.prog os Rows.fnExactTransposeLossRow.laid).forCall (fun _ _ => 0) ⟨#[], args, []⟩).memory := by
  rw [MakeChecks.laidMetH_plain _ _ _ (by kernel_rfl)]
  exact laidMet_laidAll _ (by kernel_rfl) (by kernel_rfl)

set_option maxRecDepth 100000 in
theorem lossLaw_lifted (os : Os) (started : os.Started) (H : Type) (enc : TypeId × Value → H) :
    ReturnsInHanded {} Tryd.checked os 5 .any (fun w args => (Rows.fnExactTransposeLossSpec.pre enc Tryd.prog Tryd.f5 [] false w args ∧ laidMetH Tryd.prog Rows.fnExactTransposeLossRow.laid w) ∧ sizedMet enc Tryd.prog Tryd.f5 (OpenSpec.ofChange Rows.fnExactTransposeLossSpec) false w args)
      (Rows.fnExactTransposeLossSpec.post enc Tryd.prog Tryd.f5 false true false false) := by
  refine returnsInHanded_of_change_and (C := Tryd.checked) (X := fun w _ => laidMetH Tryd.prog Rows.fnExactTransposeLossRow.laid w) (fun _ _ _ hh h => h.of_heap hh) Tryd.own started (by kernel_rfl) Tryd.func5
    (ChangeSpec.witness_shaped (enc := enc) (C := Tryd.checked) (os := os) (X := fun w _ => laidMetH Tryd.prog Rows.fnExactTransposeLossRow.laid w) false (World.laidAll Tryd.prog os Rows.fnExactTransposeLossRow.laid) #[.agg #[.slice none 0 0, .int .i64 0], .slice none 0 0, .int .i64 0] 8 (World.laidAll_os _ _ _)
      (World.shaped_of_ZipB (by kernel_rfl) (by kernel_rfl)) (by kernel_rfl) (by kernel_rfl) (by kernel_rfl) (lossLaw_met os _)) ?_
  intro W base args ds gs before hval0 hW _ _ hL _
  have hval : ∀ (j : Nat) t v, Tryd.f5.params[j]? = some t → args[j]? = some v → Value.okWide Tryd.prog W .any base t v := hval0
  have hW' := hW
  have hlt := fun p hp => hW.lt p hp
  obtain ⟨p, q, hA0, hV, rfl, hfz, hnd⟩ := hW
  have hA : DataW.TrodAll enc Tryd.prog W 0 (fun _ => true) true Tryd.f5.params.toList args.toList ds p := hA0
  rw [Tryd.params5] at hA hval
  obtain ⟨v0, v1, v2, d0, d1, d2, p0, p1, p2, rfl, rfl, rfl, h0, h1, h2⟩ := trodAll_three hA
  obtain ⟨A0, l0, c0, r0, rfl, hlc0, hcm0, hRA0⟩ := open_ins (hval 0 24 v0 rfl rfl) h0
  obtain ⟨a1, n1, c01, hv1⟩ := okWide_slice Tryd.underlying32 (hval 1 32 v1 rfl rfl)
  obtain ⟨A1, l1, c1, rfl, hlc1, hcm1, hRA1⟩ := open_notes ⟨a1, n1, c01, hv1⟩ h1 (fun x hx => hlt x (by simp [hx]))
  obtain ⟨b2, rfl, rfl, rfl, wb2⟩ := open_int Tryd.underlying3 (hval 2 3 v2 rfl rfl) h2
  obtain ⟨gg, tt, cc, ff, dd, pp, rfl, hg1, hg2, hg3, hg4, hg5⟩ := trodVars_one hV
  rw [MakeChecks.laidMetH_plain _ _ _ (by kernel_rfl)] at hL
  have hT := lim_of_reads (Lib.laidMet.reads hL (.head _))
  refine (lossLaw_walk A0 l0 c0 r0 A1 l1 c1 b2 W hlc0 hcm0 hRA0 hlc1 hcm1 hRA1 hT).mono fun e W' ⟨he, hw⟩ => ?_
  subst he
  exact ⟨_, rfl, law_postV Tryd.laidOut (by rw [Tryd.params5]; intro t ht; simp at ht; rcases ht with rfl | rfl | rfl <;> exact ⟨by kernel_rfl, of_decide_eq_true (by kernel_rfl)⟩) (by kernel_rfl) rfl rfl Tryd.underlying4 hW' hw⟩

theorem lossLaw_ip : (Rows.fnExactTransposeLossRow.inPlace == Tryd.pinned.checked.prog.inPlace 5) = true := by kernel_rfl
theorem lossLaw_un : (Rows.fnExactTransposeLossRow.unfollowed == Tryd.pinned.checked.prog.unfollowed 5) = true := by kernel_rfl
theorem lossLaw_re : (Rows.fnExactTransposeLossRow.recurses == Tryd.pinned.checked.prog.recurses 5) = true := by kernel_rfl
theorem lossLaw_vn : (Rows.fnExactTransposeLossRow.named == Tryd.pinned.checked.prog.varsNamed 5) = true := by kernel_rfl
theorem lossLaw_named : Tryd.prog.funcNamed "loop.example/g00949/laws.FnExactTransposeLoss" = some 5 := by kernel_rfl
set_option maxRecDepth 100000 in
theorem lossLaw_facts : joinedFacts Tryd.pinned.checked.prog 5 Tryd.f5 Rows.fnExactTransposeLossSpec Rows.fnExactTransposeLossRow = true := by
  unfold joinedFacts
  exact (tt (tt (tt (tt (tt (tt (tt (tt (tt (tt (tt (tt (tt (tt (tt (tt (tt (tt (tt (tt (tt (tt (tt (tt (tt (tt (tt (tt (tt (tt (tt (by kernel_rfl) kLaid) kMaps) (by kernel_rfl)) (by kernel_rfl)) (by kernel_rfl)) kStops) (by kernel_rfl)) kKnobs) lossLaw_ip) lossLaw_un) lossLaw_re) lossLaw_vn) (by kernel_rfl)) (by kernel_rfl)) (by kernel_rfl)) (by kernel_rfl)) (by kernel_rfl)) (by kernel_rfl)) (by kernel_rfl)) (by kernel_rfl)) (by kernel_rfl)) kKeys) (by kernel_rfl)) kHeard) kMay) kLifts) kMake) (by kernel_rfl)) (by kernel_rfl)) (by kernel_rfl)) (by kernel_rfl))

theorem lossLaw_row : Rows.FnExactTransposeLossSaid :=
  OpenClaim.holds_of_wide 5 Tryd.f5 rfl rfl rfl rfl rfl rfl rfl ⟨rfl, rfl, rfl, rfl, rfl⟩ rfl rfl rfl rfl rfl lossLaw_named Tryd.func5 lossLaw_facts
    (of_decide_eq_true (by kernel_rfl)) (by unfold Func.isWrapper; first | (rw [if_pos (by decide +kernel)]; kernel_rfl) | (rw [if_neg (by decide +kernel)]; exact ⟨rfl, rfl⟩))
    (fun os started H enc _ => lossLaw_lifted os started H enc)

theorem lossLaw_goes : false = Rows.fnExactTransposeLossRow.goesBy Tryd.pinned.checked.prog := by kernel_rfl
theorem lossLaw_wf : Rows.fnExactTransposeLossRow.wfByText (OpenSpec.ofChange Rows.fnExactTransposeLossSpec) = true := by kernel_rfl
theorem lossLaw_stand : ([24, 32, 3].all fun u => !Tryd.prog.wantsStandIn u) = true := by kernel_rfl

theorem lossLaw_card : Rows.FnExactTransposeLossCardSaid :=
  Claim7.holds_tied_plain_at .later [] [.data] true Rows.fnExactTransposeLossCard.stood.harness false lossLaw_row (fun _ h => by cases h) lossLaw_wf (fun _ h => by cases h) fnExactTransposeLoss_row_tie rfl ⟨rfl, rfl⟩ kMain rfl
    (fun f fn hf hfn => by
      obtain rfl : f = 5 := Option.some.inj (lossLaw_named.symm.trans hf) |>.symm
      obtain rfl : fn = Tryd.f5 := (Option.some.inj (Tryd.func5.symm.trans hfn)).symm
      exact ⟨kLooks, fun j t ht => by
        rw [Tryd.params5] at ht
        have hm : t ∈ [24, 32, 3] := by simpa using Array.mem_of_getElem? ht
        exact (show Tryd.prog.wantsStandIn t = false by simpa using List.all_eq_true.1 lossLaw_stand t hm)⟩)
    lossLaw_goes
end Go.Proofs.YtbdffmacpajebaaDoor
