/- Proved: for every instrument and every hole, NoteFor of the program answers as the model's, and neither the argument nor anything that was there before the call has turned; the table of limits is tied to the program's own text. No condition. -/
import Derived.Test.YtkfgmkgbicahgaaDoorNoteForLawW
import Derived.Test.YtkfgmkgbicahgaaDoorOpenV
import Derived.Test.YtkfgmkgbicahgaaDoorHHoleOpen
import Derived.Test.YtkfgmkgbicahgaaDoorCardK
import Derived.Lay
import Derived.Lib.SmallJoins
namespace Go.Proofs.YtkfgmkgbicahgaaDoor
open Go.ChangeShapes Go.WideShapes Go.ChangeAt Go.RowKit Go.Joins
set_option linter.unusedVariables false
set_option linter.unusedSimpArgs false

theorem nfR_form (P : List Int) (r : Int) (x : Nt) : ∃ a b c ok, nfR P r x = #[.agg #[.int .i64 a, .int .i64 b, .int .i64 c], .bool ok] := by
  unfold nfR
  split
  · exact noR_form P x
  · exact ⟨_, _, _, _, rfl⟩

set_option maxRecDepth 100000 in
set_option maxHeartbeats 2000000 in
theorem noteForLaw_walk (A : Option Addr) (l : List Int) (c : Nat) (r p s k : Int) (w : World) (hlc : l.length ≤ c) (hcm : c ≤ maxLen) (hA : RI w A l) (hL : Lim w) :
    Calls Tryd.prog 4 #[.agg #[.slice A l.length c, .int .i64 r], .agg #[.int .i64 p, .int .i64 s, .int .i64 k]] w fun e w' => e = .returned (.bool true) ∧ Below w.heap.size w w' := by
  by_cases hbig : l.length ≤ 1048576
  · obtain ⟨a0, b0, d0, ok, hR⟩ := nfR_form l r (p, s, k)
    exact noteForLaw_core A l c r p s k w hlc hcm hA hL a0 b0 d0 ok (Lib.hid hR) hbig
  · unfold maxLen at hcm
    have hleft : (1048576 : Int) - l.length < 0 := by omega
    obtain ⟨W, hW⟩ : ∃ W, W = (w.alloc (.cells #[.slice A l.length c, .int .i64 r] 24)).alloc (.cells #[.int .i64 p, .int .i64 s, .int .i64 k] 39) := ⟨_, rfl⟩
    obtain ⟨hx, hy, hb0, hsz⟩ := entry2 w A l.length c r p s k _ _ W hW
    go_enter Tryd.func4, Tryd.ntmps4
    go_wp2_with fail
    rw [← hW]
    refine (szIns_any _ _ _ _ _ _ (by omega) (by omega) (by omega)).mono ?_
    rintro e w1 ⟨rfl, hb1⟩
    rw [if_pos (by omega)]
    go_wp2
    go_ret
    exact ⟨rfl, hb0.trans (hb1.mono hb0.size)⟩

theorem noteForLaw_met (os : Os) (args : Array Value) : laidMetH Tryd.prog Rows.fnExactNoteForRow.laid ((World.laidAll Tryd.prog os Rows.fnExactNoteForRow.laid).forCall (fun _ _ => 0) ⟨#[], args, []⟩).memory := by
  rw [MakeChecks.laidMetH_plain _ _ _ (by kernel_rfl)]
  exact laidMet_laidAll _ (by kernel_rfl) (by kernel_rfl)

set_option maxRecDepth 100000 in
theorem noteForLaw_lifted (os : Os) (started : os.Started) (H : Type) (enc : TypeId × Value → H) :
    ReturnsInHanded {} Tryd.checked os 4 .any (fun w args => (Rows.fnExactNoteForSpec.pre enc Tryd.prog Tryd.f4 [] false w args ∧ laidMetH Tryd.prog Rows.fnExactNoteForRow.laid w) ∧ sizedMet enc Tryd.prog Tryd.f4 (OpenSpec.ofChange Rows.fnExactNoteForSpec) false w args)
      (Rows.fnExactNoteForSpec.post enc Tryd.prog Tryd.f4 false true false false) := by
  refine returnsInHanded_of_change_and (C := Tryd.checked) (X := fun w _ => laidMetH Tryd.prog Rows.fnExactNoteForRow.laid w) (fun _ _ _ hh h => h.of_heap hh) Tryd.own started (by kernel_rfl) Tryd.func4
    (ChangeSpec.witness_shaped (enc := enc) (C := Tryd.checked) (os := os) (X := fun w _ => laidMetH Tryd.prog Rows.fnExactNoteForRow.laid w) false (World.laidAll Tryd.prog os Rows.fnExactNoteForRow.laid) #[.agg #[.slice none 0 0, .int .i64 0], .agg #[.int .i64 0, .int .i64 0, .int .i64 0]] 8 (World.laidAll_os _ _ _)
      (World.shaped_of_ZipB (by kernel_rfl) (by kernel_rfl)) (by kernel_rfl) (by kernel_rfl) (by kernel_rfl) (noteForLaw_met os _)) ?_
  intro W base args ds gs before hval0 hW _ _ hL _
  have hval : ∀ (j : Nat) t v, Tryd.f4.params[j]? = some t → args[j]? = some v → Value.okWide Tryd.prog W .any base t v := hval0
  have hW' := hW
  have hlt := fun p hp => hW.lt p hp
  obtain ⟨p, q, hA0, hV, rfl, hfz, hnd⟩ := hW
  have hA : DataW.TrodAll enc Tryd.prog W 0 (fun _ => true) true Tryd.f4.params.toList args.toList ds p := hA0
  rw [Tryd.params4] at hA hval
  obtain ⟨v0, v1, d0, d1, p0, p1, rfl, rfl, rfl, h0, h1⟩ := trodAll_two hA
  obtain ⟨A0, l0, c0, r0, rfl, hlc0, hcm0, hRA0⟩ := open_ins (hval 0 24 v0 rfl rfl) h0
  obtain ⟨z0, z1, z2, y0, y1, y2, m_, rfl, rfl, rfl, hy0, hy1, hy2⟩ := open_agg3 Tryd.underlying39 (by kernel_rfl) Go.Proofs.YtkfgmkgbicahgaaDoor.H.Tryd.cellsHoleL (hval 1 39 v1 rfl rfl) h1
  obtain ⟨x0_, f0, rfl, _⟩ := DataW.trod_int Tryd.underlying3 hy0
  obtain ⟨x1_, f1, rfl, _⟩ := DataW.trod_int Tryd.underlying3 hy1
  obtain ⟨x2_, f2, rfl, _⟩ := DataW.trod_int Tryd.underlying3 hy2
  simp at f0 f1 f2
  subst f0 f1 f2
  obtain ⟨gg, tt, cc, ff, dd, pp, rfl, hg1, hg2, hg3, hg4, hg5⟩ := trodVars_one hV
  rw [MakeChecks.laidMetH_plain _ _ _ (by kernel_rfl)] at hL
  have hT := lim_of_reads (Lib.laidMet.reads hL (.head _))
  refine (noteForLaw_walk A0 l0 c0 r0 x0_ x1_ x2_ W hlc0 hcm0 hRA0 hT).mono fun e W' ⟨he, hw⟩ => ?_
  subst he
  exact ⟨_, rfl, law_postV Tryd.laidOut (by rw [Tryd.params4]; intro t ht; simp at ht; rcases ht with rfl | rfl <;> exact ⟨by kernel_rfl, of_decide_eq_true (by kernel_rfl)⟩) (by kernel_rfl) rfl rfl Tryd.underlying4 hW' hw⟩

theorem noteForLaw_ip : (Rows.fnExactNoteForRow.inPlace == Tryd.pinned.checked.prog.inPlace 4) = true := by kernel_rfl
theorem noteForLaw_un : (Rows.fnExactNoteForRow.unfollowed == Tryd.pinned.checked.prog.unfollowed 4) = true := by kernel_rfl
theorem noteForLaw_re : (Rows.fnExactNoteForRow.recurses == Tryd.pinned.checked.prog.recurses 4) = true := by kernel_rfl
theorem noteForLaw_vn : (Rows.fnExactNoteForRow.named == Tryd.pinned.checked.prog.varsNamed 4) = true := by kernel_rfl
theorem noteForLaw_named : Tryd.prog.funcNamed "loop.example/g00949/laws.FnExactNoteFor" = some 4 := by kernel_rfl
set_option maxRecDepth 100000 in
theorem noteForLaw_facts : joinedFacts Tryd.pinned.checked.prog 4 Tryd.f4 Rows.fnExactNoteForSpec Rows.fnExactNoteForRow = true := by
  unfold joinedFacts
  exact (tt (tt (tt (tt (tt (tt (tt (tt (tt (tt (tt (tt (tt (tt (tt (tt (tt (tt (tt (tt (tt (tt (tt (tt (tt (tt (tt (tt (tt (tt (tt (by kernel_rfl) kLaid) kMaps) (by kernel_rfl)) (by kernel_rfl)) (by kernel_rfl)) kStops) (by kernel_rfl)) kKnobs) noteForLaw_ip) noteForLaw_un) noteForLaw_re) noteForLaw_vn) (by kernel_rfl)) (by kernel_rfl)) (by kernel_rfl)) (by kernel_rfl)) (by kernel_rfl)) (by kernel_rfl)) (by kernel_rfl)) (by kernel_rfl)) (by kernel_rfl)) kKeys) (by kernel_rfl)) kHeard) kMay) kLifts) kMake) (by kernel_rfl)) (by kernel_rfl)) (by kernel_rfl)) (by kernel_rfl))

theorem noteForLaw_row : Rows.FnExactNoteForSaid :=
  OpenClaim.holds_of_wide 4 Tryd.f4 rfl rfl rfl rfl rfl rfl rfl ⟨rfl, rfl, rfl, rfl, rfl⟩ rfl rfl rfl rfl rfl noteForLaw_named Tryd.func4 noteForLaw_facts
    (of_decide_eq_true (by kernel_rfl)) (by unfold Func.isWrapper; first | (rw [if_pos (by decide +kernel)]; kernel_rfl) | (rw [if_neg (by decide +kernel)]; exact ⟨rfl, rfl⟩))
    (fun os started H enc _ => noteForLaw_lifted os started H enc)

theorem noteForLaw_goes : false = Rows.fnExactNoteForRow.goesBy Tryd.pinned.checked.prog := by kernel_rfl
theorem noteForLaw_wf : Rows.fnExactNoteForRow.wfByText (OpenSpec.ofChange Rows.fnExactNoteForSpec) = true := by kernel_rfl
theorem noteForLaw_stand : ([24, 39].all fun u => !Tryd.prog.wantsStandIn u) = true := by kernel_rfl

theorem noteForLaw_card : Rows.FnExactNoteForCardSaid :=
  Claim7.holds_tied_plain_at .later [] [.data] true Rows.fnExactNoteForCard.stood.harness false noteForLaw_row (fun _ h => by cases h) noteForLaw_wf (fun _ h => by cases h) fnExactNoteFor_row_tie rfl ⟨rfl, rfl⟩ kMain rfl
    (fun f fn hf hfn => by
      obtain rfl : f = 4 := Option.some.inj (noteForLaw_named.symm.trans hf) |>.symm
      obtain rfl : fn = Tryd.f4 := (Option.some.inj (Tryd.func4.symm.trans hfn)).symm
      exact ⟨kLooks, fun j t ht => by
        rw [Tryd.params4] at ht
        have hm : t ∈ [24, 39] := by simpa using Array.mem_of_getElem? ht
        exact (show Tryd.prog.wantsStandIn t = false by simpa using List.all_eq_true.1 noteForLaw_stand t hm)⟩)
    noteForLaw_goes
end Go.Proofs.YtkfgmkgbicahgaaDoor
