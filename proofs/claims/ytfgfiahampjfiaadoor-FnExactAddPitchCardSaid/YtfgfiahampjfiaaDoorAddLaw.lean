/- Proved: for every instrument and every number, AddPitch of the program answers as the model's, in memory of its own, and neither the argument nor anything that was there before the call has turned; the table of limits is tied to the program's own text. No condition. -/
import Derived.Test.YtfgfiahampjfiaaDoorAddLawW
import Derived.Test.YtfgfiahampjfiaaDoorCardK
import Derived.Lay
namespace Go.Proofs.YtfgfiahampjfiaaDoor
open Go.ChangeShapes Go.WideShapes Go.ChangeAt Go.RowKit
set_option linter.unusedVariables false
set_option linter.unusedSimpArgs false

set_option maxRecDepth 100000 in
set_option maxHeartbeats 2000000 in
theorem addLaw_walk (A : Option Addr) (l : List Int) (c : Nat) (r p : Int) (w : World) (hlc : l.length ≤ c) (hcm : c ≤ maxLen) (hA : RI w A l) (hL : Lim w) :
    Calls Tryd.prog 10 #[.agg #[.slice A l.length c, .int .i64 r], .int .i64 p] w fun e w' => e = .returned (.bool true) ∧ Below w.heap.size w w' := by
  by_cases hbl : l.length ≤ 1048576
  · exact addLaw_core A l c r p w hlc hcm hA hL (if addOk l r p = true then putL p l else []) (if addOk l r p = true then r else 0) (addOk l r p)
      (by
        split
        · rename_i h
          have hg : gdI l r = true := by simp [addOk] at h; exact h.1
          have := ((gdI_iff l r).1 hg).1.2
          have := putL_len p l
          omega
        · simp)
      (fun g c W h1 hA => specAdd_any g l c r p W (by omega) h1 hA)
      (fun g c W h1 hA hL => implAdd_any g l c r p W (by omega) h1 hA hL) hbl
  · unfold maxLen at hcm
    have hb0 : Below w.heap.size w (w.alloc (.cells #[.slice A l.length c, .int .i64 r] 24)) := (Below.refl w.heap.size w).alloc (Nat.le_refl _) _
    have hleft : (1048576 : Int) - l.length < 0 := by omega
    go_enter Tryd.func10, Tryd.ntmps10
    go_wp2_with fail
    generalize (w.alloc (.cells #[.slice A l.length c, .int .i64 r] 24)) = W at *
    refine (szIns_any _ _ _ _ _ _ (by omega) (by omega) (by omega)).mono ?_
    rintro e w1 ⟨rfl, hb1⟩
    rw [if_pos (by omega)]
    go_wp2
    go_ret
    exact ⟨rfl, hb0.trans (hb1.mono hb0.size)⟩

theorem addLaw_met (os : Os) (args : Array Value) : laidMetH Tryd.prog Rows.fnExactAddPitchRow.laid ((World.laidAll Tryd.prog os Rows.fnExactAddPitchRow.laid).forCall (fun _ _ => 0) ⟨#[], args, []⟩).memory := by
  rw [MakeChecks.laidMetH_plain _ _ _ (by kernel_rfl)]
  exact laidMet_laidAll _ (by kernel_rfl) (by kernel_rfl)

set_option maxRecDepth 100000 in
theorem addLaw_lifted (os : Os) (started : os.Started) (H : Type) (enc : TypeId × Value → H) :
    ReturnsInHanded {} Tryd.checked os 10 .any (fun w args => (Rows.fnExactAddPitchSpec.pre enc Tryd.prog Tryd.f10 [] false w args ∧ laidMetH Tryd.prog Rows.fnExactAddPitchRow.laid w) ∧ sizedMet enc Tryd.prog Tryd.f10 (OpenSpec.ofChange Rows.fnExactAddPitchSpec) false w args)
      (Rows.fnExactAddPitchSpec.post enc Tryd.prog Tryd.f10 false true false false) := by
  refine returnsInHanded_of_change_and (C := Tryd.checked) (X := fun w _ => laidMetH Tryd.prog Rows.fnExactAddPitchRow.laid w) (fun _ _ _ hh h => h.of_heap hh) Tryd.own started (by kernel_rfl) Tryd.func10
    (ChangeSpec.witness_shaped (enc := enc) (C := Tryd.checked) (os := os) (X := fun w _ => laidMetH Tryd.prog Rows.fnExactAddPitchRow.laid w) false (World.laidAll Tryd.prog os Rows.fnExactAddPitchRow.laid) #[.agg #[.slice none 0 0, .int .i64 0], .int .i64 0] 8 (World.laidAll_os _ _ _)
      (World.shaped_of_ZipB (by kernel_rfl) (by kernel_rfl)) (by kernel_rfl) (by kernel_rfl) (by kernel_rfl) (addLaw_met os _)) ?_
  intro W base args ds gs before hval0 hW _ _ hL _
  have hval : ∀ (j : Nat) t v, Tryd.f10.params[j]? = some t → args[j]? = some v → Value.okWide Tryd.prog W .any base t v := hval0
  have hW' := hW
  have hlt := fun p hp => hW.lt p hp
  obtain ⟨p, q, hA0, hV, rfl, hfz, hnd⟩ := hW
  have hA : DataW.TrodAll enc Tryd.prog W 0 (fun _ => true) true Tryd.f10.params.toList args.toList ds p := hA0
  rw [Tryd.params10] at hA hval
  obtain ⟨v0, v1, d0, d1, p0, p1, rfl, rfl, rfl, h0, h1⟩ := trodAll_two hA
  obtain ⟨A0, l0, c0, r0, rfl, hlc0, hcm0, hRA0⟩ := open_ins (hval 0 24 v0 rfl rfl) h0
  obtain ⟨b1, rfl, rfl, rfl, wb1⟩ := open_int Tryd.underlying3 (hval 1 3 v1 rfl rfl) h1
  obtain ⟨gg, tt, cc, ff, dd, pp, rfl, hg1, hg2, hg3, hg4, hg5⟩ := trodVars_one hV
  rw [MakeChecks.laidMetH_plain _ _ _ (by kernel_rfl)] at hL
  have hT := lim_of_reads (Lib.laidMet.reads hL (.head _))
  refine (addLaw_walk A0 l0 c0 r0 b1 W hlc0 hcm0 hRA0 hT).mono fun e W' ⟨he, hw⟩ => ?_
  subst he
  exact ⟨_, rfl, law_postV Tryd.laidOut (by rw [Tryd.params10]; intro t ht; simp at ht; rcases ht with rfl | rfl <;> exact ⟨by kernel_rfl, of_decide_eq_true (by kernel_rfl)⟩) (by kernel_rfl) rfl rfl Tryd.underlying4 hW' hw⟩

theorem addLaw_ip : (Rows.fnExactAddPitchRow.inPlace == Tryd.pinned.checked.prog.inPlace 10) = true := by kernel_rfl
theorem addLaw_un : (Rows.fnExactAddPitchRow.unfollowed == Tryd.pinned.checked.prog.unfollowed 10) = true := by kernel_rfl
theorem addLaw_re : (Rows.fnExactAddPitchRow.recurses == Tryd.pinned.checked.prog.recurses 10) = true := by kernel_rfl
theorem addLaw_vn : (Rows.fnExactAddPitchRow.named == Tryd.pinned.checked.prog.varsNamed 10) = true := by kernel_rfl
theorem addLaw_named : Tryd.prog.funcNamed "loop.example/g00949/laws.FnExactAddPitch" = some 10 := by kernel_rfl
set_option maxRecDepth 100000 in
theorem addLaw_facts : joinedFacts Tryd.pinned.checked.prog 10 Tryd.f10 Rows.fnExactAddPitchSpec Rows.fnExactAddPitchRow = true := by
  unfold joinedFacts
  exact (tt (tt (tt (tt (tt (tt (tt (tt (tt (tt (tt (tt (tt (tt (tt (tt (tt (tt (tt (tt (tt (tt (tt (tt (tt (tt (tt (tt (tt (tt (tt (by kernel_rfl) kLaid) kMaps) (by kernel_rfl)) (by kernel_rfl)) (by kernel_rfl)) kStops) (by kernel_rfl)) kKnobs) addLaw_ip) addLaw_un) addLaw_re) addLaw_vn) (by kernel_rfl)) (by kernel_rfl)) (by kernel_rfl)) (by kernel_rfl)) (by kernel_rfl)) (by kernel_rfl)) (by kernel_rfl)) (by kernel_rfl)) (by kernel_rfl)) kKeys) (by kernel_rfl)) kHeard) kMay) kLifts) kMake) (by kernel_rfl)) (by kernel_rfl)) (by kernel_rfl)) (by kernel_rfl))

theorem addLaw_row : Rows.FnExactAddPitchSaid :=
  OpenClaim.holds_of_wide 10 Tryd.f10 rfl rfl rfl rfl rfl rfl rfl ⟨rfl, rfl, rfl, rfl, rfl⟩ rfl rfl rfl rfl rfl addLaw_named Tryd.func10 addLaw_facts
    (of_decide_eq_true (by kernel_rfl)) (by unfold Func.isWrapper; first | (rw [if_pos (by decide +kernel)]; kernel_rfl) | (rw [if_neg (by decide +kernel)]; exact ⟨rfl, rfl⟩))
    (fun os started H enc _ => addLaw_lifted os started H enc)

theorem addLaw_goes : false = Rows.fnExactAddPitchRow.goesBy Tryd.pinned.checked.prog := by kernel_rfl
theorem addLaw_wf : Rows.fnExactAddPitchRow.wfByText (OpenSpec.ofChange Rows.fnExactAddPitchSpec) = true := by kernel_rfl
theorem addLaw_stand : ([24, 3].all fun u => !Tryd.prog.wantsStandIn u) = true := by kernel_rfl

theorem addLaw_card : Rows.FnExactAddPitchCardSaid :=
  Claim7.holds_tied_plain_at .later [] [.data] true Rows.fnExactAddPitchCard.stood.harness true addLaw_row (fun _ h => by cases h) addLaw_wf (fun _ h => by cases h) fnExactAddPitch_row_tie rfl ⟨rfl, rfl⟩ kMain rfl
    (fun f fn hf hfn => by
      obtain rfl : f = 10 := Option.some.inj (addLaw_named.symm.trans hf) |>.symm
      obtain rfl : fn = Tryd.f10 := (Option.some.inj (Tryd.func10.symm.trans hfn)).symm
      exact ⟨kLooks, fun j t ht => by
        rw [Tryd.params10] at ht
        have hm : t ∈ [24, 3] := by simpa using Array.mem_of_getElem? ht
        exact (show Tryd.prog.wantsStandIn t = false by simpa using List.all_eq_true.1 addLaw_stand t hm)⟩)
    addLaw_goes
end Go.Proofs.YtfgfiahampjfiaaDoor
