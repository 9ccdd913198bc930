/- Proved: for every slice of notes, GreatestRepeat of the program answers as the model's, and neither the argument nor anything that was there before the call has turned. No condition. -/
import Derived.Test.YtecbeicppfcofaaGreat
import Derived.Test.YtecbeicppfcofaaOpen
namespace Go.Proofs.Ytecbeicppfcofaa
open Go.ChangeShapes Go.WideShapes Go.ChangeAt Go.RowKit
set_option linter.unusedVariables false

set_option maxRecDepth 100000 in
set_option maxHeartbeats 2000000 in
theorem greatLaw_walk (A : Option Addr) (l : List Nt) (c : Nat) (w : World) (hlc : l.length ≤ c) (hcm : c ≤ maxLen) (hA : RA w A l) :
    Calls Try.prog 12 #[.slice A l.length c] w fun e w' => e = .returned (.bool true) ∧ Below w.heap.size w w' := by
  unfold maxLen at hcm
  obtain ⟨va, vb, hR⟩ := greatR_form l
  have HR := Lib.hid hR
  clear hR
  by_cases hbig : l.length ≤ 1048576
  · have hleft : ¬ ((1048576 : Int) - l.length < 0) := by omega
    go_enter Try.func12, Try.ntmps12
    go_wp2_with fail
    refine (szNoteS_any _ _ _ _ _ (by omega) (by omega) (by omega)).mono ?_
    rintro e w' ⟨rfl, rfl⟩
    rw [if_neg (by omega)]
    go_wp2_with fail
    refine (toNoteS_any _ _ _ _ hbig hA).mono ?_
    rintro e w1 ⟨rfl, ho1, hb1⟩
    go_wp2_with fail
    refine (specGreatestRepeat_any _ _ _ _ hbig (Nat.le_refl _) (by omega) ho1.ra).mono ?_
    rintro e w2 ⟨rfl, hb2⟩
    rw [HR.out]
    have hB2 := hb1.trans (hb2.mono hb1.size)
    go_wp2_with fail
    refine (toNoteS_any _ _ _ _ hbig (hA.below hB2)).mono ?_
    rintro e w3 ⟨rfl, ho3, hb3⟩
    have hB3 := hB2.trans (hb3.mono hB2.size)
    go_wp2_with fail
    refine (implGreatestRepeat_any _ _ _ _ hbig (Nat.le_refl _) (by omega) ho3.ra).mono ?_
    rintro e w4 ⟨rfl, hb4⟩
    rw [HR.out]
    have hB4 := hB3.trans (hb4.mono hB3.size)
    have ho4 := ho3.below hb4 (Nat.le_refl _)
    go_wp2_with fail
    refine (toNoteS_any _ _ _ _ hbig (hA.below hB4)).mono ?_
    rintro e w5 ⟨rfl, ho5, hb5⟩
    have hB5 := hB4.trans (hb5.mono hB4.size)
    have ho45 := ho4.below hb5 (Nat.le_refl _)
    go_wp2_with fail
    refine (eqNoteS_any _ _ _ _ _ _ _ (by omega) (by omega) ho45.ra ho5.ra).mono ?_
    rintro e w6 ⟨rfl, hb6⟩
    go_wp2
    go_ret
    exact ⟨rfl, hB5.trans (hb6.mono hB5.size)⟩
  · have hleft : (1048576 : Int) - l.length < 0 := by omega
    go_enter Try.func12, Try.ntmps12
    go_wp2_with fail
    refine (szNoteS_any _ _ _ _ _ (by omega) (by omega) (by omega)).mono ?_
    rintro e w' ⟨rfl, rfl⟩
    rw [if_pos (by omega)]
    go_wp2
    go_ret
    exact ⟨rfl, Below.refl _ _⟩

set_option maxRecDepth 100000 in
theorem greatLaw_lifted (os : Os) (started : os.Started) (H : Type) (enc : TypeId × Value → H) :
    ReturnsInHanded {} Try.checked os 12 .any (Rows.fnExactGreatestRepeatSpec.pre6 enc Try.prog Try.f12 Rows.fnExactGreatestRepeatRow.domain false) (Rows.fnExactGreatestRepeatSpec.post enc Try.prog Try.f12 false true false false) := by
  refine returnsInHanded_of_change (C := Try.checked) Try.own started (by kernel_rfl) Try.func12
    (ChangeSpec.witness6 (enc := enc) (C := Try.checked) false ⟨#[], #[.slice none 0 0], []⟩ 8 (by kernel_rfl) (by kernel_rfl) (by kernel_rfl) (by kernel_rfl)) ?_
  intro W base args ds gs before hval0 hW hcnd _
  have hval : ∀ (j : Nat) t v, Try.f12.params[j]? = some t → args[j]? = some v → Value.okWide Try.prog W .any base t v := hval0
  have hW' := hW
  have hlt := fun p hp => hW.lt p hp
  obtain ⟨p, q, hA0, hV, rfl, hfz, hnd⟩ := hW
  have hA : DataW.TrodAll enc Try.prog W 0 (fun _ => true) true Try.f12.params.toList args.toList ds p := hA0
  rw [Try.params12] at hA hval
  obtain ⟨rfl, rfl⟩ := trodVars_none hV
  obtain ⟨v0, d0, rfl, rfl, h0⟩ := trodAll_one hA
  obtain ⟨a0, n0, c0, hv0⟩ := okWide_slice Try.underlying46 (hval 0 46 v0 rfl rfl)
  obtain ⟨A, l, c, rfl, hlc, hcm, hRA⟩ := open_notes ⟨a0, n0, c0, hv0⟩ h0 (fun x hx => hlt x (by simp [hx]))
  refine (greatLaw_walk A l c W hlc hcm hRA).mono fun e W' ⟨he, hw⟩ => ?_
  subst he
  exact ⟨_, rfl, law_post Try.laidOut (by rw [Try.params12]; intro t ht; simp at ht; subst ht; exact ⟨by kernel_rfl, of_decide_eq_true (by kernel_rfl)⟩) rfl rfl rfl Try.underlying4 hW' hw⟩

theorem greatLaw_holds : Rows.FnExactGreatestRepeatSaid :=
  OpenClaim.holds_of_wide 12 Try.f12 rfl rfl rfl rfl rfl rfl rfl ⟨rfl, rfl, rfl, rfl, rfl⟩ rfl rfl rfl rfl rfl (by kernel_rfl) Try.func12 (by kernel_rfl)
    (of_decide_eq_true (by kernel_rfl)) (by unfold Func.isWrapper; rw [if_neg (of_decide_eq_false (by kernel_rfl))]; exact ⟨rfl, rfl⟩)
    (fun os started H enc _ => greatLaw_lifted os started H enc)

end Go.Proofs.Ytecbeicppfcofaa
