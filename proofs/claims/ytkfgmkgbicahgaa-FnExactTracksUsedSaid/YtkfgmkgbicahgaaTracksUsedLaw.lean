/- Proved: for every slice of Hole values, TracksUsed of the program answers as the model's, in memory of its own, and neither the argument nor anything that was there before the call has turned. No condition. -/
import Derived.Test.YtkfgmkgbicahgaaTrk
import Derived.Test.YtkfgmkgbicahgaaIntF
import Derived.Test.YtkfgmkgbicahgaaHoleOpen
namespace Go.Proofs.Ytkfgmkgbicahgaa
open Go.ChangeShapes Go.WideShapes Go.ChangeAt Go.RowKit
set_option linter.unusedVariables false

set_option maxRecDepth 100000 in
set_option maxHeartbeats 4000000 in
theorem tracksUsedLaw_core (A : Option Addr) (l : List Nt) (c : Nat) (w : World) (hlc : l.length ≤ c) (hcm : c ≤ maxLen) (hA : RA w A l) (G : List Int) (ok : Bool) (hG : G.length ≤ 1048576)
    (HS : Hid (∀ (A : Nat) (c : Nat) (W : World), l.length ≤ c → c ≤ 9223372036854775807 → RA W (some ⟨A, 0, none⟩) l → Calls Try.prog 7 #[.slice (some ⟨A, 0, none⟩) l.length c] W fun e W' => ∃ v, e = .returned (.tuple #[v, .bool ok]) ∧ OwnI W' W.heap.size 3 v G ∧ Below W.heap.size W W'))
    (HI : Hid (∀ (A : Nat) (c : Nat) (W : World), l.length ≤ c → c ≤ 9223372036854775807 → RA W (some ⟨A, 0, none⟩) l → Calls Try.prog 9 #[.slice (some ⟨A, 0, none⟩) l.length c] W fun e W' => ∃ v, e = .returned (.tuple #[v, .bool ok]) ∧ OwnI W' W.heap.size 3 v G ∧ Below W.heap.size W W')) (hbig : l.length ≤ 1048576) :
    Calls Try.prog 3 #[.slice A l.length c] w fun e w' => e = .returned (.bool true) ∧ Below w.heap.size w w' := by
  unfold maxLen at hcm
  have hleft : ¬ ((1048576 : Int) - l.length < 0) := by omega
  go_enter Try.func3, Try.ntmps3
  go_wp2_with fail
  refine (szHoleS_any _ _ _ _ _ (by omega) (by omega) (by omega)).mono ?_
  rintro e w' ⟨rfl, rfl⟩
  rw [if_neg (by omega)]
  go_wp2_with fail
  refine (toHoleS_any _ _ _ _ hbig hA).mono ?_
  rintro e w1 ⟨rfl, ho1, hb1⟩
  go_wp2_with fail
  refine (HS.out _ _ _ (Nat.le_refl _) (by omega) ho1.ra).mono ?_
  rintro e w2 ⟨v0, rfl, hv0, hb2⟩
  have hB2 := hb1.trans (hb2.mono hb1.size)
  have lt0 : ∀ j, v0.ownBlock = some j → w.heap.size ≤ j ∧ j < w2.heap.size := fun j hj => ⟨Nat.le_trans hb1.size (hv0.lt j hj).1, (hv0.lt j hj).2⟩
  have LT0 := Lib.hid lt0
  clear lt0
  go_wp2_with fail
  refine (toHoleS_any _ _ _ _ hbig (hA.below hB2)).mono ?_
  rintro e w3 ⟨rfl, ho3, hb3⟩
  have hB3 := hB2.trans (hb3.mono hB2.size)
  have hv0 := hv0.below hb3 (Nat.le_refl _)
  have hz23 : w2.heap.size < w3.heap.size := (ho3.lt _ rfl).2
  go_wp2_with fail
  refine (HI.out _ _ _ (Nat.le_refl _) (by omega) ho3.ra).mono ?_
  rintro e w4 ⟨v1, rfl, hv1, hb4⟩
  have hB4 := hB3.trans (hb4.mono hB3.size)
  have hv0 := hv0.below hb4 (Nat.le_refl _)
  have ho4 := ho3.below hb4 (Nat.le_refl _)
  have lt1 : ∀ j, v1.ownBlock = some j → w3.heap.size ≤ j ∧ j < w4.heap.size := hv1.lt
  have LT1 := Lib.hid lt1
  clear lt1
  obtain ⟨A0, c0, hf0, hr0⟩ := hv0.form2
  obtain ⟨A1, c1, hf1, hr1⟩ := hv1.form2
  subst hf0
  subst hf1
  go_wp2_with fail
  refine (eqIntS_any _ _ _ _ _ _ _ (by omega) (by omega) hr1 hr0).mono ?_
  rintro e w5 ⟨rfl, hb5⟩
  have hB5 := hB4.trans (hb5.mono hB4.size)
  have hv0 := hv0.below hb5 (Nat.le_refl _)
  have hv1 := hv1.below hb5 (Nat.le_refl _)
  have ho5 := ho4.below hb5 (Nat.le_refl _)
  clear hr0 hr1
  go_wp2_with fail
  refine (toHoleS_any _ _ _ _ hbig (hA.below hB5)).mono ?_
  rintro e w6 ⟨rfl, ho6, hb6⟩
  have hB6 := hB5.trans (hb6.mono hB5.size)
  have hv0 := hv0.below hb6 (Nat.le_refl _)
  have hv1 := hv1.below hb6 (Nat.le_refl _)
  have ho56 := ho5.below hb6 (Nat.le_refl _)
  go_wp2_with fail
  refine (eqHoleS_any _ _ _ _ _ _ _ (by omega) (by omega) ho56.ra ho6.ra).mono ?_
  rintro e w7 ⟨rfl, hb7⟩
  have hB7 := hB6.trans (hb7.mono hB6.size)
  have hv0 := hv0.below hb7 (Nat.le_refl _)
  have hv1 := hv1.below hb7 (Nat.le_refl _)
  have ho7 := ho56.below hb7 (Nat.le_refl _)
  go_wp2_with fail
  refine (markHoleS_any _ l 1 w2.heap.size _ hbig (by omega) (by omega) ho7).mono ?_
  rintro e w8 ⟨rfl, ho8, hg8⟩
  have hB8 := hB7.grown hg8 hB7.size (fun j hj => by simp [Value.ownBlock] at hj; subst hj; exact hB2.size)
  have hv0 := hv0.grown hg8 (.inr fun h => by have := LT0.out w2.heap.size h; omega)
  have hv1 := hv1.grown hg8 (.inr fun h => by have := LT1.out w2.heap.size h; omega)
  obtain ⟨A0', c0', hf0, hr0⟩ := hv0.form2
  obtain ⟨A1', c1', hf1, hr1⟩ := hv1.form2
  injection hf0 with e1 e2 e3
  injection hf1 with e4 e5 e6
  subst e1 e3 e4 e6
  clear e2 e5
  go_wp2_with fail
  refine (eqIntS_any _ _ _ _ _ _ _ (by omega) (by omega) hr1 hr0).mono ?_
  rintro e w9 ⟨rfl, hb9⟩
  have hB9 := hB8.trans (hb9.mono hB8.size)
  have hv0 := hv0.below hb9 (Nat.le_refl _)
  have hv1 := hv1.below hb9 (Nat.le_refl _)
  clear hr0 hr1
  go_wp2_with fail
  refine (markIntS_any _ G 1 w3.heap.size _ hG (by omega) (by omega) hv1).mono ?_
  rintro e wa ⟨rfl, hma, hga⟩
  have hBa := hB9.grown hga hB9.size (fun j hj => Nat.le_trans hB3.size (LT1.out j hj).1)
  have hv0 := hv0.grown hga (by
    cases h : (Value.slice A0 G.length c0).ownBlock with
    | none => exact .inl rfl
    | some j => exact .inr fun h' => by have a := LT0.out _ h; have b := LT1.out _ h'.symm; omega)
  have hra := hma
  unfold OwnI at hra
  go_wp2_with fail
  refine (heldIntS_any _ 1 G.length _ _ hG (by omega) (by omega) hma.ra).mono ?_
  rintro e w' ⟨rfl, rfl⟩
  go_wp2_with fail
  refine (toHoleS_any _ _ _ _ hbig (hA.below hBa)).mono ?_
  rintro e wb ⟨rfl, hob, hbb⟩
  have hBb := hBa.trans (hbb.mono hBa.size)
  have hv0 := hv0.below hbb (Nat.le_refl _)
  have hma := hma.below hbb (Nat.le_refl _)
  clear hra
  go_wp2_with fail
  refine (HI.out _ _ _ (Nat.le_refl _) (by omega) hob.ra).mono ?_
  rintro e wc ⟨v2, rfl, hv2, hbc⟩
  have hBc := hBb.trans (hbc.mono hBb.size)
  have hv0 := hv0.below hbc (Nat.le_refl _)
  have hma := hma.below hbc (Nat.le_refl _)
  obtain ⟨A2, c2, hf2, hr2⟩ := hv2.form2
  subst hf2
  go_wp2_with fail
  refine (eqIntS_any _ _ _ _ _ _ _ (by omega) (by omega) hr2 hv0.ra).mono ?_
  rintro e wd ⟨rfl, hbd⟩
  have hBd := hBc.trans (hbd.mono hBc.size)
  have hma := hma.below hbd (Nat.le_refl _)
  clear hr2
  go_wp2_with fail
  refine (heldIntS_any _ 1 G.length _ _ hG (by omega) (by omega) hma.ra).mono ?_
  rintro e w' ⟨rfl, rfl⟩
  go_wp2
  go_ret
  exact ⟨rfl, hBd⟩

set_option maxRecDepth 100000 in
set_option maxHeartbeats 1000000 in
theorem tracksUsedLaw_walk (A : Option Addr) (l : List Nt) (c : Nat) (w : World) (hlc : l.length ≤ c) (hcm : c ≤ maxLen) (hA : RA w A l) :
    Calls Try.prog 3 #[.slice A l.length c] w fun e w' => e = .returned (.bool true) ∧ Below w.heap.size w w' := by
  by_cases hbig : l.length ≤ 1048576
  · obtain ⟨G, ok, hG, h1, h2⟩ := tracksUsed_both l hbig
    exact tracksUsedLaw_core A l c w hlc hcm hA G ok hG h1 h2 hbig
  · unfold maxLen at hcm
    have hleft : (1048576 : Int) - l.length < 0 := by omega
    go_enter Try.func3, Try.ntmps3
    go_wp2_with fail
    refine (szHoleS_any _ _ _ _ _ (by omega) (by omega) (by omega)).mono ?_
    rintro e w' ⟨rfl, rfl⟩
    rw [if_pos (by omega)]
    go_wp2
    go_ret
    exact ⟨rfl, Below.refl _ _⟩

set_option maxRecDepth 100000 in
theorem tracksUsedLaw_lifted (os : Os) (started : os.Started) (H : Type) (enc : TypeId × Value → H) :
    ReturnsInHanded {} Try.checked os 3 .any (Rows.fnExactTracksUsedSpec.pre6 enc Try.prog Try.f3 Rows.fnExactTracksUsedRow.domain false) (Rows.fnExactTracksUsedSpec.post enc Try.prog Try.f3 false true false false) := by
  refine returnsInHanded_of_change (C := Try.checked) Try.own started (by kernel_rfl) Try.func3
    (ChangeSpec.witness6 (enc := enc) (C := Try.checked) false ⟨#[], #[.slice none 0 0], []⟩ 8 (by kernel_rfl) (by kernel_rfl) (by kernel_rfl) (by kernel_rfl)) ?_
  intro W base args ds gs before hval0 hW hcnd _
  have hval : ∀ (j : Nat) t v, Try.f3.params[j]? = some t → args[j]? = some v → Value.okWide Try.prog W .any base t v := hval0
  have hW' := hW
  have hlt := fun p hp => hW.lt p hp
  obtain ⟨p, q, hA0, hV, rfl, hfz, hnd⟩ := hW
  have hA : DataW.TrodAll enc Try.prog W 0 (fun _ => true) true Try.f3.params.toList args.toList ds p := hA0
  rw [Try.params3] at hA hval
  obtain ⟨rfl, rfl⟩ := trodVars_none hV
  obtain ⟨v0, d0, rfl, rfl, h0⟩ := trodAll_one hA
  obtain ⟨a0, n0, c0, hv0⟩ := okWide_slice Try.underlying22 (hval 0 22 v0 rfl rfl)
  obtain ⟨A, l, c, rfl, hlc, hcm, hRA⟩ := open_HoleS ⟨a0, n0, c0, hv0⟩ h0 (fun x hx => hlt x (by simp [hx]))
  refine (tracksUsedLaw_walk A l c W hlc hcm hRA).mono fun e W' ⟨he, hw⟩ => ?_
  subst he
  exact ⟨_, rfl, law_post Try.laidOut (by rw [Try.params3]; intro t ht; simp at ht; subst ht; exact ⟨by kernel_rfl, of_decide_eq_true (by kernel_rfl)⟩) rfl rfl rfl Try.underlying4 hW' hw⟩

theorem tracksUsedLaw_holds : Rows.FnExactTracksUsedSaid :=
  OpenClaim.holds_of_wide 3 Try.f3 rfl rfl rfl rfl rfl rfl rfl ⟨rfl, rfl, rfl, rfl, rfl⟩ rfl rfl rfl rfl rfl (by kernel_rfl) Try.func3 (by kernel_rfl)
    (of_decide_eq_true (by kernel_rfl)) (by unfold Func.isWrapper; rw [if_neg (of_decide_eq_false (by kernel_rfl))]; exact ⟨rfl, rfl⟩)
    (fun os started H enc _ => tracksUsedLaw_lifted os started H enc)

end Go.Proofs.Ytkfgmkgbicahgaa
