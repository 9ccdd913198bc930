/- Proved: for every slice of Hole values and every Hole, AddHole of the program answers as the model's, in memory of its own, and neither an argument nor anything that was there before the call has turned. No condition. -/
import Derived.Test.YtjjohenpapfabaaAddH
import Derived.Test.YtjjohenpapfabaaHoleOpen
import Derived.Deep.DeepCutAuto
import Derived.Lib.SmallJoins
namespace Go.Proofs.Ytjjohenpapfabaa
open Go.ChangeShapes Go.WideShapes Go.ChangeAt Go.RowKit Go.Joins
set_option linter.unusedVariables false
set_option linter.unusedSimpArgs false

theorem below4SAddHole {a b c d e : World} (h1 : Below a.heap.size a b) (h2 : Below b.heap.size b c) (h3 : Below c.heap.size c d) (h4 : Below d.heap.size d e) : Below a.heap.size a e :=
  ((h1.trans (h2.mono h1.size)).trans (h3.mono (Nat.le_trans h1.size h2.size))).trans (h4.mono (Nat.le_trans h1.size (Nat.le_trans h2.size h3.size)))

set_option maxRecDepth 100000 in
set_option maxHeartbeats 8000000 in
theorem addHoleLaw_core (A : Option Addr) (l : List Nt) (c : Nat) (x0_ x1_ x2_ : Int) (w : World) (hlc : l.length ≤ c) (hcm : c ≤ maxLen) (hA : RA w A l) (G : List Nt) (ok : Bool) (hG : G.length ≤ 1048576)
    (HS : Hid (∀ (A : Nat) (c : Nat) (W : World), l.length ≤ c → c ≤ 9223372036854775807 → RA W (some ⟨A, 0, none⟩) l → Calls Try.prog 30 #[.slice (some ⟨A, 0, none⟩) l.length c, .agg #[.int .i64 x0_, .int .i64 x1_, .int .i64 x2_]] W fun e W' => ∃ v, e = .returned (.tuple #[v, .bool ok]) ∧ Own W' W.heap.size 34 v G ∧ Below W.heap.size W W'))
    (HI : Hid (∀ (A : Nat) (c : Nat) (W : World), l.length ≤ c → c ≤ 9223372036854775807 → RA W (some ⟨A, 0, none⟩) l → Calls Try.prog 31 #[.slice (some ⟨A, 0, none⟩) l.length c, .agg #[.int .i64 x0_, .int .i64 x1_, .int .i64 x2_]] W fun e W' => ∃ v, e = .returned (.tuple #[v, .bool ok]) ∧ Own W' W.heap.size 34 v G ∧ Below W.heap.size W W')) (hbig : l.length ≤ 1048576) :
    Calls Try.prog 6 #[.slice A l.length c, .agg #[.int .i64 x0_, .int .i64 x1_, .int .i64 x2_]] w fun e w' => e = .returned (.bool true) ∧ Below w.heap.size w w' := by
  unfold maxLen at hcm
  have hleft : ¬ ((1048576 : Int) - l.length < 0) := by omega
  have hb0 : Below w.heap.size w (w.alloc (.cells #[.int .i64 x0_, .int .i64 x1_, .int .i64 x2_] 32)) := (Below.refl _ _).alloc (Nat.le_refl _) _
  have c0_ : (w.alloc (.cells #[.int .i64 x0_, .int .i64 x1_, .int .i64 x2_] 32)).cell? ⟨w.heap.size, 0, none⟩ = some (.int .i64 x0_) := (World.cell?_alloc_new w _ _ 0).trans rfl
  have c1_ : (w.alloc (.cells #[.int .i64 x0_, .int .i64 x1_, .int .i64 x2_] 32)).cell? ⟨w.heap.size, 1, none⟩ = some (.int .i64 x1_) := (World.cell?_alloc_new w _ _ 1).trans rfl
  have c2_ : (w.alloc (.cells #[.int .i64 x0_, .int .i64 x1_, .int .i64 x2_] 32)).cell? ⟨w.heap.size, 2, none⟩ = some (.int .i64 x2_) := (World.cell?_alloc_new w _ _ 2).trans rfl
  have cz : w.heap.size < (w.alloc (.cells #[.int .i64 x0_, .int .i64 x1_, .int .i64 x2_] 32)).heap.size := by simp
  have hA := hA.below hb0
  go_enter Try.func6, Try.ntmps6
  go_wp2_with fail
  generalize (w.alloc (.cells #[.int .i64 x0_, .int .i64 x1_, .int .i64 x2_] 32)) = W at *
  refine (szHoleS_any _ _ _ _ _ (by omega) (by omega) (by omega)).mono ?_
  rintro e w' ⟨rfl, rfl⟩
  rw [if_neg (by omega)]
  go_upto_region 5 with fail
  have hAd : RA W.drew A l := hA.drew
  have k0d : W.drew.cell? ⟨w.heap.size, 0, none⟩ = some (.int .i64 x0_) := c0_
  have k1d : W.drew.cell? ⟨w.heap.size, 1, none⟩ = some (.int .i64 x1_) := c1_
  have k2d : W.drew.cell? ⟨w.heap.size, 2, none⟩ = some (.int .i64 x2_) := c2_
  have kzd : w.heap.size < W.drew.heap.size := cz
  have hrd : Below W.heap.size W W.drew := (Below.refl _ _).drew
  go_cut [6, 7] (fun a b wx => ∃ A0 c0, a = .slice A0 G.length c0 ∧ b = .bool ok ∧ Own wx W.heap.size 34 (.slice A0 G.length c0) G ∧ Below W.heap.size W wx)
  case first =>
    go_region_with (first
      | (go_at_call 27; refine (toHoleS_any A l c _ hbig (by first | exact hAd | exact hAd.below hbQ)).mono ?_; rintro e wP ⟨rfl, hoP, hbP⟩; have qP0 := (hbP.cell (p := ⟨w.heap.size, 0, none⟩) (by first | exact kzd | exact Nat.lt_of_lt_of_le kzd hbQ.size)).trans (by first | exact k0d | exact (hbQ.cell (p := ⟨w.heap.size, 0, none⟩) kzd).trans k0d); have qP1 := (hbP.cell (p := ⟨w.heap.size, 1, none⟩) (by first | exact kzd | exact Nat.lt_of_lt_of_le kzd hbQ.size)).trans (by first | exact k1d | exact (hbQ.cell (p := ⟨w.heap.size, 1, none⟩) kzd).trans k1d); have qP2 := (hbP.cell (p := ⟨w.heap.size, 2, none⟩) (by first | exact kzd | exact Nat.lt_of_lt_of_le kzd hbQ.size)).trans (by first | exact k2d | exact (hbQ.cell (p := ⟨w.heap.size, 2, none⟩) kzd).trans k2d))
      | (go_at_call 23; refine (toHole_any _ _ _ _).mono ?_; rintro e wQ ⟨rfl, hbQ⟩)
      | (go_at_call 30; refine (HS.out _ _ _ (Nat.le_refl _) (by omega) (by first | exact hoP.ra | exact (hoP.below hbQ (Nat.le_refl _)).ra)).mono ?_; rintro e wS ⟨vS, rfl, hvS, hbS⟩; obtain ⟨AS, cS, hfS, hrS⟩ := hvS.form; subst hfS))
    all_goals
      go_wp2_with fail
      go_meet
      case rel => first
        | exact ⟨AS, cS, rfl, rfl, hvS.mono (Nat.le_trans hrd.size (Nat.le_trans hbP.size hbQ.size)), below4SAddHole hrd hbP hbQ hbS⟩
        | exact ⟨AS, cS, rfl, rfl, hvS.mono (Nat.le_trans hrd.size (Nat.le_trans hbQ.size hbP.size)), below4SAddHole hrd hbQ hbP hbS⟩
  case rest =>
  obtain ⟨A0, c0, rfl, rfl, hv0, hB2⟩ := hcut
  obtain ⟨w2, rfl⟩ : ∃ x, x = wc := ⟨wc, rfl⟩
  clear hAd k0d k1d k2d kzd hrd
  have lt0 : ∀ j, (Value.slice A0 G.length c0).ownBlock = some j → W.heap.size ≤ j ∧ j < w2.heap.size := hv0.lt
  have LT0 := Lib.hid lt0
  clear lt0
  go_wp2_with fail
  refine (toHoleS_any _ _ _ _ hbig (hA.below hB2)).mono ?_
  rintro e w3 ⟨rfl, ho3, hb3⟩
  have hB3 := hB2.trans (hb3.mono hB2.size)
  have hv0 := hv0.below hb3 (Nat.le_refl _)
  have hz23 : w2.heap.size < w3.heap.size := (ho3.lt _ rfl).2
  have k0 := (hB3.cell (p := ⟨w.heap.size, 0, none⟩) cz).trans c0_
  have k1 := (hB3.cell (p := ⟨w.heap.size, 1, none⟩) cz).trans c1_
  have k2 := (hB3.cell (p := ⟨w.heap.size, 2, none⟩) cz).trans c2_
  go_wp2_with fail
  refine (toHole_any _ _ _ _).mono ?_
  rintro e w3' ⟨rfl, hb3'⟩
  have hB3' := hB3.trans (hb3'.mono hB3.size)
  have hv0 := hv0.below hb3' (Nat.le_refl _)
  have ho3 := ho3.below hb3' (Nat.le_refl _)
  go_wp2_with fail
  refine (HI.out _ _ _ (Nat.le_refl _) (by omega) ho3.ra).mono ?_
  rintro e w4 ⟨v1, rfl, hv1, hb4⟩
  have hB4 := hB3'.trans (hb4.mono hB3'.size)
  have hv0 := hv0.below hb4 (Nat.le_refl _)
  have ho4 := ho3.below hb4 (Nat.le_refl _)
  have lt1 : ∀ j, v1.ownBlock = some j → w3.heap.size ≤ j ∧ j < w4.heap.size := fun j hj => ⟨Nat.le_trans hb3'.size (hv1.lt j hj).1, (hv1.lt j hj).2⟩
  have LT1 := Lib.hid lt1
  clear lt1
  have hr0 := hv0.ra
  obtain ⟨A1, c1, hf1, hr1⟩ := hv1.form
  subst hf1
  go_wp2_with fail
  refine (eqHoleS_any _ _ _ _ _ _ _ (by omega) (by omega) hr1 hr0).mono ?_
  rintro e w5 ⟨rfl, hb5⟩
  have hB5 := hB4.trans (hb5.mono hB4.size)
  have hv0 := hv0.below hb5 (Nat.le_refl _)
  have hv1 := hv1.below hb5 (Nat.le_refl _)
  have ho5 := ho4.below hb5 (Nat.le_refl _)
  clear hr0 hr1
  go_wp2_with fail
  refine (toHoleS_any _ _ _ _ hbig (hA.below hB5)).mono ?_
  rintro e w6 ⟨rfl, ho6, hb6⟩
  have hB6 := hB5.trans (hb6.mono hB5.size)
  have hv0 := hv0.below hb6 (Nat.le_refl _)
  have hv1 := hv1.below hb6 (Nat.le_refl _)
  have ho56 := ho5.below hb6 (Nat.le_refl _)
  go_wp2_with fail
  refine (eqHoleS_any _ _ _ _ _ _ _ (by omega) (by omega) ho56.ra ho6.ra).mono ?_
  rintro e w7 ⟨rfl, hb7⟩
  have hB7 := hB6.trans (hb7.mono hB6.size)
  have hv0 := hv0.below hb7 (Nat.le_refl _)
  have hv1 := hv1.below hb7 (Nat.le_refl _)
  have ho7 := ho56.below hb7 (Nat.le_refl _)
  go_wp2_with fail
  refine (markHoleS_any _ l 1 w2.heap.size _ hbig (by omega) (by omega) ho7).mono ?_
  rintro e w8 ⟨rfl, ho8, hg8⟩
  have hB8 := hB7.grown hg8 hB7.size (fun j hj => by simp [Value.ownBlock] at hj; subst hj; exact hB2.size)
  have hv0 := hv0.grown hg8 (.inr fun h => by have := LT0.out w2.heap.size h; omega)
  have hv1 := hv1.grown hg8 (.inr fun h => by have := LT1.out w2.heap.size h; omega)
  obtain ⟨A0', c0', hf0, hr0⟩ := hv0.form
  obtain ⟨A1', c1', hf1, hr1⟩ := hv1.form
  injection hf0 with e1 e2 e3
  injection hf1 with e4 e5 e6
  subst e1 e3 e4 e6
  clear e2 e5
  go_wp2_with fail
  refine (eqHoleS_any _ _ _ _ _ _ _ (by omega) (by omega) hr1 hr0).mono ?_
  rintro e w9 ⟨rfl, hb9⟩
  have hB9 := hB8.trans (hb9.mono hB8.size)
  have hv0 := hv0.below hb9 (Nat.le_refl _)
  have hv1 := hv1.below hb9 (Nat.le_refl _)
  clear hr0 hr1
  go_wp2_with fail
  refine (markHoleS_any _ G 1 _ _ hG (by omega) (by omega) hv1).mono ?_
  rintro e wa ⟨rfl, hma, hga⟩
  have hBa := hB9.grown hga hB9.size (fun j hj => Nat.le_trans hB3.size (LT1.out j hj).1)
  have hv0 := hv0.grown hga (by
    cases h : (Value.slice A0 G.length c0).ownBlock with
    | none => exact .inl rfl
    | some j => exact .inr fun h' => by have a := LT0.out _ h; have b := LT1.out _ h'.symm; omega)
  have hra := hma
  unfold Own at hra
  go_wp2_with fail
  refine (heldHoleS_any _ 1 G.length _ _ hG (by omega) (by omega) hma.ra).mono ?_
  rintro e w' ⟨rfl, rfl⟩
  clear hra
  have k0 := (hBa.cell (p := ⟨w.heap.size, 0, none⟩) cz).trans c0_
  have k1 := (hBa.cell (p := ⟨w.heap.size, 1, none⟩) cz).trans c1_
  have k2 := (hBa.cell (p := ⟨w.heap.size, 2, none⟩) cz).trans c2_
  go_upto_region 24 with fail
  have hAd : RA wa.drew A l := hA.below hBa.drew
  have k0d : wa.drew.cell? ⟨w.heap.size, 0, none⟩ = some (.int .i64 x0_) := k0
  have k1d : wa.drew.cell? ⟨w.heap.size, 1, none⟩ = some (.int .i64 x1_) := k1
  have k2d : wa.drew.cell? ⟨w.heap.size, 2, none⟩ = some (.int .i64 x2_) := k2
  have kzd : w.heap.size < wa.drew.heap.size := Nat.lt_of_lt_of_le cz hBa.size
  have hrd : Below wa.heap.size wa wa.drew := (Below.refl _ _).drew
  go_cut [14, 15] (fun a b wx => ∃ A0 c0, a = .slice A0 G.length c0 ∧ b = .bool ok ∧ Own wx wa.heap.size 34 (.slice A0 G.length c0) G ∧ Below wa.heap.size wa wx)
  case first =>
    go_region_with (first
      | (go_at_call 27; refine (toHoleS_any A l c _ hbig (by first | exact hAd | exact hAd.below hbQ)).mono ?_; rintro e wP ⟨rfl, hoP, hbP⟩; have qP0 := (hbP.cell (p := ⟨w.heap.size, 0, none⟩) (by first | exact kzd | exact Nat.lt_of_lt_of_le kzd hbQ.size)).trans (by first | exact k0d | exact (hbQ.cell (p := ⟨w.heap.size, 0, none⟩) kzd).trans k0d); have qP1 := (hbP.cell (p := ⟨w.heap.size, 1, none⟩) (by first | exact kzd | exact Nat.lt_of_lt_of_le kzd hbQ.size)).trans (by first | exact k1d | exact (hbQ.cell (p := ⟨w.heap.size, 1, none⟩) kzd).trans k1d); have qP2 := (hbP.cell (p := ⟨w.heap.size, 2, none⟩) (by first | exact kzd | exact Nat.lt_of_lt_of_le kzd hbQ.size)).trans (by first | exact k2d | exact (hbQ.cell (p := ⟨w.heap.size, 2, none⟩) kzd).trans k2d))
      | (go_at_call 23; refine (toHole_any _ _ _ _).mono ?_; rintro e wQ ⟨rfl, hbQ⟩)
      | (go_at_call 31; refine (HI.out _ _ _ (Nat.le_refl _) (by omega) (by first | exact hoP.ra | exact (hoP.below hbQ (Nat.le_refl _)).ra)).mono ?_; rintro e wS ⟨vS, rfl, hvS, hbS⟩; obtain ⟨AS, cS, hfS, hrS⟩ := hvS.form; subst hfS))
    all_goals
      go_wp2_with fail
      go_meet
      case rel => first
        | exact ⟨AS, cS, rfl, rfl, hvS.mono (Nat.le_trans hrd.size (Nat.le_trans hbP.size hbQ.size)), below4SAddHole hrd hbP hbQ hbS⟩
        | exact ⟨AS, cS, rfl, rfl, hvS.mono (Nat.le_trans hrd.size (Nat.le_trans hbQ.size hbP.size)), below4SAddHole hrd hbQ hbP hbS⟩
  case rest =>
  obtain ⟨A2, c2, rfl, rfl, hv2, hbc⟩ := hcut
  obtain ⟨wcc, rfl⟩ : ∃ x, x = wc := ⟨wc, rfl⟩
  have hBc := hBa.trans (hbc.mono hBa.size)
  have hv0 := hv0.below hbc (Nat.le_refl _)
  have hma := hma.below hbc (Nat.le_refl _)
  have hr2 := hv2.ra
  clear hAd k0d k1d k2d kzd hrd k0 k1 k2
  go_wp2_with fail
  refine (eqHoleS_any _ _ _ _ _ _ _ (by omega) (by omega) hr2 hv0.ra).mono ?_
  rintro e wd ⟨rfl, hbd⟩
  have hBd := hBc.trans (hbd.mono hBc.size)
  have hma := hma.below hbd (Nat.le_refl _)
  clear hr2
  go_wp2_with fail
  refine (heldHoleS_any _ 1 G.length _ _ hG (by omega) (by omega) hma.ra).mono ?_
  rintro e w' ⟨rfl, rfl⟩
  go_wp2
  go_ret
  exact ⟨rfl, hb0.trans (hBd.mono hb0.size)⟩

set_option maxRecDepth 100000 in
set_option maxHeartbeats 1000000 in
theorem addHoleLaw_walk (A : Option Addr) (l : List Nt) (c : Nat) (x0_ x1_ x2_ : Int) (w : World) (hlc : l.length ≤ c) (hcm : c ≤ maxLen) (hA : RA w A l) :
    Calls Try.prog 6 #[.slice A l.length c, .agg #[.int .i64 x0_, .int .i64 x1_, .int .i64 x2_]] w fun e w' => e = .returned (.bool true) ∧ Below w.heap.size w w' := by
  by_cases hbig : l.length ≤ 1048576
  · obtain ⟨G, ok, hG, h1, h2⟩ := addHole_both l x0_ x1_ x2_ hbig
    exact addHoleLaw_core A l c x0_ x1_ x2_ w hlc hcm hA G ok hG h1 h2 hbig
  · unfold maxLen at hcm
    have hleft : (1048576 : Int) - l.length < 0 := by omega
    go_enter Try.func6, Try.ntmps6
    go_wp2_with fail
    refine (szHoleS_any _ _ _ _ _ (by omega) (by omega) (by omega)).mono ?_
    rintro e w' ⟨rfl, rfl⟩
    rw [if_pos (by omega)]
    go_wp2
    go_ret
    exact ⟨rfl, (Below.refl _ _).alloc (Nat.le_refl _) _⟩

set_option maxRecDepth 100000 in
theorem addHoleLaw_lifted (os : Os) (started : os.Started) (H : Type) (enc : TypeId × Value → H) :
    ReturnsInHanded {} Try.checked os 6 .any (Rows.fnExactAddHoleSpec.pre6 enc Try.prog Try.f6 Rows.fnExactAddHoleRow.domain false) (Rows.fnExactAddHoleSpec.post enc Try.prog Try.f6 false true false false) := by
  refine returnsInHanded_of_change (C := Try.checked) Try.own started (by kernel_rfl) Try.func6
    (ChangeSpec.witness6 (enc := enc) (C := Try.checked) false ⟨#[], #[.slice none 0 0, .agg #[.int .i64 0, .int .i64 0, .int .i64 0]], []⟩ 8 (by kernel_rfl) (by kernel_rfl) (by kernel_rfl) (by kernel_rfl)) ?_
  intro W base args ds gs before hval0 hW hcnd _
  have hval : ∀ (j : Nat) t v, Try.f6.params[j]? = some t → args[j]? = some v → Value.okWide Try.prog W .any base t v := hval0
  have hW' := hW
  have hlt := fun p hp => hW.lt p hp
  obtain ⟨p, q, hA0, hV, rfl, hfz, hnd⟩ := hW
  have hA : DataW.TrodAll enc Try.prog W 0 (fun _ => true) true Try.f6.params.toList args.toList ds p := hA0
  rw [Try.params6] at hA hval
  obtain ⟨rfl, rfl⟩ := trodVars_none hV
  obtain ⟨v0, v1, d0, d1, p0, p1, rfl, rfl, rfl, h0, h1⟩ := trodAll_two hA
  obtain ⟨e0, e1, e2, y0, y1, y2, m, rfl, rfl, rfl, hy0, hy1, hy2⟩ := open_agg3 Try.underlying32 (by kernel_rfl) Try.cellsHoleL (hval 1 32 v1 rfl rfl) h1
  obtain ⟨x0_, f0, rfl, _⟩ := DataW.trod_int Try.underlying3 hy0
  obtain ⟨x1_, f1, rfl, _⟩ := DataW.trod_int Try.underlying3 hy1
  obtain ⟨x2_, f2, rfl, _⟩ := DataW.trod_int Try.underlying3 hy2
  simp at f0 f1 f2
  subst f0 f1 f2
  obtain ⟨a0, n0, c0, hv0⟩ := okWide_slice Try.underlying37 (hval 0 37 v0 rfl rfl)
  obtain ⟨A, l, c, rfl, hlc, hcm, hRA⟩ := open_HoleS ⟨a0, n0, c0, hv0⟩ h0 (fun x hx => hlt x (by simp [hx]))
  refine (addHoleLaw_walk A l c x0_ x1_ x2_ W hlc hcm hRA).mono fun e W' ⟨he, hw⟩ => ?_
  subst he
  exact ⟨_, rfl, law_post Try.laidOut (by rw [Try.params6]; intro t ht; simp at ht; rcases ht with rfl | rfl <;> exact ⟨by kernel_rfl, of_decide_eq_true (by kernel_rfl)⟩) rfl rfl rfl Try.underlying4 hW' hw⟩

theorem addHoleLaw_holds : Rows.FnExactAddHoleSaid :=
  OpenClaim.holds_of_wide 6 Try.f6 rfl rfl rfl rfl rfl rfl rfl ⟨rfl, rfl, rfl, rfl, rfl⟩ rfl rfl rfl rfl rfl (by kernel_rfl) Try.func6 (by kernel_rfl)
    (of_decide_eq_true (by kernel_rfl)) (by unfold Func.isWrapper; rw [if_neg (of_decide_eq_false (by kernel_rfl))]; exact ⟨rfl, rfl⟩)
    (fun os started H enc _ => addHoleLaw_lifted os started H enc)

end Go.Proofs.Ytjjohenpapfabaa
