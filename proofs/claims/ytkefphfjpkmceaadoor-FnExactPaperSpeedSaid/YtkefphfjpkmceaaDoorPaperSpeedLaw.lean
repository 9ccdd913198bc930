/- Proved: for every slice of Change values and every two numbers, PaperSpeed of the program answers as the model's, and neither the argument nor anything that was there before the call has turned. No condition. -/
import Derived.Test.YtkefphfjpkmceaaDoorPaper
import Derived.Test.YtkefphfjpkmceaaDoorChangeOpen
import Derived.ChangeVars
namespace Go.Proofs.YtkefphfjpkmceaaDoor
open Go.ChangeShapes Go.WideShapes Go.ChangeAt Go.RowKit
set_option linter.unusedVariables false

set_option maxRecDepth 100000 in
set_option maxHeartbeats 2000000 in
theorem paperSpeedLaw_core (A : Option Addr) (l : List Nt2) (c : Nat) (s_ : Int) (d_ : Int) (w : World) (hlc : l.length ≤ c) (hcm : c ≤ maxLen) (hA : RA2 w A l) (fv : Value) (hz : 0 < w.heap.size) (hF : w.cell? ⟨0, 6, none⟩ = some fv) (va : Int) (vb : Int) (vc : Bool)
    (HS : Hid (∀ (A : Nat) (c : Nat) (W : World), l.length ≤ c → c ≤ 9223372036854775807 → RA2 W (some ⟨A, 0, none⟩) l → Calls Tryd.prog 5 #[.slice (some ⟨A, 0, none⟩) l.length c, .int .i64 s_, .int .i64 d_] W fun e W' => e = .returned (.tuple #[.int .i64 va, .int .i64 vb, .bool vc]) ∧ Below W.heap.size W W'))
    (HI : Hid (∀ (A : Nat) (c : Nat) (W : World), l.length ≤ c → c ≤ 9223372036854775807 → RA2 W (some ⟨A, 0, none⟩) l → 0 < W.heap.size → W.cell? ⟨0, 6, none⟩ = some fv → Calls Tryd.prog 7 #[.slice (some ⟨A, 0, none⟩) l.length c, .int .i64 s_, .int .i64 d_] W fun e W' => e = .returned (.tuple #[.int .i64 va, .int .i64 vb, .bool vc]) ∧ Below W.heap.size W W')) (hbig : l.length ≤ 1048576) :
    Calls Tryd.prog 3 #[.slice A l.length c, .int .i64 s_, .int .i64 d_] w fun e w' => e = .returned (.bool true) ∧ Below w.heap.size w w' := by
  unfold maxLen at hcm
  have hleft : ¬ ((1048576 : Int) - l.length < 0) := by omega
  go_enter Tryd.func3, Tryd.ntmps3
  go_wp2_with fail
  refine (szChangeS_any _ _ _ _ _ (by omega) (by omega) (by omega)).mono ?_
  rintro e w' ⟨rfl, rfl⟩
  rw [if_neg (by omega)]
  go_wp2_with fail
  refine (toChangeS_any _ _ _ _ hbig hA).mono ?_
  rintro e w1 ⟨rfl, ho1, hb1⟩
  go_wp2_with fail
  refine (HS.out _ _ _ (Nat.le_refl _) (by omega) ho1.ra).mono ?_
  rintro e w2 ⟨rfl, hb2⟩
  have hB2 := hb1.trans (hb2.mono hb1.size)
  go_wp2_with fail
  refine (toChangeS_any _ _ _ _ hbig (hA.below hB2)).mono ?_
  rintro e w3 ⟨rfl, ho3, hb3⟩
  have hB3 := hB2.trans (hb3.mono hB2.size)
  go_wp2_with fail
  refine (HI.out _ _ _ (Nat.le_refl _) (by omega) ho3.ra (Nat.lt_of_lt_of_le hz hB3.size) ((hB3.cell (p := ⟨0, 6, none⟩) hz).trans hF)).mono ?_
  rintro e w4 ⟨rfl, hb4⟩
  have hB4 := hB3.trans (hb4.mono hB3.size)
  have ho4 := ho3.below hb4 (Nat.le_refl _)
  go_wp2_with fail
  refine (toChangeS_any _ _ _ _ hbig (hA.below hB4)).mono ?_
  rintro e w5 ⟨rfl, ho5, hb5⟩
  have hB5 := hB4.trans (hb5.mono hB4.size)
  have ho45 := ho4.below hb5 (Nat.le_refl _)
  go_wp2_with fail
  refine (eqChangeS_any _ _ _ _ _ _ _ (by omega) (by omega) ho45.ra ho5.ra).mono ?_
  rintro e w6 ⟨rfl, hb6⟩
  go_wp2
  go_ret
  exact ⟨rfl, hB5.trans (hb6.mono hB5.size)⟩

set_option maxRecDepth 100000 in
set_option maxHeartbeats 1000000 in
theorem paperSpeedLaw_walk (A : Option Addr) (l : List Nt2) (c : Nat) (s_ : Int) (d_ : Int) (w : World) (hlc : l.length ≤ c) (hcm : c ≤ maxLen) (hA : RA2 w A l) (fv : Value) (hz : 0 < w.heap.size) (hF : w.cell? ⟨0, 6, none⟩ = some fv) :
    Calls Tryd.prog 3 #[.slice A l.length c, .int .i64 s_, .int .i64 d_] w fun e w' => e = .returned (.bool true) ∧ Below w.heap.size w w' := by
  by_cases hbig : l.length ≤ 1048576
  · obtain ⟨va, vb, vc, h1, h2⟩ := paperSpeed_both l s_ d_ fv hbig
    exact paperSpeedLaw_core A l c s_ d_ w hlc hcm hA fv hz hF va vb vc h1 h2 hbig
  · unfold maxLen at hcm
    have hleft : (1048576 : Int) - l.length < 0 := by omega
    go_enter Tryd.func3, Tryd.ntmps3
    go_wp2_with fail
    refine (szChangeS_any _ _ _ _ _ (by omega) (by omega) (by omega)).mono ?_
    rintro e w' ⟨rfl, rfl⟩
    rw [if_pos (by omega)]
    go_wp2
    go_ret
    exact ⟨rfl, Below.refl _ _⟩

set_option maxRecDepth 100000 in
theorem paperSpeedLaw_lifted (os : Os) (started : os.Started) (H : Type) (enc : TypeId × Value → H) :
    ReturnsInHanded {} Tryd.checked os 3 .any (Rows.fnExactPaperSpeedSpec.pre6 enc Tryd.prog Tryd.f3 Rows.fnExactPaperSpeedRow.domain false) (Rows.fnExactPaperSpeedSpec.post enc Tryd.prog Tryd.f3 false true false false) := by
  refine returnsInHanded_of_change (C := Tryd.checked) Tryd.own started (by kernel_rfl) Tryd.func3
    (ChangeSpec.witness6 (enc := enc) (C := Tryd.checked) false ⟨#[], #[.slice none 0 0, .int .i64 0, .int .i64 0], []⟩ 8 (by kernel_rfl) (by kernel_rfl) (by kernel_rfl) (by kernel_rfl)) ?_
  intro W base args ds gs before hval0 hW hcnd _
  have hval : ∀ (j : Nat) t v, Tryd.f3.params[j]? = some t → args[j]? = some v → Value.okWide Tryd.prog W .any base t v := hval0
  have hW' := hW
  have hlt := fun p hp => hW.lt p hp
  obtain ⟨p, q, hA0, hV, rfl, hfz, hnd⟩ := hW
  have hA : DataW.TrodAll enc Tryd.prog W 0 (fun _ => true) true Tryd.f3.params.toList args.toList ds p := hA0
  rw [Tryd.params3] at hA hval
  obtain ⟨gN, gt, cs, fuel, gd, gp, rfl, hgn, hgt, hvar, htr, rfl⟩ := trodVars_one hV
  have hg0 : Tryd.prog.globalNamed "loop.example/g00949/impl.factors" = some 0 := by kernel_rfl
  obtain rfl : 0 = gN := Option.some.inj (hg0.symm.trans hgn)
  have hgt0 : (Tryd.prog.globals[0]?).map (·.type) = some 42 := by kernel_rfl
  obtain rfl : 42 = gt := Option.some.inj (hgt0.symm.trans hgt)
  obtain ⟨xs, m, _, _, hlen, _, _⟩ := DataW.trod_array Tryd.underlying42 htr
  rw [show Tryd.prog.cellsOf 42 = 7 from by kernel_rfl] at hlen
  have hcell : ∃ fv, W.cell? ⟨0, 6, none⟩ = some fv ∧ 0 < W.heap.size := by
    replace hvar : World.var? Tryd.prog W "loop.example/g00949/impl.factors" = some cs := hvar
    unfold World.var? at hvar
    rw [hg0] at hvar
    simp only [Option.bind_some] at hvar
    cases hh : W.heap[0]? with
    | none => rw [hh] at hvar; cases hvar
    | some o =>
      rw [hh] at hvar
      cases o with
      | cells cs' e fr =>
        simp only [Option.some.injEq] at hvar
        subst hvar
        refine ⟨cs'[6]'(by simpa using (by omega : 6 < cs'.toList.length)), ?_, (Array.getElem?_eq_some_iff.1 hh).1⟩
        rw [cell_of_row W 0 _ _ _ _ hh]
        exact Array.getElem?_eq_getElem _
      | _ => cases hvar
  obtain ⟨fv, hF, hz⟩ := hcell
  obtain ⟨v0, v1, v2, d0, d1, d2, p0, p1, p2, rfl, rfl, rfl, h0, h1, h2⟩ := trodAll_three hA
  obtain ⟨s_, rfl, rfl, rfl, w1⟩ := open_int Tryd.underlying3 (hval 1 3 v1 rfl rfl) h1
  obtain ⟨d_, rfl, rfl, rfl, w2⟩ := open_int Tryd.underlying3 (hval 2 3 v2 rfl rfl) h2
  obtain ⟨a0, n0, c0, hv0⟩ := okWide_slice Tryd.underlying22 (hval 0 22 v0 rfl rfl)
  obtain ⟨A, l, c, rfl, hlc, hcm, hRA⟩ := open_ChangeS ⟨a0, n0, c0, hv0⟩ h0 (fun x hx => hlt x (by simp [hx]))
  refine (paperSpeedLaw_walk A l c s_ d_ W hlc hcm hRA fv hz hF).mono fun e W' ⟨he, hw⟩ => ?_
  subst he
  exact ⟨_, rfl, law_postV Tryd.laidOut (by rw [Tryd.params3]; intro t ht; simp at ht; rcases ht with rfl | rfl | rfl <;> exact ⟨by kernel_rfl, of_decide_eq_true (by kernel_rfl)⟩) (by kernel_rfl) rfl rfl Tryd.underlying4 hW' hw⟩

theorem paperSpeedLaw_holds : Rows.FnExactPaperSpeedSaid :=
  OpenClaim.holds_of_wide 3 Tryd.f3 rfl rfl rfl rfl rfl rfl rfl ⟨rfl, rfl, rfl, rfl, rfl⟩ rfl rfl rfl rfl rfl (by kernel_rfl) Tryd.func3 (by kernel_rfl)
    (of_decide_eq_true (by kernel_rfl)) (by unfold Func.isWrapper; rw [if_neg (of_decide_eq_false (by kernel_rfl))]; exact ⟨rfl, rfl⟩)
    (fun os started H enc _ => paperSpeedLaw_lifted os started H enc)

end Go.Proofs.YtkefphfjpkmceaaDoor
