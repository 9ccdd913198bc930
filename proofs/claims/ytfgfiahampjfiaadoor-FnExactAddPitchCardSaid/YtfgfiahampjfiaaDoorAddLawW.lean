/- The walk of the law of AddPitch. -/
import Derived.Test.YtfgfiahampjfiaaDoorAdd2
import Derived.Test.YtfgfiahampjfiaaDoorMark
import Derived.Test.YtfgfiahampjfiaaDoorInsO
import Derived.Deep.DeepCutAuto
namespace Go.Proofs.YtfgfiahampjfiaaDoor
open Go.ChangeShapes Go.WideShapes Go.ChangeAt Go.RowKit
set_option linter.unusedVariables false
set_option linter.unusedSimpArgs false

set_option maxRecDepth 100000 in
set_option maxHeartbeats 8000000 in
theorem addLaw_core (A : Option Addr) (l : List Int) (c : Nat) (r p : Int) (w : World) (hlc : l.length ≤ c) (hcm : c ≤ maxLen) (hA : RI w A l) (hL : Lim w) (G : List Int) (q : Int) (ok : Bool) (hG : G.length ≤ 1048576)
    (HS : Hid (∀ (g c : Nat) (W : World), l.length ≤ c → RI W (some ⟨g, 0, none⟩) l → Calls Tryd.prog 45 #[.agg #[.slice (some ⟨g, 0, none⟩) l.length c, .int .i64 r], .int .i64 p] W fun e W' => ∃ v, e = .returned (.tuple #[.agg #[v, .int .i64 q], .bool ok]) ∧ OwnI W' W.heap.size 3 v G ∧ Below W.heap.size W W'))
    (HI : Hid (∀ (g c : Nat) (W : World), l.length ≤ c → RI W (some ⟨g, 0, none⟩) l → Lim W → Calls Tryd.prog 46 #[.agg #[.slice (some ⟨g, 0, none⟩) l.length c, .int .i64 r], .int .i64 p] W fun e W' => ∃ v, e = .returned (.tuple #[.agg #[v, .int .i64 q], .bool ok]) ∧ OwnI W' W.heap.size 3 v G ∧ Below W.heap.size W W'))
    (hbl : l.length ≤ 1048576) :
    Calls Tryd.prog 10 #[.agg #[.slice A l.length c, .int .i64 r], .int .i64 p] w fun e w' => e = .returned (.bool true) ∧ Below w.heap.size w w' := by
  unfold maxLen at hcm
  have hb0 : Below w.heap.size w (w.alloc (.cells #[.slice A l.length c, .int .i64 r] 24)) := (Below.refl w.heap.size w).alloc (Nat.le_refl _) _
  obtain ⟨c0, c1, cz⟩ := Box.new w A l.length c r 24
  have hA := hA.below hb0
  have hL := hL.below hb0
  have hleft : ¬ ((1048576 : Int) - l.length < 0) := by omega
  go_enter Tryd.func10, Tryd.ntmps10
  go_wp2_with fail
  generalize (w.alloc (.cells #[.slice A l.length c, .int .i64 r] 24)) = W at *
  refine (szIns_any _ _ _ _ _ _ (by omega) (by omega) (by omega)).mono ?_
  rintro e w1 ⟨rfl, hBx⟩
  rw [if_neg (by omega)]
  have c0w := (hBx.cell (p := ⟨w.heap.size, 0, none⟩) cz).trans c0
  have c1w := (hBx.cell (p := ⟨w.heap.size, 1, none⟩) cz).trans c1
  go_wp2_with fail
  refine (toIns_any _ _ _ _ _ hbl (hA.below hBx)).mono ?_
  rintro e w2 ⟨ga, hga, rfl, hoa, hb⟩
  have hBx := hBx.trans (hb.mono hBx.size)
  have hz2 := hBx.size
  clear hb c0w c1w
  go_wp2_with fail
  refine (HS.out _ _ _ (Nat.le_refl _) hoa.ra).mono ?_
  rintro e w3 ⟨v0, rfl, hv0, hb⟩
  have hBx := hBx.trans (hb.mono hBx.size)
  have lt0 : ∀ j, v0.ownBlock = some j → W.heap.size ≤ j ∧ j < w3.heap.size := fun j hj => ⟨Nat.le_trans hz2 (hv0.lt j hj).1, (hv0.lt j hj).2⟩
  have LT0 := Lib.hid lt0
  have hz3 := hBx.size
  clear hb hoa lt0
  obtain ⟨A0, k0, hf0, _⟩ := hv0.form2
  subst hf0
  have hbx : Below w3.heap.size w3 (w3.alloc (.cells #[.slice A0 G.length k0, .int .i64 q] 27)) := (Below.refl _ _).alloc (Nat.le_refl _) _
  obtain ⟨B60, B61, B6z⟩ := Box.new w3 A0 G.length k0 q 27
  have c0w := (hbx.cell (p := ⟨w.heap.size, 0, none⟩) (Nat.lt_of_lt_of_le cz hBx.size)).trans ((hBx.cell (p := ⟨w.heap.size, 0, none⟩) cz).trans c0)
  have c1w := (hbx.cell (p := ⟨w.heap.size, 1, none⟩) (Nat.lt_of_lt_of_le cz hBx.size)).trans ((hBx.cell (p := ⟨w.heap.size, 1, none⟩) cz).trans c1)
  go_wp2_with fail
  generalize (w3.alloc (.cells #[.slice A0 G.length k0, .int .i64 q] 27)) = W4 at *
  have hBx := hBx.trans (hbx.mono hBx.size)
  have hv0 := hv0.below hbx (Nat.le_refl _)
  clear hbx
  refine (toIns_any _ _ _ _ _ hbl (hA.below hBx)).mono ?_
  rintro e w5 ⟨g8, hg8, rfl, ho8, hb⟩
  have hz45 := hb.size
  have hBx := hBx.trans (hb.mono hBx.size)
  have hv0 := hv0.below hb (Nat.le_refl _)
  have B60 := (hb.cell (p := ⟨w3.heap.size, 0, none⟩) (by show w3.heap.size < _; omega)).trans B60
  have B61 := (hb.cell (p := ⟨w3.heap.size, 1, none⟩) (by show w3.heap.size < _; omega)).trans B61
  have hz8 : g8 < w5.heap.size := (ho8.lt _ rfl).2
  clear hb c0w c1w
  have hbx : Below w5.heap.size w5 (w5.alloc (.cells #[.slice (some ⟨g8, 0, none⟩) l.length l.length, .int .i64 r] 27)) := (Below.refl _ _).alloc (Nat.le_refl _) _
  obtain ⟨X80, X81, X8z⟩ := Box.new w5 (some ⟨g8, 0, none⟩) l.length l.length r 27
  go_wp2_with fail
  generalize (w5.alloc (.cells #[.slice (some ⟨g8, 0, none⟩) l.length l.length, .int .i64 r] 27)) = W6 at *
  have hBx := hBx.trans (hbx.mono hBx.size)
  have hv0 := hv0.below hbx (Nat.le_refl _)
  have ho8 := ho8.below hbx (Nat.le_refl _)
  have B60 := (hbx.cell (p := ⟨w3.heap.size, 0, none⟩) (by show w3.heap.size < _; omega)).trans B60
  have B61 := (hbx.cell (p := ⟨w3.heap.size, 1, none⟩) (by show w3.heap.size < _; omega)).trans B61
  clear hbx
  refine (HI.out _ _ _ (Nat.le_refl _) ho8.ra (hL.below hBx)).mono ?_
  rintro e w7 ⟨v1, rfl, hv1, hb⟩
  have hz67 := hb.size
  have hBx := hBx.trans (hb.mono hBx.size)
  have hv0 := hv0.below hb (Nat.le_refl _)
  have ho8 := ho8.below hb (Nat.le_refl _)
  have B60 := (hb.cell (p := ⟨w3.heap.size, 0, none⟩) (by show w3.heap.size < _; omega)).trans B60
  have B61 := (hb.cell (p := ⟨w3.heap.size, 1, none⟩) (by show w3.heap.size < _; omega)).trans B61
  have X80 := (hb.cell (p := ⟨w5.heap.size, 0, none⟩) (by show w5.heap.size < _; omega)).trans X80
  have X81 := (hb.cell (p := ⟨w5.heap.size, 1, none⟩) (by show w5.heap.size < _; omega)).trans X81
  have lt1 : ∀ j, v1.ownBlock = some j → W6.heap.size ≤ j ∧ j < w7.heap.size := hv1.lt
  have LT1 := Lib.hid lt1
  clear hb lt1
  obtain ⟨A1, k1, hf1, _⟩ := hv1.form2
  subst hf1
  have hbx : Below w7.heap.size w7 (w7.alloc (.cells #[.slice A1 G.length k1, .int .i64 q] 27)) := (Below.refl _ _).alloc (Nat.le_refl _) _
  obtain ⟨B90, B91, B9z⟩ := Box.new w7 A1 G.length k1 q 27
  have B60 := (hbx.cell (p := ⟨w3.heap.size, 0, none⟩) (by show w3.heap.size < _; omega)).trans B60
  have B61 := (hbx.cell (p := ⟨w3.heap.size, 1, none⟩) (by show w3.heap.size < _; omega)).trans B61
  go_wp2_with fail
  generalize (w7.alloc (.cells #[.slice A1 G.length k1, .int .i64 q] 27)) = W8 at *
  have hBx := hBx.trans (hbx.mono hBx.size)
  have hv0 := hv0.below hbx (Nat.le_refl _)
  have hv1 := hv1.below hbx (Nat.le_refl _)
  have ho8 := ho8.below hbx (Nat.le_refl _)
  have X80 := (hbx.cell (p := ⟨w5.heap.size, 0, none⟩) (by show w5.heap.size < _; omega)).trans X80
  have X81 := (hbx.cell (p := ⟨w5.heap.size, 1, none⟩) (by show w5.heap.size < _; omega)).trans X81
  clear hbx
  refine (eqIns_any _ _ _ _ _ _ _ _ _ (by omega) (by omega) hv1.ra hv0.ra).mono ?_
  rintro e w9 ⟨rfl, hb⟩
  have hz89 := hb.size
  have hBx := hBx.trans (hb.mono hBx.size)
  have hv0 := hv0.below hb (Nat.le_refl _)
  have hv1 := hv1.below hb (Nat.le_refl _)
  have ho8 := ho8.below hb (Nat.le_refl _)
  have B60 := (hb.cell (p := ⟨w3.heap.size, 0, none⟩) (by show w3.heap.size < _; omega)).trans B60
  have B61 := (hb.cell (p := ⟨w3.heap.size, 1, none⟩) (by show w3.heap.size < _; omega)).trans B61
  have X80 := (hb.cell (p := ⟨w5.heap.size, 0, none⟩) (by show w5.heap.size < _; omega)).trans X80
  have X81 := (hb.cell (p := ⟨w5.heap.size, 1, none⟩) (by show w5.heap.size < _; omega)).trans X81
  have B90 := (hb.cell (p := ⟨w7.heap.size, 0, none⟩) (by show w7.heap.size < _; omega)).trans B90
  have B91 := (hb.cell (p := ⟨w7.heap.size, 1, none⟩) (by show w7.heap.size < _; omega)).trans B91
  clear hb
  have c0w := (hBx.cell (p := ⟨w.heap.size, 0, none⟩) cz).trans c0
  have c1w := (hBx.cell (p := ⟨w.heap.size, 1, none⟩) cz).trans c1
  go_upto_region 10 with fail
  have hAd : RI w9.drew A l := hA.below hBx.drew
  have hod : OwnI w9.drew W4.heap.size 3 (.slice (some ⟨g8, 0, none⟩) l.length l.length) l := ho8
  have X0d : w9.drew.cell? ⟨w5.heap.size, 0, none⟩ = some (.slice (some ⟨g8, 0, none⟩) l.length l.length) := X80
  have X1d : w9.drew.cell? ⟨w5.heap.size, 1, none⟩ = some (.int .i64 r) := X81
  have hzd : w5.heap.size < w9.drew.heap.size := by show w5.heap.size < w9.heap.size; omega
  go_cut [49] (fun b wx => b = .bool false ∧ Below w9.heap.size w9 wx)
  case first =>
    go_region_with (first
      | (go_at_call 18; refine (toIns_any _ _ _ _ _ hbl hAd).mono ?_; rintro e wp ⟨gp, hgp, rfl, hop, hbp⟩; have X0p := (hbp.cell (p := ⟨w5.heap.size, 0, none⟩) hzd).trans X0d; have X1p := (hbp.cell (p := ⟨w5.heap.size, 1, none⟩) hzd).trans X1d; have hodp := hod.below hbp (Nat.le_refl _))
      | (go_at_call 20; refine (eqIns_any _ _ _ _ _ _ _ _ _ (by omega) (by omega) hodp.ra hop.ra).mono ?_; rintro e wq ⟨rfl, hbq⟩))
    all_goals
      go_wp2_with fail
      go_meet
      case rel => exact ⟨by simp, ((Below.refl _ _).drew.trans hbp).trans (hbq.mono hbp.size)⟩
  case rest =>
  obtain ⟨rfl, hb⟩ := hcut
  obtain ⟨wa, rfl⟩ : ∃ x, x = wc := ⟨wc, rfl⟩
  have hz9a := hb.size
  have hBx := hBx.trans (hb.mono hBx.size)
  have hv0 := hv0.below hb (Nat.le_refl _)
  have hv1 := hv1.below hb (Nat.le_refl _)
  have ho8 := ho8.below hb (Nat.le_refl _)
  have B60 := (hb.cell (p := ⟨w3.heap.size, 0, none⟩) (by show w3.heap.size < _; omega)).trans B60
  have B61 := (hb.cell (p := ⟨w3.heap.size, 1, none⟩) (by show w3.heap.size < _; omega)).trans B61
  have X80 := (hb.cell (p := ⟨w5.heap.size, 0, none⟩) (by show w5.heap.size < _; omega)).trans X80
  have X81 := (hb.cell (p := ⟨w5.heap.size, 1, none⟩) (by show w5.heap.size < _; omega)).trans X81
  have B90 := (hb.cell (p := ⟨w7.heap.size, 0, none⟩) (by show w7.heap.size < _; omega)).trans B90
  have B91 := (hb.cell (p := ⟨w7.heap.size, 1, none⟩) (by show w7.heap.size < _; omega)).trans B91
  clear hb hAd hod X0d X1d hzd c0w c1w
  go_wp2_with fail
  refine (markIns_any _ l _ r 1 _ _ hbl (by omega) (by omega) ho8).mono ?_
  rintro e wm ⟨rfl, _, hg⟩
  have hBx := hBx.grown hg hBx.size (fun j hj => by simp [Value.ownBlock] at hj; subst hj; omega)
  have hv0 := hv0.grown hg (.inr fun h => by have := LT0.out g8 h; omega)
  have hv1 := hv1.grown hg (.inr fun h => by have := LT1.out g8 h; omega)
  have B60 := hg.cell B60 (by simp [Value.ownBlock]; omega)
  have B61 := hg.cell B61 (by simp [Value.ownBlock]; omega)
  have B90 := hg.cell B90 (by simp [Value.ownBlock]; omega)
  have B91 := hg.cell B91 (by simp [Value.ownBlock]; omega)
  have hzm : wa.heap.size ≤ wm.heap.size := hg.size
  clear hg X80 X81 ho8
  go_wp2_with fail
  refine (eqIns_any _ _ _ _ _ _ _ _ _ (by omega) (by omega) hv1.ra hv0.ra).mono ?_
  rintro e wo ⟨rfl, hb⟩
  have hzo := hb.size
  have hBx := hBx.trans (hb.mono hBx.size)
  have hv0 := hv0.below hb (Nat.le_refl _)
  have hv1 := hv1.below hb (Nat.le_refl _)
  have B60 := (hb.cell (p := ⟨w3.heap.size, 0, none⟩) (by show w3.heap.size < _; omega)).trans B60
  have B61 := (hb.cell (p := ⟨w3.heap.size, 1, none⟩) (by show w3.heap.size < _; omega)).trans B61
  have B90 := (hb.cell (p := ⟨w7.heap.size, 0, none⟩) (by show w7.heap.size < _; omega)).trans B90
  have B91 := (hb.cell (p := ⟨w7.heap.size, 1, none⟩) (by show w7.heap.size < _; omega)).trans B91
  clear hb
  go_wp2_with fail
  refine (markIns_any _ G _ q 1 _ _ hG (by omega) (by omega) hv1).mono ?_
  rintro e wp ⟨rfl, hma, hg⟩
  have hBx := hBx.grown hg hBx.size (fun j hj => by have := LT1.out j hj; omega)
  have hv0 := hv0.grown hg (by
    cases h : (Value.slice A0 G.length k0).ownBlock with
    | none => exact .inl rfl
    | some j => exact .inr fun h' => by have a := LT0.out _ h; have b := LT1.out _ h'.symm; omega)
  have B60 := hg.cell B60 (fun h => by have := LT1.out _ h.symm; simp at this <;> omega)
  have B61 := hg.cell B61 (fun h => by have := LT1.out _ h.symm; simp at this <;> omega)
  have B90 := hg.cell B90 (fun h => by have := LT1.out _ h.symm; simp at this <;> omega)
  have B91 := hg.cell B91 (fun h => by have := LT1.out _ h.symm; simp at this <;> omega)
  have hzp : wo.heap.size ≤ wp.heap.size := hg.size
  clear hg
  go_wp2_with fail
  refine (heldIns_any _ 1 q G.length _ _ hG (by omega) (by omega) hma.ra).mono ?_
  rintro e wq ⟨rfl, hb⟩
  have hzq := hb.size
  have hBx := hBx.trans (hb.mono hBx.size)
  have hv0 := hv0.below hb (Nat.le_refl _)
  have hma := hma.below hb (Nat.le_refl _)
  have B60 := (hb.cell (p := ⟨w3.heap.size, 0, none⟩) (by show w3.heap.size < _; omega)).trans B60
  have B61 := (hb.cell (p := ⟨w3.heap.size, 1, none⟩) (by show w3.heap.size < _; omega)).trans B61
  have B90 := (hb.cell (p := ⟨w7.heap.size, 0, none⟩) (by show w7.heap.size < _; omega)).trans B90
  have B91 := (hb.cell (p := ⟨w7.heap.size, 1, none⟩) (by show w7.heap.size < _; omega)).trans B91
  clear hb
  have c0w := (hBx.cell (p := ⟨w.heap.size, 0, none⟩) cz).trans c0
  have c1w := (hBx.cell (p := ⟨w.heap.size, 1, none⟩) cz).trans c1
  go_wp2_with fail
  refine (toIns_any _ _ _ _ _ hbl (hA.below hBx)).mono ?_
  rintro e wr ⟨gr, hgr, rfl, hor, hb⟩
  have hzr := hb.size
  have hBx := hBx.trans (hb.mono hBx.size)
  have hv0 := hv0.below hb (Nat.le_refl _)
  have hma := hma.below hb (Nat.le_refl _)
  have B60 := (hb.cell (p := ⟨w3.heap.size, 0, none⟩) (by show w3.heap.size < _; omega)).trans B60
  have B61 := (hb.cell (p := ⟨w3.heap.size, 1, none⟩) (by show w3.heap.size < _; omega)).trans B61
  have B90 := (hb.cell (p := ⟨w7.heap.size, 0, none⟩) (by show w7.heap.size < _; omega)).trans B90
  have B91 := (hb.cell (p := ⟨w7.heap.size, 1, none⟩) (by show w7.heap.size < _; omega)).trans B91
  clear hb c0w c1w
  go_wp2_with fail
  refine (HI.out _ _ _ (Nat.le_refl _) hor.ra (hL.below hBx)).mono ?_
  rintro e wd ⟨v2, rfl, hv2, hb⟩
  have hzd := hb.size
  have hBx := hBx.trans (hb.mono hBx.size)
  have hv0 := hv0.below hb (Nat.le_refl _)
  have hma := hma.below hb (Nat.le_refl _)
  have B60 := (hb.cell (p := ⟨w3.heap.size, 0, none⟩) (by show w3.heap.size < _; omega)).trans B60
  have B61 := (hb.cell (p := ⟨w3.heap.size, 1, none⟩) (by show w3.heap.size < _; omega)).trans B61
  have B90 := (hb.cell (p := ⟨w7.heap.size, 0, none⟩) (by show w7.heap.size < _; omega)).trans B90
  have B91 := (hb.cell (p := ⟨w7.heap.size, 1, none⟩) (by show w7.heap.size < _; omega)).trans B91
  clear hb hor
  obtain ⟨A2, k2, hf2, _⟩ := hv2.form2
  subst hf2
  have hbx : Below wd.heap.size wd (wd.alloc (.cells #[.slice A2 G.length k2, .int .i64 q] 27)) := (Below.refl _ _).alloc (Nat.le_refl _) _
  have B60 := (hbx.cell (p := ⟨w3.heap.size, 0, none⟩) (by show w3.heap.size < _; omega)).trans B60
  have B61 := (hbx.cell (p := ⟨w3.heap.size, 1, none⟩) (by show w3.heap.size < _; omega)).trans B61
  have hzde := hbx.size
  go_wp2_with fail
  generalize (wd.alloc (.cells #[.slice A2 G.length k2, .int .i64 q] 27)) = WE at *
  have hBx := hBx.trans (hbx.mono hBx.size)
  have hv0 := hv0.below hbx (Nat.le_refl _)
  have hv2 := hv2.below hbx (Nat.le_refl _)
  have hma := hma.below hbx (Nat.le_refl _)
  have B90 := (hbx.cell (p := ⟨w7.heap.size, 0, none⟩) (by show w7.heap.size < _; omega)).trans B90
  have B91 := (hbx.cell (p := ⟨w7.heap.size, 1, none⟩) (by show w7.heap.size < _; omega)).trans B91
  clear hbx
  refine (eqIns_any _ _ _ _ _ _ _ _ _ (by omega) (by omega) hv2.ra hv0.ra).mono ?_
  rintro e wf ⟨rfl, hb⟩
  have hBx := hBx.trans (hb.mono hBx.size)
  have hma := hma.below hb (Nat.le_refl _)
  have B90 := (hb.cell (p := ⟨w7.heap.size, 0, none⟩) (by show w7.heap.size < _; omega)).trans B90
  have B91 := (hb.cell (p := ⟨w7.heap.size, 1, none⟩) (by show w7.heap.size < _; omega)).trans B91
  clear hb
  go_wp2_with fail
  refine (heldIns_any _ 1 q G.length _ _ hG (by omega) (by omega) hma.ra).mono ?_
  rintro e wg ⟨rfl, hb⟩
  have hBx := hBx.trans (hb.mono hBx.size)
  go_wp2
  go_ret
  exact ⟨rfl, hb0.trans (hBx.mono hb0.size)⟩
end Go.Proofs.YtfgfiahampjfiaaDoor
