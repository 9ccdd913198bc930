/- The walk of the law of CommonPitches. -/
import Derived.Test.YtfgfiahampjfiaaDoorCommon
import Derived.Test.YtfgfiahampjfiaaDoorMark2
import Derived.Test.YtfgfiahampjfiaaDoorInsO
import Derived.Deep.DeepCutAuto
namespace Go.Proofs.YtfgfiahampjfiaaDoor
open Go.ChangeShapes Go.WideShapes Go.ChangeAt Go.RowKit
set_option linter.unusedVariables false
set_option linter.unusedSimpArgs false

theorem below4 {a b c d e : World} (h1 : Below a.heap.size a b) (h2 : Below b.heap.size b c) (h3 : Below c.heap.size c d) (h4 : Below d.heap.size d e) : Below a.heap.size a e :=
  ((h1.trans (h2.mono h1.size)).trans (h3.mono (Nat.le_trans h1.size h2.size))).trans (h4.mono (Nat.le_trans h1.size (Nat.le_trans h2.size h3.size)))

set_option maxRecDepth 100000 in
set_option maxHeartbeats 8000000 in
theorem commonLaw_core (A : Option Addr) (l : List Int) (c : Nat) (r : Int) (B : Option Addr) (m : List Int) (d : Nat) (s : Int) (w : World) (hlc : l.length ≤ c) (hcm : c ≤ maxLen) (hA : RI w A l) (hmd : m.length ≤ d) (hdm : d ≤ maxLen) (hB : RI w B m) (hL : Lim w) (G : List Int) (ok : Bool) (hG : G.length ≤ 1048576)
    (HS : Hid (∀ (A : Option Addr) (c : Nat) (B : Option Addr) (d : Nat) (W : World), RI W A l → RI W B m → Calls Tryd.prog 48 #[.agg #[.slice A l.length c, .int .i64 r], .agg #[.slice B m.length d, .int .i64 s]] W fun e W' => ∃ v, e = .returned (.tuple #[v, .bool ok]) ∧ OwnI W' W.heap.size 3 v G ∧ Below W.heap.size W W'))
    (HI : Hid (∀ (A : Option Addr) (c : Nat) (B : Option Addr) (d : Nat) (W : World), RI W A l → RI W B m → Lim W → Calls Tryd.prog 49 #[.agg #[.slice A l.length c, .int .i64 r], .agg #[.slice B m.length d, .int .i64 s]] W fun e W' => ∃ v, e = .returned (.tuple #[v, .bool ok]) ∧ OwnI W' W.heap.size 3 v G ∧ Below W.heap.size W W'))
    (hbig : l.length + m.length ≤ 1048576) :
    Calls Tryd.prog 11 #[.agg #[.slice A l.length c, .int .i64 r], .agg #[.slice B m.length d, .int .i64 s]] w fun e w' => e = .returned (.bool true) ∧ Below w.heap.size w w' := by
  unfold maxLen at hcm hdm
  have hbl : l.length ≤ 1048576 := by omega
  have hbm : m.length ≤ 1048576 := by omega
  have hb0 : Below w.heap.size w ((w.alloc (.cells #[.slice A l.length c, .int .i64 r] 24)).alloc (.cells #[.slice B m.length d, .int .i64 s] 24)) := ((Below.refl _ _).alloc (Nat.le_refl _) _).alloc (by simp) _
  have hxA : Box ((w.alloc (.cells #[.slice A l.length c, .int .i64 r] 24)).alloc (.cells #[.slice B m.length d, .int .i64 s] 24)) w.heap.size A l.length c r := (Box.new w A l.length c r _).below ((Below.refl _ _).alloc (Nat.le_refl _) _)
  have hxB : Box ((w.alloc (.cells #[.slice A l.length c, .int .i64 r] 24)).alloc (.cells #[.slice B m.length d, .int .i64 s] 24)) (w.heap.size + 1) B m.length d s := by
    rw [show w.heap.size + 1 = (w.alloc (.cells #[.slice A l.length c, .int .i64 r] 24)).heap.size by simp]
    exact Box.new _ B m.length d s _
  have hA := hA.below hb0
  have hB := hB.below hb0
  have hL := hL.below hb0
  have hleft1 : ¬ ((1048576 : Int) - l.length < 0) := by omega
  have hleft2 : ¬ ((1048576 : Int) - l.length - m.length < 0) := by omega
  go_enter Tryd.func11, Tryd.ntmps11
  go_wp2_with fail
  generalize ((w.alloc (.cells #[.slice A l.length c, .int .i64 r] 24)).alloc (.cells #[.slice B m.length d, .int .i64 s] 24)) = W at *
  refine (szIns_any _ _ _ _ _ _ (by omega) (by omega) (by omega)).mono ?_
  rintro e w1 ⟨rfl, hBx⟩
  rw [if_neg (by omega)]
  obtain ⟨c0, c1, cz⟩ := hxA
  obtain ⟨d0, d1, dz⟩ := hxB
  have q0 := (hBx.cell (p := ⟨w.heap.size + 1, 0, none⟩) dz).trans d0
  have q1 := (hBx.cell (p := ⟨w.heap.size + 1, 1, none⟩) dz).trans d1
  go_wp2_with fail
  refine (szIns_any _ _ _ _ _ _ (by omega) (by omega) (by omega)).mono ?_
  rintro e w2 ⟨rfl, hb⟩
  rw [if_neg (by omega)]
  have hBx := hBx.trans (hb.mono hBx.size)
  clear hb q0 q1
  have k0 := (hBx.cell (p := ⟨w.heap.size, 0, none⟩) cz).trans c0
  have k1 := (hBx.cell (p := ⟨w.heap.size, 1, none⟩) cz).trans c1
  have q0 := (hBx.cell (p := ⟨w.heap.size + 1, 0, none⟩) dz).trans d0
  have q1 := (hBx.cell (p := ⟨w.heap.size + 1, 1, none⟩) dz).trans d1
  go_upto_region 8 with fail
  have hAd : RI w2.drew A l := hA.below hBx.drew
  have hBd : RI w2.drew B m := hB.below hBx.drew
  have k0d : w2.drew.cell? ⟨w.heap.size, 0, none⟩ = some (.slice A l.length c) := k0
  have k1d : w2.drew.cell? ⟨w.heap.size, 1, none⟩ = some (.int .i64 r) := k1
  have q0d : w2.drew.cell? ⟨w.heap.size + 1, 0, none⟩ = some (.slice B m.length d) := q0
  have q1d : w2.drew.cell? ⟨w.heap.size + 1, 1, none⟩ = some (.int .i64 s) := q1
  have kzd : w.heap.size < w2.drew.heap.size := Nat.lt_of_lt_of_le cz hBx.size
  have qzd : w.heap.size + 1 < w2.drew.heap.size := Nat.lt_of_lt_of_le dz hBx.size
  have hrd : Below w2.heap.size w2 w2.drew := (Below.refl _ _).drew
  go_cut [6, 7] (fun a b wx => ∃ A0 c0, a = .slice A0 G.length c0 ∧ b = .bool ok ∧ OwnI wx w2.heap.size 3 (.slice A0 G.length c0) G ∧ Below w2.heap.size w2 wx)
  case first =>
    go_region_with (first
      | (go_at_call_of 18 A; refine (toIns_any A l c r _ hbl (by first | exact hAd | exact hAd.below hbQ)).mono ?_; rintro e wP ⟨gP, hgP, rfl, hoP, hbP⟩; have qP0 := (hbP.cell (p := ⟨w.heap.size + 1, 0, none⟩) (by first | exact qzd | exact Nat.lt_of_lt_of_le qzd hbQ.size)).trans (by first | exact q0d | exact (hbQ.cell (p := ⟨w.heap.size + 1, 0, none⟩) qzd).trans q0d); have qP1 := (hbP.cell (p := ⟨w.heap.size + 1, 1, none⟩) (by first | exact qzd | exact Nat.lt_of_lt_of_le qzd hbQ.size)).trans (by first | exact q1d | exact (hbQ.cell (p := ⟨w.heap.size + 1, 1, none⟩) qzd).trans q1d))
      | (go_at_call_of 18 B; refine (toIns_any B m d s _ hbm (by first | exact hBd | exact hBd.below hbP)).mono ?_; rintro e wQ ⟨gQ, hgQ, rfl, hoQ, hbQ⟩; have kQ0 := (hbQ.cell (p := ⟨w.heap.size, 0, none⟩) (by first | exact kzd | exact Nat.lt_of_lt_of_le kzd hbP.size)).trans (by first | exact k0d | exact (hbP.cell (p := ⟨w.heap.size, 0, none⟩) kzd).trans k0d); have kQ1 := (hbQ.cell (p := ⟨w.heap.size, 1, none⟩) (by first | exact kzd | exact Nat.lt_of_lt_of_le kzd hbP.size)).trans (by first | exact k1d | exact (hbP.cell (p := ⟨w.heap.size, 1, none⟩) kzd).trans k1d))
      | (go_at_call 48; refine (HS.out _ _ _ _ _ (by first | exact hoP.ra | exact (hoP.below hbQ (Nat.le_refl _)).ra) (by first | exact hoQ.ra | exact (hoQ.below hbP (Nat.le_refl _)).ra)).mono ?_; rintro e wS ⟨vS, rfl, hvS, hbS⟩; obtain ⟨AS, cS, hfS, hrS⟩ := hvS.form2; subst hfS))
    all_goals
      go_wp2_with fail
      go_meet
      case rel => first
        | exact ⟨AS, cS, rfl, rfl, hvS.mono (Nat.le_trans hrd.size (Nat.le_trans hbP.size hbQ.size)), below4 hrd hbP hbQ hbS⟩
        | exact ⟨AS, cS, rfl, rfl, hvS.mono (Nat.le_trans hrd.size (Nat.le_trans hbQ.size hbP.size)), below4 hrd hbQ hbP hbS⟩
  case rest =>
  obtain ⟨A0, cA0, rfl, rfl, hA0, hb⟩ := hcut
  obtain ⟨w3, rfl⟩ : ∃ x, x = wc := ⟨wc, rfl⟩
  clear hAd hBd k0d k1d q0d q1d kzd qzd hrd k0 k1 q0 q1

  have lt0 : ∀ j, (Value.slice A0 G.length cA0).ownBlock = some j → W.heap.size ≤ j ∧ j < w3.heap.size := fun j hj => ⟨Nat.le_trans hBx.size (hA0.lt j hj).1, (hA0.lt j hj).2⟩
  have LT0 := Lib.hid lt0
  clear lt0
  have hv0 := hA0.mono hBx.size
  have hBx := hBx.trans (hb.mono hBx.size)
  have hzb3 := hBx.size
  clear hb hA0
  have k0 := (hBx.cell (p := ⟨w.heap.size, 0, none⟩) cz).trans c0
  have k1 := (hBx.cell (p := ⟨w.heap.size, 1, none⟩) cz).trans c1
  go_wp2_with fail
  refine (toIns_any _ _ _ _ _ hbl (hA.below hBx)).mono ?_
  rintro e w4 ⟨g4, hg4, rfl, ho4, hb⟩
  have hBx := hBx.trans (hb.mono hBx.size)
  have hv0 := hv0.below hb (Nat.le_refl _)
  have hz44 : g4 < w4.heap.size := (ho4.lt _ rfl).2
  clear hb k0 k1
  have q0 := (hBx.cell (p := ⟨w.heap.size + 1, 0, none⟩) dz).trans d0
  have q1 := (hBx.cell (p := ⟨w.heap.size + 1, 1, none⟩) dz).trans d1
  have hbx : Below w4.heap.size w4 (w4.alloc (.cells #[.slice (some ⟨g4, 0, none⟩) l.length l.length, .int .i64 r] 27)) := (Below.refl _ _).alloc (Nat.le_refl _) _
  obtain ⟨X0, X1, Xz⟩ := Box.new w4 (some ⟨g4, 0, none⟩) l.length l.length r 27
  have q0 := (hbx.cell (p := ⟨w.heap.size + 1, 0, none⟩) (Nat.lt_of_lt_of_le dz hBx.size)).trans q0
  have q1 := (hbx.cell (p := ⟨w.heap.size + 1, 1, none⟩) (Nat.lt_of_lt_of_le dz hBx.size)).trans q1
  go_wp2_with fail
  have hBx := hBx.trans (hbx.mono hBx.size)
  have hv0 := hv0.below hbx (Nat.le_refl _)
  have ho4 := ho4.below hbx (Nat.le_refl _)
  generalize (w4.alloc (.cells #[.slice (some ⟨g4, 0, none⟩) l.length l.length, .int .i64 r] 27)) = W5 at *
  clear hbx
  refine (toIns_any _ _ _ _ _ hbm (hB.below hBx)).mono ?_
  rintro e w6 ⟨g6, hg6, rfl, ho6, hb⟩
  have hz56 := hb.size
  have hBx := hBx.trans (hb.mono hBx.size)
  have hv0 := hv0.below hb (Nat.le_refl _)
  have ho4 := ho4.below hb (Nat.le_refl _)
  have X0 := (hb.cell (p := ⟨w4.heap.size, 0, none⟩) (by show w4.heap.size < _; omega)).trans X0
  have X1 := (hb.cell (p := ⟨w4.heap.size, 1, none⟩) (by show w4.heap.size < _; omega)).trans X1
  have hz66 : g6 < w6.heap.size := (ho6.lt _ rfl).2
  clear hb q0 q1
  have hbx : Below w6.heap.size w6 (w6.alloc (.cells #[.slice (some ⟨g6, 0, none⟩) m.length m.length, .int .i64 s] 27)) := (Below.refl _ _).alloc (Nat.le_refl _) _
  obtain ⟨Y0, Y1, Yz⟩ := Box.new w6 (some ⟨g6, 0, none⟩) m.length m.length s 27
  have X0 := (hbx.cell (p := ⟨w4.heap.size, 0, none⟩) (by show w4.heap.size < _; omega)).trans X0
  have X1 := (hbx.cell (p := ⟨w4.heap.size, 1, none⟩) (by show w4.heap.size < _; omega)).trans X1
  go_wp2_with fail
  have hBx := hBx.trans (hbx.mono hBx.size)
  have hv0 := hv0.below hbx (Nat.le_refl _)
  have ho4 := ho4.below hbx (Nat.le_refl _)
  have ho6 := ho6.below hbx (Nat.le_refl _)
  have hz67 := hbx.size
  generalize (w6.alloc (.cells #[.slice (some ⟨g6, 0, none⟩) m.length m.length, .int .i64 s] 27)) = W7 at *
  clear hbx
  refine (HI.out _ _ _ _ _ ho4.ra ho6.ra (hL.below hBx)).mono ?_
  rintro e w8 ⟨v1, rfl, hv1, hb⟩
  have lt1 : ∀ j, v1.ownBlock = some j → W7.heap.size ≤ j ∧ j < w8.heap.size := hv1.lt
  have LT1 := Lib.hid lt1
  clear lt1
  have hz78 := hb.size
  have hBx := hBx.trans (hb.mono hBx.size)
  have hv0 := hv0.below hb (Nat.le_refl _)
  have ho4 := ho4.below hb (Nat.le_refl _)
  have ho6 := ho6.below hb (Nat.le_refl _)
  have X0 := (hb.cell (p := ⟨w4.heap.size, 0, none⟩) (by show w4.heap.size < _; omega)).trans X0
  have X1 := (hb.cell (p := ⟨w4.heap.size, 1, none⟩) (by show w4.heap.size < _; omega)).trans X1
  have Y0 := (hb.cell (p := ⟨w6.heap.size, 0, none⟩) (by show w6.heap.size < _; omega)).trans Y0
  have Y1 := (hb.cell (p := ⟨w6.heap.size, 1, none⟩) (by show w6.heap.size < _; omega)).trans Y1
  clear hb
  obtain ⟨A1, cA1, hf1, hr1⟩ := hv1.form2
  subst hf1
  go_wp2_with fail
  refine (eqIntS_any _ _ _ _ _ _ _ (by omega) (by omega) hr1 hv0.ra).mono ?_
  rintro e w9 ⟨rfl, hb⟩
  have hz89 := hb.size
  have hBx := hBx.trans (hb.mono hBx.size)
  have hv0 := hv0.below hb (Nat.le_refl _)
  have hv1 := hv1.below hb (Nat.le_refl _)
  have ho4 := ho4.below hb (Nat.le_refl _)
  have ho6 := ho6.below hb (Nat.le_refl _)
  have X0 := (hb.cell (p := ⟨w4.heap.size, 0, none⟩) (by show w4.heap.size < _; omega)).trans X0
  have X1 := (hb.cell (p := ⟨w4.heap.size, 1, none⟩) (by show w4.heap.size < _; omega)).trans X1
  have Y0 := (hb.cell (p := ⟨w6.heap.size, 0, none⟩) (by show w6.heap.size < _; omega)).trans Y0
  have Y1 := (hb.cell (p := ⟨w6.heap.size, 1, none⟩) (by show w6.heap.size < _; omega)).trans Y1
  clear hb hr1
  have k0 := (hBx.cell (p := ⟨w.heap.size, 0, none⟩) cz).trans c0
  have k1 := (hBx.cell (p := ⟨w.heap.size, 1, none⟩) cz).trans c1
  go_upto_region 14 with fail
  have hAd : RI w9.drew A l := hA.below hBx.drew
  have hod : OwnI w9.drew w3.heap.size 3 (.slice (some ⟨g4, 0, none⟩) l.length l.length) l := ho4
  have X0d : w9.drew.cell? ⟨w4.heap.size, 0, none⟩ = some (.slice (some ⟨g4, 0, none⟩) l.length l.length) := X0
  have X1d : w9.drew.cell? ⟨w4.heap.size, 1, none⟩ = some (.int .i64 r) := X1
  have hzd : w4.heap.size < w9.drew.heap.size := by show w4.heap.size < w9.heap.size; omega
  go_cut [58] (fun b wx => b = .bool false ∧ Below w9.heap.size w9 wx)
  case first =>
    go_region_with (first
      | (go_at_call 18; refine (toIns_any _ _ _ _ _ hbl hAd).mono ?_; rintro e wp ⟨gp, hgp, rfl, hop, hbp⟩; have X0p := (hbp.cell (p := ⟨w4.heap.size, 0, none⟩) hzd).trans X0d; have X1p := (hbp.cell (p := ⟨w4.heap.size, 1, none⟩) hzd).trans X1d; have hodp := hod.below hbp (Nat.le_refl _))
      | (go_at_call 20; refine (eqIns_any _ _ _ _ _ _ _ _ _ (by omega) (by omega) hodp.ra hop.ra).mono ?_; rintro e wq ⟨rfl, hbq⟩))
    all_goals
      go_wp2_with fail
      go_meet
      case rel => exact ⟨by simp, ((Below.refl _ _).drew.trans hbp).trans (hbq.mono hbp.size)⟩
  case rest =>
  obtain ⟨rfl, hb⟩ := hcut
  obtain ⟨wa, rfl⟩ : ∃ x, x = wc := ⟨wc, rfl⟩
  have hz9a := hb.size
  have hBx := hBx.trans (hb.mono hBx.size)
  have hv0 := hv0.below hb (Nat.le_refl _)
  have hv1 := hv1.below hb (Nat.le_refl _)
  have ho4 := ho4.below hb (Nat.le_refl _)
  have ho6 := ho6.below hb (Nat.le_refl _)
  have X0 := (hb.cell (p := ⟨w4.heap.size, 0, none⟩) (by show w4.heap.size < _; omega)).trans X0
  have X1 := (hb.cell (p := ⟨w4.heap.size, 1, none⟩) (by show w4.heap.size < _; omega)).trans X1
  have Y0 := (hb.cell (p := ⟨w6.heap.size, 0, none⟩) (by show w6.heap.size < _; omega)).trans Y0
  have Y1 := (hb.cell (p := ⟨w6.heap.size, 1, none⟩) (by show w6.heap.size < _; omega)).trans Y1
  clear hb hAd hod X0d X1d hzd k0 k1
  have q0 := (hBx.cell (p := ⟨w.heap.size + 1, 0, none⟩) dz).trans d0
  have q1 := (hBx.cell (p := ⟨w.heap.size + 1, 1, none⟩) dz).trans d1
  go_upto_region 16 with fail
  have hAd : RI wa.drew B m := hB.below hBx.drew
  have hod : OwnI wa.drew W5.heap.size 3 (.slice (some ⟨g6, 0, none⟩) m.length m.length) m := ho6
  have X0d : wa.drew.cell? ⟨w6.heap.size, 0, none⟩ = some (.slice (some ⟨g6, 0, none⟩) m.length m.length) := Y0
  have X1d : wa.drew.cell? ⟨w6.heap.size, 1, none⟩ = some (.int .i64 s) := Y1
  have hzd : w6.heap.size < wa.drew.heap.size := by show w6.heap.size < wa.heap.size; omega
  go_cut [63] (fun b wx => b = .bool false ∧ Below wa.heap.size wa wx)
  case first =>
    go_region_with (first
      | (go_at_call 18; refine (toIns_any _ _ _ _ _ hbm hAd).mono ?_; rintro e wp ⟨gp, hgp, rfl, hop, hbp⟩; have X0p := (hbp.cell (p := ⟨w6.heap.size, 0, none⟩) hzd).trans X0d; have X1p := (hbp.cell (p := ⟨w6.heap.size, 1, none⟩) hzd).trans X1d; have hodp := hod.below hbp (Nat.le_refl _))
      | (go_at_call 20; refine (eqIns_any _ _ _ _ _ _ _ _ _ (by omega) (by omega) hodp.ra hop.ra).mono ?_; rintro e wq ⟨rfl, hbq⟩))
    all_goals
      go_wp2_with fail
      go_meet
      case rel => exact ⟨by simp, ((Below.refl _ _).drew.trans hbp).trans (hbq.mono hbp.size)⟩
  case rest =>
  obtain ⟨rfl, hb⟩ := hcut
  obtain ⟨wb, rfl⟩ : ∃ x, x = wc := ⟨wc, rfl⟩
  have hzab := hb.size
  have hBx := hBx.trans (hb.mono hBx.size)
  have hv0 := hv0.below hb (Nat.le_refl _)
  have hv1 := hv1.below hb (Nat.le_refl _)
  have ho4 := ho4.below hb (Nat.le_refl _)
  have ho6 := ho6.below hb (Nat.le_refl _)
  have X0 := (hb.cell (p := ⟨w4.heap.size, 0, none⟩) (by show w4.heap.size < _; omega)).trans X0
  have X1 := (hb.cell (p := ⟨w4.heap.size, 1, none⟩) (by show w4.heap.size < _; omega)).trans X1
  have Y0 := (hb.cell (p := ⟨w6.heap.size, 0, none⟩) (by show w6.heap.size < _; omega)).trans Y0
  have Y1 := (hb.cell (p := ⟨w6.heap.size, 1, none⟩) (by show w6.heap.size < _; omega)).trans Y1
  clear hb hAd hod X0d X1d hzd q0 q1
  go_wp2_with fail
  refine (markIns_any _ l _ r 1 _ _ hbl (by omega) (by omega) ho4).mono ?_
  rintro e wm ⟨rfl, _, hg⟩
  have hBx := hBx.grown hg hBx.size (fun j hj => by simp [Value.ownBlock] at hj; subst hj; omega)
  have hv0 := hv0.grown hg (.inr fun h => by have := LT0.out g4 h; omega)
  have hv1 := hv1.grown hg (.inr fun h => by have := LT1.out g4 h; omega)
  have ho6 := ho6.grown hg (.inr (by simp [Value.ownBlock]; omega))
  have Y0 := hg.cell Y0 (by simp [Value.ownBlock]; omega)
  have Y1 := hg.cell Y1 (by simp [Value.ownBlock]; omega)
  clear hg X0 X1 ho4
  go_wp2_with fail
  refine (markIns_wide _ m _ s (1 + (l.length : Int)) _ _ hbm (by omega) (by omega) ho6).mono ?_
  rintro e wn ⟨rfl, _, hg⟩
  have hBx := hBx.grown hg hBx.size (fun j hj => by simp [Value.ownBlock] at hj; subst hj; omega)
  have hv0 := hv0.grown hg (.inr fun h => by have := LT0.out g6 h; omega)
  have hv1 := hv1.grown hg (.inr fun h => by have := LT1.out g6 h; omega)
  clear hg ho6 Y0 Y1
  go_wp2_with fail
  refine (eqIntS_any _ _ _ _ _ _ _ (by omega) (by omega) hv1.ra hv0.ra).mono ?_
  rintro e wo ⟨rfl, hb⟩
  have hBx := hBx.trans (hb.mono hBx.size)
  have hv0 := hv0.below hb (Nat.le_refl _)
  have hv1 := hv1.below hb (Nat.le_refl _)
  clear hb
  go_wp2_with fail
  refine (markIntS_any _ G 1 _ _ hG (by omega) (by omega) hv1).mono ?_
  rintro e wp ⟨rfl, hma, hg⟩
  have hBx := hBx.grown hg hBx.size (fun j hj => by have := LT1.out j hj; omega)
  have hv0 := hv0.grown hg (by
    cases h : (Value.slice A0 G.length cA0).ownBlock with
    | none => exact .inl rfl
    | some j => exact .inr fun h' => by have a := LT0.out _ h; have b := LT1.out _ h'.symm; omega)
  clear hg
  go_wp2_with fail
  refine (heldIntS_any _ 1 G.length _ _ hG (by omega) (by omega) hma.ra).mono ?_
  rintro e wq ⟨rfl, rfl⟩
  have k0 := (hBx.cell (p := ⟨w.heap.size, 0, none⟩) cz).trans c0
  have k1 := (hBx.cell (p := ⟨w.heap.size, 1, none⟩) cz).trans c1
  have q0 := (hBx.cell (p := ⟨w.heap.size + 1, 0, none⟩) dz).trans d0
  have q1 := (hBx.cell (p := ⟨w.heap.size + 1, 1, none⟩) dz).trans d1
  go_upto_region 31 with fail
  have hAd : RI wp.drew A l := hA.below hBx.drew
  have hBd : RI wp.drew B m := hB.below hBx.drew
  have hLd : Lim wp.drew := hL.below hBx.drew
  have k0d : wp.drew.cell? ⟨w.heap.size, 0, none⟩ = some (.slice A l.length c) := k0
  have k1d : wp.drew.cell? ⟨w.heap.size, 1, none⟩ = some (.int .i64 r) := k1
  have q0d : wp.drew.cell? ⟨w.heap.size + 1, 0, none⟩ = some (.slice B m.length d) := q0
  have q1d : wp.drew.cell? ⟨w.heap.size + 1, 1, none⟩ = some (.int .i64 s) := q1
  have kzd : w.heap.size < wp.drew.heap.size := Nat.lt_of_lt_of_le cz hBx.size
  have qzd : w.heap.size + 1 < wp.drew.heap.size := Nat.lt_of_lt_of_le dz hBx.size
  have hrd : Below wp.heap.size wp wp.drew := (Below.refl _ _).drew
  go_cut [15, 16] (fun a b wx => ∃ A0 c0, a = .slice A0 G.length c0 ∧ b = .bool ok ∧ OwnI wx wp.heap.size 3 (.slice A0 G.length c0) G ∧ Below wp.heap.size wp wx)
  case first =>
    go_region_with (first
      | (go_at_call_of 18 A; refine (toIns_any A l c r _ hbl (by first | exact hAd | exact hAd.below hbQ)).mono ?_; rintro e wP ⟨gP, hgP, rfl, hoP, hbP⟩; have qP0 := (hbP.cell (p := ⟨w.heap.size + 1, 0, none⟩) (by first | exact qzd | exact Nat.lt_of_lt_of_le qzd hbQ.size)).trans (by first | exact q0d | exact (hbQ.cell (p := ⟨w.heap.size + 1, 0, none⟩) qzd).trans q0d); have qP1 := (hbP.cell (p := ⟨w.heap.size + 1, 1, none⟩) (by first | exact qzd | exact Nat.lt_of_lt_of_le qzd hbQ.size)).trans (by first | exact q1d | exact (hbQ.cell (p := ⟨w.heap.size + 1, 1, none⟩) qzd).trans q1d))
      | (go_at_call_of 18 B; refine (toIns_any B m d s _ hbm (by first | exact hBd | exact hBd.below hbP)).mono ?_; rintro e wQ ⟨gQ, hgQ, rfl, hoQ, hbQ⟩; have kQ0 := (hbQ.cell (p := ⟨w.heap.size, 0, none⟩) (by first | exact kzd | exact Nat.lt_of_lt_of_le kzd hbP.size)).trans (by first | exact k0d | exact (hbP.cell (p := ⟨w.heap.size, 0, none⟩) kzd).trans k0d); have kQ1 := (hbQ.cell (p := ⟨w.heap.size, 1, none⟩) (by first | exact kzd | exact Nat.lt_of_lt_of_le kzd hbP.size)).trans (by first | exact k1d | exact (hbP.cell (p := ⟨w.heap.size, 1, none⟩) kzd).trans k1d))
      | (go_at_call 49; refine (HI.out _ _ _ _ _ (by first | exact hoP.ra | exact (hoP.below hbQ (Nat.le_refl _)).ra) (by first | exact hoQ.ra | exact (hoQ.below hbP (Nat.le_refl _)).ra) (by first | exact (hLd.below hbP).below hbQ | exact (hLd.below hbQ).below hbP)).mono ?_; rintro e wS ⟨vS, rfl, hvS, hbS⟩; obtain ⟨AS, cS, hfS, hrS⟩ := hvS.form2; subst hfS))
    all_goals
      go_wp2_with fail
      go_meet
      case rel => first
        | exact ⟨AS, cS, rfl, rfl, hvS.mono (Nat.le_trans hrd.size (Nat.le_trans hbP.size hbQ.size)), below4 hrd hbP hbQ hbS⟩
        | exact ⟨AS, cS, rfl, rfl, hvS.mono (Nat.le_trans hrd.size (Nat.le_trans hbQ.size hbP.size)), below4 hrd hbQ hbP hbS⟩
  case rest =>
  obtain ⟨A2, cA2, rfl, rfl, hA2, hb⟩ := hcut
  obtain ⟨wt, rfl⟩ : ∃ x, x = wc := ⟨wc, rfl⟩
  clear hAd hBd k0d k1d q0d q1d kzd qzd hrd k0 k1 q0 q1 hLd
  have hBx := hBx.trans (hb.mono hBx.size)
  have hv0 := hv0.below hb (Nat.le_refl _)
  have hma := hma.below hb (Nat.le_refl _)
  clear hb
  go_wp2_with fail
  refine (eqIntS_any _ _ _ _ _ _ _ (by omega) (by omega) hA2.ra hv0.ra).mono ?_
  rintro e wu ⟨rfl, hb⟩
  have hBx := hBx.trans (hb.mono hBx.size)
  have hma := hma.below hb (Nat.le_refl _)
  clear hb hA2
  go_wp2_with fail
  refine (heldIntS_any _ 1 G.length _ _ hG (by omega) (by omega) hma.ra).mono ?_
  rintro e wv ⟨rfl, rfl⟩
  go_wp2
  go_ret
  exact ⟨rfl, hb0.trans (hBx.mono hb0.size)⟩
end Go.Proofs.YtfgfiahampjfiaaDoor
