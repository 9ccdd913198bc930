/- The walk of the law of NoteFor. -/
import Derived.Test.YtkfgmkgbicahgaaDoorEnt2
import Derived.Test.YtkfgmkgbicahgaaDoorMark
import Derived.Test.YtkfgmkgbicahgaaDoorInsO
import Derived.Test.YtkfgmkgbicahgaaDoorHTwo
import Derived.Test.YtkfgmkgbicahgaaDoorHHoleTwo
import Derived.Test.YtkfgmkgbicahgaaDoorTwo
import Derived.Deep.DeepCutAuto
import Derived.Deep.RegionWith
import Derived.Deep.RegionHeld3
namespace Go.Proofs.YtkfgmkgbicahgaaDoor
open Go.ChangeShapes Go.WideShapes Go.ChangeAt Go.RowKit
set_option linter.unusedVariables false
set_option linter.unusedSimpArgs false

set_option maxRecDepth 100000 in
set_option maxHeartbeats 8000000 in
theorem noteForLaw_core (A : Option Addr) (l : List Int) (c : Nat) (r p s k : Int) (w : World) (hlc : l.length ≤ c) (hcm : c ≤ maxLen) (hA : RI w A l) (hL : Lim w) (a0 b0 d0 : Int) (ok : Bool) (HR : Hid (nfR l r (p, s, k) = #[.agg #[.int .i64 a0, .int .i64 b0, .int .i64 d0], .bool ok])) (hbig : l.length ≤ 1048576) :
    Calls Tryd.prog 4 #[.agg #[.slice A l.length c, .int .i64 r], .agg #[.int .i64 p, .int .i64 s, .int .i64 k]] w fun e w' => e = .returned (.bool true) ∧ Below w.heap.size w w' := by
  unfold maxLen at hcm
  have hleft : ¬ ((1048576 : Int) - l.length < 0) := by omega
  obtain ⟨W, hW⟩ : ∃ W, W = (w.alloc (.cells #[.slice A l.length c, .int .i64 r] 24)).alloc (.cells #[.int .i64 p, .int .i64 s, .int .i64 k] 39) := ⟨_, rfl⟩
  obtain ⟨hx, hy, hb0, hsz⟩ := entry2 w A l.length c r p s k _ _ W hW
  go_enter Tryd.func4, Tryd.ntmps4
  go_wp2_with fail
  rw [← hW]
  clear hW
  refine (szIns_any _ _ _ _ _ _ (by omega) (by omega) (by omega)).mono ?_
  rintro e W1 ⟨rfl, hb1⟩
  rw [if_neg (by omega)]
  have hx := hx.below hb1
  have hy := hy.below hb1
  have hB1 := hb0.trans (hb1.mono hb0.size)
  have hA1 := hA.below hB1
  have hL1 := hL.below hB1
  clear hb1 hb0 hsz hA hL
  go_upto_region 5 with fail
  obtain ⟨x0, x1, xl⟩ := id hx
  obtain ⟨y0, y1, y2, _, _, _, yl⟩ := id hy
  generalize hbw : w.heap.size = b at *
  have nx0 := World.new_ne W1 _ x0
  have ny0 := World.new_ne W1 _ y0
  have hd0 : Below W1.heap.size W1 W1.drew := (Below.refl _ _).drew
  have hd1 : Below W1.heap.size W1 (W1.alloc (.cells #[.int .i64 0, .int .i64 0, .int .i64 0] 34)).drew := ((Below.refl _ _).alloc (Nat.le_refl _) _).drew
  have hz1 : Res3 (W1.alloc (.cells #[.int .i64 0, .int .i64 0, .int .i64 0] 34)).drew W1.heap.size 0 0 0 := (Res3.new W1 0 0 0 34).drew
  go_cut [6, 7] (fun a q wx => ∃ g, a = .pointer (some ⟨g, 0, none⟩) ∧ q = .bool ok ∧ Res3 wx g a0 b0 d0 ∧ W1.heap.size ≤ g ∧ Below W1.heap.size W1 wx)
  case first =>
    go_region_held3 (fun w' => w'.cell? ⟨b, 0, none⟩ = some (.slice A l.length c) ∧ w'.cell? ⟨b, 1, none⟩ = some (.int .i64 r) ∧ w'.cell? ⟨b + 1, 0, none⟩ = some (.int .i64 p) ∧ w'.cell? ⟨b + 1, 1, none⟩ = some (.int .i64 s) ∧ w'.cell? ⟨b + 1, 2, none⟩ = some (.int .i64 k))
      (first | go_keep | exact ⟨xS0, xS1, yS0, yS1, yS2⟩ | exact ⟨xQ0, xQ1, yQ0, yQ1, yQ2⟩ | exact ⟨xP0, xP1, yP0, yP1, yP2⟩)
      (first
      | (go_at_call 11; refine (toIns_any _ _ _ _ _ hbig (by first | with_reducible exact hA1.below hd0 | with_reducible exact hA1.below hd1 | with_reducible exact hA1.below HQ | with_reducible exact hA1.below (HQ.alloc HQ.size _))).mono ?_; rintro e wP ⟨gP, hgP, rfl, hoP, hbP⟩; have HP : Below W1.heap.size W1 wP := (by first | with_reducible exact hd0.trans (hbP.mono hd0.size) | with_reducible exact hd1.trans (hbP.mono hd1.size) | with_reducible exact HQ.trans (hbP.mono HQ.size) | with_reducible exact (HQ.alloc HQ.size _).trans (hbP.mono (HQ.alloc HQ.size _).size)); (first | (with_reducible have HZ : Res3 wP W1.heap.size 0 0 0 := hz1.below hbP) | (with_reducible have HZ := HZ.below hbP) | (with_reducible have HZ : Res3 wP wQ.heap.size 0 0 0 := (Res3.new wQ 0 0 0 34).below hbP) | skip); have hrP := hoP.ra; have xP0 := ((bcell HP).1 b 0 xl).trans x0; have xP1 := ((bcell HP).1 b 1 xl).trans x1; have yP0 := ((bcell HP).1 (b + 1) 0 yl).trans y0; have yP1 := ((bcell HP).1 (b + 1) 1 yl).trans y1; have yP2 := ((bcell HP).1 (b + 1) 2 yl).trans y2; have nxP := World.new_ne wP _ xP0; have nyP := World.new_ne wP _ yP0)
      | (go_at_call 17; refine (H.toHole_any _ _ _ _).mono ?_; rintro e wQ ⟨rfl, hbQ⟩; have HQ : Below W1.heap.size W1 wQ := (by first | with_reducible exact hd0.trans (hbQ.mono hd0.size) | with_reducible exact hd1.trans (hbQ.mono hd1.size) | with_reducible exact HP.trans (hbQ.mono HP.size) | with_reducible exact (HP.alloc HP.size _).trans (hbQ.mono (HP.alloc HP.size _).size)); (first | (with_reducible have HZ : Res3 wQ W1.heap.size 0 0 0 := hz1.below hbQ) | (with_reducible have HZ := HZ.below hbQ) | (with_reducible have HZ : Res3 wQ wP.heap.size 0 0 0 := (Res3.new wP 0 0 0 34).below hbQ) | skip); (first | (with_reducible have hrP := hrP.below hbQ) | (with_reducible have hrP := (hrP.below ((Below.refl _ _).alloc (Nat.le_refl _) (.cells #[.int .i64 0, .int .i64 0, .int .i64 0] 34))).below hbQ) | skip); have xQ0 := ((bcell HQ).1 b 0 xl).trans x0; have xQ1 := ((bcell HQ).1 b 1 xl).trans x1; have yQ0 := ((bcell HQ).1 (b + 1) 0 yl).trans y0; have yQ1 := ((bcell HQ).1 (b + 1) 1 yl).trans y1; have yQ2 := ((bcell HQ).1 (b + 1) 2 yl).trans y2; have nxQ := World.new_ne wQ _ xQ0; have nyQ := World.new_ne wQ _ yQ0)
      | (go_at_call 16; refine (specNote_any _ _ _ _ _ _ _ _ hbig (by first | with_reducible exact hrP | with_reducible exact hrP.below ((Below.refl _ _).alloc (Nat.le_refl _) _))).mono ?_; rintro e wS ⟨rfl, hbS⟩; rw [HR.out]; have HS : Below W1.heap.size W1 wS := (by first | with_reducible exact HQ.trans (hbS.mono HQ.size) | with_reducible exact (HQ.alloc HQ.size _).trans (hbS.mono (HQ.alloc HQ.size _).size) | with_reducible exact HP.trans (hbS.mono HP.size) | with_reducible exact (HP.alloc HP.size _).trans (hbS.mono (HP.alloc HP.size _).size)); (first | (with_reducible have HZ : Res3 wS W1.heap.size 0 0 0 := hz1.below hbS) | (with_reducible have HZ := HZ.below hbS) | (with_reducible have HZ : Res3 wS wQ.heap.size 0 0 0 := (Res3.new wQ 0 0 0 34).below hbS) | (with_reducible have HZ : Res3 wS wP.heap.size 0 0 0 := (Res3.new wP 0 0 0 34).below hbS) | (have HZ := Res3.new wS 0 0 0 34)); have q0 := HZ.c0; have q1 := HZ.c1; have q2 := HZ.c2; have p0 := HZ.f0; have p1 := HZ.f1; have p2 := HZ.f2; have xS0 := ((bcell HS).1 b 0 xl).trans x0; have xS1 := ((bcell HS).1 b 1 xl).trans x1; have yS0 := ((bcell HS).1 (b + 1) 0 yl).trans y0; have yS1 := ((bcell HS).1 (b + 1) 1 yl).trans y1; have yS2 := ((bcell HS).1 (b + 1) 2 yl).trans y2; have nxS := World.new_ne wS _ xS0; have nyS := World.new_ne wS _ yS0))
    all_goals
      go_wp2_with fail
      go_meet
      case rel =>
        first
        | exact ⟨_, rfl, rfl, Res3.new wS a0 b0 d0 34, HS.size, HS.alloc HS.size _⟩
        | exact ⟨_, rfl, rfl, (show Res3 wS _ 0 0 0 from ⟨q0, q1, q2, p0, p1, p2, World.block_lt_of_cell? _ _ q0⟩).set, by first | exact Nat.le_refl _ | exact HP.size | exact HQ.size, Below.set3 HS (by first | exact Nat.le_refl _ | exact HP.size | exact HQ.size) _ _ _⟩
  case rest =>
  obtain ⟨g1, rfl, rfl, hr1, hg1, hbc⟩ := hcut
  have hx := hx.below hbc
  have hy := hy.below hbc
  have hA2 := hA1.below hbc
  have hL2 := hL1.below hbc
  have hbl : b ≤ W1.heap.size := by omega
  have hB2 := hB1.trans (hbc.mono hbl)
  clear x0 x1 xl y0 y1 y2 yl nx0 ny0 hd0 hd1 hz1 hbc hA1 hL1 hB1
  obtain ⟨x0, x1, xl⟩ := id hx
  go_wp2_with fail
  refine (toIns_any _ _ _ _ _ hbig hA2).mono ?_
  rintro e w4 ⟨g4, hg4, rfl, ho4, hb4⟩
  have hx := hx.below hb4
  have hy := hy.below hb4
  have hr1 := hr1.below hb4
  have hA4 := hA2.below hb4
  have hL4 := hL2.below hb4
  have hB4 := hB2.trans (hb4.mono (by omega))
  have hbx : Below w4.heap.size w4 (w4.alloc (.cells #[.slice (some ⟨g4, 0, none⟩) l.length l.length, .int .i64 r] 32)) := (Below.refl _ _).alloc (Nat.le_refl _) _
  have hX := Box.new w4 (some ⟨g4, 0, none⟩) l.length l.length r 32
  have hri := ho4.ra.below hbx
  have hx := hx.below hbx
  have hy := hy.below hbx
  have hr1 := hr1.below hbx
  have hA5 := hA4.below hbx
  have hL5 := hL4.below hbx
  have hB5 := hB4.trans (hbx.mono (by have := hb4.size; omega))
  clear x0 x1 xl hb4 hbx hA2 hL2 hA4 hL4 hB2 hB4 ho4 hg4
  go_upto_region 7 with fail
  generalize w4.alloc (.cells #[.slice (some ⟨g4, 0, none⟩) l.length l.length, .int .i64 r] 32) = W5 at *
  generalize w4.heap.size = gx at *
  obtain ⟨x0, x1, xl⟩ := id hX
  obtain ⟨y0, y1, y2, _, _, _, yl⟩ := id hy
  have nx0 := World.new_ne W5 _ x0
  have ny0 := World.new_ne W5 _ y0
  have hd0 : Below W5.heap.size W5 W5.drew := (Below.refl _ _).drew
  have hd1 : Below W5.heap.size W5 (W5.alloc (.cells #[.int .i64 0, .int .i64 0, .int .i64 0] 34)).drew := ((Below.refl _ _).alloc (Nat.le_refl _) _).drew
  have hz1 : Res3 (W5.alloc (.cells #[.int .i64 0, .int .i64 0, .int .i64 0] 34)).drew W5.heap.size 0 0 0 := (Res3.new W5 0 0 0 34).drew
  go_cut [9, 10] (fun a q wx => ∃ g, a = .pointer (some ⟨g, 0, none⟩) ∧ q = .bool ok ∧ Res3 wx g a0 b0 d0 ∧ W5.heap.size ≤ g ∧ Below W5.heap.size W5 wx)
  case first =>
    go_region_held3 (fun w' => w'.cell? ⟨gx, 0, none⟩ = some (.slice (some ⟨g4, 0, none⟩) l.length l.length) ∧ w'.cell? ⟨gx, 1, none⟩ = some (.int .i64 r) ∧ w'.cell? ⟨b + 1, 0, none⟩ = some (.int .i64 p) ∧ w'.cell? ⟨b + 1, 1, none⟩ = some (.int .i64 s) ∧ w'.cell? ⟨b + 1, 2, none⟩ = some (.int .i64 k))
      (first | go_keep | exact ⟨xS0, xS1, yS0, yS1, yS2⟩ | exact ⟨xQ0, xQ1, yQ0, yQ1, yQ2⟩)
      (first
      | (go_at_call 17; refine (H.toHole_any _ _ _ _).mono ?_; rintro e wQ ⟨rfl, hbQ⟩; have HQ : Below W5.heap.size W5 wQ := (by first | with_reducible exact hd0.trans (hbQ.mono hd0.size) | with_reducible exact hd1.trans (hbQ.mono hd1.size)); (first | (with_reducible have HZ : Res3 wQ W5.heap.size 0 0 0 := hz1.below hbQ) | (with_reducible have HZ := HZ.below hbQ) | skip); have xQ0 := ((bcell HQ).1 gx 0 xl).trans x0; have xQ1 := ((bcell HQ).1 gx 1 xl).trans x1; have yQ0 := ((bcell HQ).1 (b + 1) 0 yl).trans y0; have yQ1 := ((bcell HQ).1 (b + 1) 1 yl).trans y1; have yQ2 := ((bcell HQ).1 (b + 1) 2 yl).trans y2; have nxQ := World.new_ne wQ _ xQ0; have nyQ := World.new_ne wQ _ yQ0)
      | (go_at_call 18; refine (implNote_any _ _ _ _ _ _ _ _ hbig (by first | with_reducible exact hri.below HQ | with_reducible exact hri.below (HQ.alloc HQ.size _)) (by first | with_reducible exact hL5.below HQ | with_reducible exact hL5.below (HQ.alloc HQ.size _))).mono ?_; rintro e wS ⟨rfl, hbS⟩; rw [HR.out]; have HS : Below W5.heap.size W5 wS := (by first | with_reducible exact HQ.trans (hbS.mono HQ.size) | with_reducible exact (HQ.alloc HQ.size _).trans (hbS.mono (HQ.alloc HQ.size _).size)); (first | (with_reducible have HZ : Res3 wS W5.heap.size 0 0 0 := hz1.below hbS) | (with_reducible have HZ := HZ.below hbS) | (with_reducible have HZ : Res3 wS wQ.heap.size 0 0 0 := (Res3.new wQ 0 0 0 34).below hbS) | (have HZ := Res3.new wS 0 0 0 34)); have q0 := HZ.c0; have q1 := HZ.c1; have q2 := HZ.c2; have p0 := HZ.f0; have p1 := HZ.f1; have p2 := HZ.f2; have xS0 := ((bcell HS).1 gx 0 xl).trans x0; have xS1 := ((bcell HS).1 gx 1 xl).trans x1; have yS0 := ((bcell HS).1 (b + 1) 0 yl).trans y0; have yS1 := ((bcell HS).1 (b + 1) 1 yl).trans y1; have yS2 := ((bcell HS).1 (b + 1) 2 yl).trans y2; have nxS := World.new_ne wS _ xS0; have nyS := World.new_ne wS _ yS0))
    all_goals
      go_wp2_with fail
      go_meet
      case rel =>
        first
        | exact ⟨_, rfl, rfl, Res3.new wS a0 b0 d0 34, HS.size, HS.alloc HS.size _⟩
        | exact ⟨_, rfl, rfl, (show Res3 wS _ 0 0 0 from ⟨q0, q1, q2, p0, p1, p2, World.block_lt_of_cell? _ _ q0⟩).set, by first | exact Nat.le_refl _ | exact HQ.size, Below.set3 HS (by first | exact Nat.le_refl _ | exact HQ.size) _ _ _⟩
  case rest =>
  obtain ⟨g2, rfl, rfl, hr2, hg2, hbc⟩ := hcut
  have hx := hx.below hbc
  have hX := hX.below hbc
  have hri := hri.below hbc
  have hA6 := hA5.below hbc
  have hr1 := hr1.below hbc
  have hB6 := hB5.trans (hbc.mono (by omega))
  clear x0 x1 xl y0 y1 y2 yl nx0 ny0 hd0 hd1 hz1 hbc hA5 hL5 hB5 hy
  obtain ⟨u0, u1, u2, _, _, _, ul⟩ := hr2
  obtain ⟨v0, v1, v2, _, _, _, vl⟩ := hr1
  have heq : eqB a0 b0 d0 a0 b0 d0 = true := by simp [eqB]
  go_wp2_with fail
  refine (eqNote_any _ _ _ _ _ _ _).mono ?_
  rintro e w7 ⟨rfl, hb7⟩
  rw [heq]
  have hx := hx.below hb7
  have hX := hX.below hb7
  have hri := hri.below hb7
  have hA7 := hA6.below hb7
  have hB7 := hB6.trans (hb7.mono (by omega))
  clear u0 u1 u2 ul v0 v1 v2 vl hb7 hA6 hB6 heq
  obtain ⟨X60, X61, hZ6⟩ := id hX
  obtain ⟨x60, x61, hz6⟩ := id hx
  go_wp2_with fail
  have hA7d : RI w7.drew A l := hA7
  have hrid : RI w7.drew (some ⟨g4, 0, none⟩) l := hri
  have X60d : w7.drew.cell? ⟨gx, 0, none⟩ = some (.slice (some ⟨g4, 0, none⟩) l.length l.length) := X60
  have X61d : w7.drew.cell? ⟨gx, 1, none⟩ = some (.int .i64 r) := X61
  have hZ6d : gx < w7.drew.heap.size := hZ6
  go_region_with (first
    | (go_at_call 11; refine (toIns_any _ _ _ _ _ hbig hA7d).mono ?_; rintro e w8 ⟨g8, hg8, rfl, ho8, hb8⟩; have X80 := ((bcell hb8).1 gx 0 hZ6d).trans X60d; have X81 := ((bcell hb8).1 gx 1 hZ6d).trans X61d; have hri8 := hrid.below hb8)
    | (go_at_call 15; refine (eqIns_any _ _ _ _ _ _ _ _ _ (by omega) (by omega) hri8 ho8.ra).mono ?_; rintro e w9 ⟨rfl, hb9⟩))
  all_goals
    go_wp2
    go_ret
    exact ⟨rfl, by rw [hbw]; exact (hB7.drew.trans (hb8.mono (show b ≤ w7.drew.heap.size from Nat.le_of_lt hx.2.2))).trans (hb9.mono (Nat.le_trans (show b ≤ w7.drew.heap.size from Nat.le_of_lt hx.2.2) hb8.size))⟩
end Go.Proofs.YtkfgmkgbicahgaaDoor
