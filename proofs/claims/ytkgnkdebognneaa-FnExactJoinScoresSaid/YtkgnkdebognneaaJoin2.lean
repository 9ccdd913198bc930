/- JoinScores of the program: slices.Concat of two, SortNotes of what it made. -/
import Derived.Test.YtkgnkdebognneaaJoin
namespace Go.Proofs.Ytkgnkdebognneaa
open Go.RowKit Go.Sort
set_option linter.unusedVariables false
set_option linter.unusedSimpArgs false

theorem growN_z (z : Int) (n : Nat) (hz : z = n) (w : World) (hn : n ≤ 1000000) :
    Calls Try.prog 67 #[.slice none 0 0, .int .i64 z] w fun e w' => ∃ v, e = .returned v ∧ Own w' w.heap.size 25 v [] ∧ Below w.heap.size w w' := by
  subst hz
  refine (growN_any n w hn).mono ?_
  rintro e w' ⟨v, h1, h2, h3, _⟩
  exact ⟨v, h1, h2, h3⟩

set_option maxRecDepth 100000 in
set_option maxHeartbeats 2000000 in
theorem concat2_any (b : Nat) (A B : Option Addr) (l m : List Nt) (c d : Nat) (w : World) (hl : l.length ≤ 30) (hm : m.length ≤ 30) (hlt : b < w.heap.size) (h0 : w.cell? ⟨b, 0, none⟩ = some (.slice A l.length c)) (h1 : w.cell? ⟨b, 1, none⟩ = some (.slice B m.length d)) (hA : RA w A l) (hB : RA w B m) (hA0 : A = none → c = 0) (hB0 : B = none → d = 0) :
    Calls Try.prog 54 #[.slice (some ⟨b, 0, none⟩) 2 2] w fun e w' => ∃ v, e = .returned v ∧ Own w' w.heap.size 25 v (l ++ m) ∧ Below w.heap.size w w' := by
  have i1 : (0 : Int) ≤ (l.length : Int) := by omega
  have i2 : (l.length : Int) ≤ 30 := by omega
  have i3 : (0 : Int) ≤ (m.length : Int) := by omega
  have i4 : (m.length : Int) ≤ 30 := by omega
  have i5 : ¬ ((l.length : Int) < 0) := by omega
  have i6 : ¬ ((l.length : Int) + (m.length : Int) < 0) := by omega
  go_enter Try.func54, Try.ntmps54
  go_wp2
  refine wp_loop_rounds 3 ?_
  rw [rounds_succ]
  go_wp2
  rw [rounds_succ]
  go_wp2
  rw [rounds_succ]
  go_wp2_with (go_at_call 67; refine (growN_z _ (l.length + m.length) (by simp) _ (by omega)).mono ?_; rintro e w1 ⟨v1, rfl, ho1, hb1⟩; have HO1 := Lib.hid ho1; have z0 := (hb1.cell (p := ⟨b, 0, none⟩) hlt).trans h0; have z1 := (hb1.cell (p := ⟨b, 1, none⟩) hlt).trans h1; have HA1 := Lib.hid (hA.below hb1); have HB1 := Lib.hid (hB.below hb1); have HBL1 := Lib.hid hb1; clear ho1 hb1)
  refine wp_loop_rounds 3 ?_
  rw [rounds_succ]
  go_wp2_with (at_builtin; (refine wpList_appN _ rfl (.tmp 31) (.tmp 32) rfl w.heap.size _ [] rfl HO1.out A l.length c l rfl rfl hA0 HA1.out (by simp; omega) HBL1.out.size ?_); intro v2 w2 ho2 hg2; have HO2 := Lib.hid ho2; have HBL2 := Lib.hid (HBL1.out.grown hg2 HBL1.out.size (fun j hj => (HO1.out.lt j hj).1)); have y0 := (HBL2.out.cell (p := ⟨b, 0, none⟩) hlt).trans h0; have y1 := (HBL2.out.cell (p := ⟨b, 1, none⟩) hlt).trans h1; have HB2 := Lib.hid (hB.below HBL2.out); clear ho2 hg2)
  rw [rounds_succ]
  go_wp2_with (at_builtin; (refine wpList_appN _ rfl (.tmp 31) (.tmp 32) rfl w.heap.size _ _ rfl HO2.out B m.length d m rfl rfl hB0 HB2.out (by simp; omega) HBL2.out.size ?_); intro v3 w3 ho3 hg3; have HO3 := Lib.hid ho3; have HBL3 := Lib.hid (HBL2.out.grown hg3 HBL2.out.size (fun j hj => (HO2.out.lt j hj).1)); have x0 := (HBL3.out.cell (p := ⟨b, 0, none⟩) hlt).trans h0; have x1 := (HBL3.out.cell (p := ⟨b, 1, none⟩) hlt).trans h1; clear ho3 hg3)
  rw [rounds_succ]
  go_wp2
  go_ret
  exact ⟨_, rfl, by simpa using HO3.out, HBL3.out⟩
end Go.Proofs.Ytkgnkdebognneaa
