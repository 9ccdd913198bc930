/- LayOutFrom: the model's and the program's functions have one answer, in memory of their own. -/
import Derived.Test.YtkfgmkgbicahgaaGreatDoorM10q
import Derived.Test.YtkfgmkgbicahgaaGreatDoorM9q
namespace Go.Proofs.YtkfgmkgbicahgaaGreatDoor
open Go.RowKit Go.Sort
set_option linter.unusedVariables false
set_option linter.unusedSimpArgs false

/-- The layout from a step on is a sheet. -/
def fromB (P : List Int) (r : Int) (m : List Nt) (b : Int) : Bool := layB P r m && (inR b 0 2000 && H.goodB ((m.map (holeN P)).map (H.moveN b)))

theorem from_eq {P : List Int} {m : List Nt} {r b : Int} (hg : (gdI P r && goodB m) = true) (hb : inR b 0 2000 = true) :
    (canB P r m && (m.all (okH P) && H.goodB (canon (mvL P b m)))) = fromB P r m b ∧ (if (canB P r m && (m.all (okH P) && H.goodB (canon (mvL P b m)))) = true then canon (mvL P b m) else []) = (if fromB P r m b = true then (m.map (holeN P)).map (H.moveN b) else []) := by
  unfold fromB
  rw [hb, Bool.true_and]
  cases hc : canB P r m with
  | false =>
    have e : layB P r m = false := by unfold layB; rw [hc, Bool.false_and, Bool.and_false, Bool.and_false]
    rw [e, Bool.false_and, Bool.false_and]; exact ⟨rfl, rfl⟩
  | true =>
    rw [layB_iff hg hc, Bool.true_and]
    simp only [Bool.and_eq_true] at hg
    have hgood := (goodB_iff m).1 hg.2
    have hinc := ((gdI_iff P r).1 hg.1).2.1.inc
    obtain ⟨c1, c2⟩ := lay_canon b hinc (can_mem hc) hgood
    unfold mvL
    cases ha : m.all (okH P) with
    | false => rw [Bool.false_and, Bool.false_and]; exact ⟨rfl, rfl⟩
    | true =>
      rw [Bool.true_and, Bool.true_and]
      exact ⟨c1, c2⟩

set_option maxRecDepth 100000 in
set_option maxHeartbeats 2000000 in
theorem specFrom_any (A : Option Addr) (l : List Int) (c : Nat) (r : Int) (M : Option Addr) (m : List Nt) (d : Nat) (b : Int) (w : World) (hn : l.length ≤ 1048576) (hA : RI w A l) (hm : m.length ≤ 1048576) (hd : m.length ≤ d) (hd' : d ≤ 9223372036854775807) (hM : RA w M m) :
    Calls Tryz.prog 6 #[.agg #[.slice A l.length c, .int .i64 r], .slice M m.length d, .int .i64 b] w fun e w' => H.RetScore w ((m.map (holeN l)).map (H.moveN b)) (fromB l r m b) e w' := by
  have hb0 : Below w.heap.size w (w.alloc (.cells #[.slice A l.length c, .int .i64 r] 31)) := (Below.refl w.heap.size w).alloc (Nat.le_refl _) _
  have hx := Box.new w A l.length c r 31
  have hA := hA.below hb0
  have hM := hM.below hb0
  go_enter Tryz.func6, Tryz.ntmps6
  go_wp2_with fail
  generalize w.alloc (.cells #[.slice A l.length c, .int .i64 r] 31) = W at *
  refine (inAsked_any _ _ _ _ _ _ _ _ hn hA hm hd hd' hM).mono ?_
  rintro e w1 ⟨rfl, hb1⟩
  have hB1 := hb0.trans (hb1.mono hb0.size)
  obtain ⟨x0, x1, xl⟩ := hx.below hb1
  cases hg : (gdI l r && goodB m) with
  | false =>
    have HG := Lib.hid (show fromB l r m b = false from by
      have e : layB l r m = false := by unfold layB; rw [← Bool.and_assoc, hg, Bool.false_and]
      unfold fromB; rw [e, Bool.false_and])
    clear hg
    go_wp2
    go_ret2
    rw [HG.out]
    exact ⟨_, rfl, by simpa using Own.nil w1 w.heap.size _, hB1⟩
  | true =>
    have hgg := hg
    simp only [Bool.and_eq_true] at hgg
    have hgood := (goodB_iff m).1 hgg.2
    cases hr : inR b 0 2000 with
    | false =>
      have HG := Lib.hid (show fromB l r m b = false from by unfold fromB; rw [hr, Bool.false_and, Bool.and_false])
      clear hg hgg
      go_wp2_with (go_at_call 19; refine (l1In_any _ _ _ _).mono ?_; rintro e w2 ⟨rfl, rfl⟩; rw [hr])
      go_ret2
      rw [HG.out]
      exact ⟨_, rfl, by simpa using Own.nil _ w.heap.size _, hB1⟩
    | true =>
      have HC := Lib.hid (from_eq hg hr)
      have hrr : 0 ≤ b ∧ b ≤ 2000 := by simpa [inR] using hr
      have HR := Lib.hid hr
      clear hg hgg hr
      go_wp2_with (go_at_call 19; refine (l1In_any _ _ _ _).mono ?_; rintro e w2 ⟨rfl, rfl⟩; rw [HR.out])
      refine (laHoles_any _ _ _ _ _ _ _ b _ hn (hA.below hb1) (hM.below hb1) hgood hrr.1 hrr.2).mono ?_
      intro e w2 h2
      obtain ⟨v2, rfl, ho2, hb2⟩ := same_retH h2 HC.out.1 HC.out.2
      clear h2
      go_wp2
      go_ret2
      exact ⟨_, rfl, ho2.mono hB1.size, hB1.trans (hb2.mono hB1.size)⟩

set_option maxRecDepth 100000 in
set_option maxHeartbeats 1000000 in
theorem implMoveO_any (A : Option Addr) (l : List Nt) (c : Nat) (b : Int) (w : World) (hn : l.length ≤ 1048576) (hA : RA w A l) :
    Calls Tryz.prog 25 #[.slice A l.length c, .int .i64 b] w fun e w' => H.RetScore w (canon (H.chgL (H.moveN b) l)) (H.goodB l && (inR b (-2000) 2000 && H.goodB (canon (H.chgL (H.moveN b) l)))) e w' := by
  go_enter Tryz.func25, Tryz.ntmps25
  go_wp2_with fail
  refine (H.chs_Move _ l c b _ hn hA).mono ?_
  rintro e w1 ⟨v, rfl, ho, hb⟩
  go_wp2
  go_ret2
  exact ⟨v, rfl, ho, hb⟩

theorem move_eq {P : List Int} {m : List Nt} {r b : Int} (hl : layB P r m = true) (hb : inR b 0 2000 = true) :
    (H.goodB (m.map (holeN P)) && (inR b (-2000) 2000 && H.goodB (canon (H.chgL (H.moveN b) (m.map (holeN P)))))) = fromB P r m b ∧
    (if (H.goodB (m.map (holeN P)) && (inR b (-2000) 2000 && H.goodB (canon (H.chgL (H.moveN b) (m.map (holeN P)))))) = true then canon (H.chgL (H.moveN b) (m.map (holeN P))) else []) = (if fromB P r m b = true then (m.map (holeN P)).map (H.moveN b) else []) := by
  unfold fromB
  rw [hl, hb, Bool.true_and, Bool.true_and]
  unfold layB at hl
  simp only [Bool.and_eq_true] at hl
  obtain ⟨h1, h2, hc, ha⟩ := hl
  have hgood := (goodB_iff m).1 h2
  have hinc := ((gdI_iff P r).1 h1).2.1.inc
  have hok : ∀ x ∈ m, H.noteN (holeN P x) = true := fun x hx => List.all_eq_true.1 ha x hx
  have hgh := lay_good hinc (can_mem hc) hgood hok
  have hgd := (H.goodB_iff _).2 hgh
  have hbb : 0 ≤ b ∧ b ≤ 2000 := by simpa [inR] using hb
  have hin : inR b (-2000) 2000 = true := by simp [inR]; omega
  have e1 : H.chgL (H.moveN b) (m.map (holeN P)) = (m.map (holeN P)).map (H.moveN b) := H.chgL_all _ _ fun x hx => by
    have := (H.noteN_iff x).1 (hgh.valid x hx)
    simp only [H.moveN]; omega
  rw [hgd, hin, Bool.true_and, Bool.true_and, e1]
  exact lay_canon b hinc (can_mem hc) hgood

set_option maxRecDepth 100000 in
set_option maxHeartbeats 2000000 in
theorem implFrom_any (A : Option Addr) (l : List Int) (c : Nat) (r : Int) (M : Option Addr) (m : List Nt) (d : Nat) (b : Int) (w : World) (hn : l.length ≤ 1048576) (hA : RI w A l) (hm : m.length ≤ 1048576) (hd : m.length ≤ d) (hd' : d ≤ 9223372036854775807) (hM : RA w M m) (hL : Lim w) :
    Calls Tryz.prog 9 #[.agg #[.slice A l.length c, .int .i64 r], .slice M m.length d, .int .i64 b] w fun e w' => H.RetScore w ((m.map (holeN l)).map (H.moveN b)) (fromB l r m b) e w' := by
  have hb0 : Below w.heap.size w (w.alloc (.cells #[.slice A l.length c, .int .i64 r] 31)) := (Below.refl w.heap.size w).alloc (Nat.le_refl _) _
  have hA := hA.below hb0
  have hM := hM.below hb0
  have hL := hL.below hb0
  go_enter Tryz.func9, Tryz.ntmps9
  go_wp2_with fail
  generalize w.alloc (.cells #[.slice A l.length c, .int .i64 r] 31) = W at *
  refine (implLay_any _ _ _ _ _ _ _ _ hn hA hm hd hd' hM hL).mono ?_
  rintro e w1 ⟨v1, rfl, ho1, hb1⟩
  have HB1 := Lib.hid (hb0.trans (hb1.mono hb0.size))
  clear hb1 hb0 hA hM hL
  cases hl : layB l r m with
  | false =>
    have HG := Lib.hid (show fromB l r m b = false from by unfold fromB; rw [hl, Bool.false_and])
    clear hl ho1
    go_wp2
    go_ret2
    rw [HG.out]
    exact ⟨_, rfl, by simpa using Own.nil w1 w.heap.size _, HB1.out⟩
  | true =>
    rw [hl] at ho1
    simp only [if_true] at ho1
    cases hr : inR b 0 2000 with
    | false =>
      have HG := Lib.hid (show fromB l r m b = false from by unfold fromB; rw [hr, Bool.false_and, Bool.and_false])
      clear hl ho1
      go_wp2_with (go_at_call 24; refine (inRange_any _ _ _ _).mono ?_; rintro e w2 ⟨rfl, rfl⟩; rw [hr])
      go_ret2
      rw [HG.out]
      exact ⟨_, rfl, by simpa using Own.nil _ w.heap.size _, HB1.out⟩
    | true =>
      have HC := Lib.hid (move_eq hl hr)
      have HR := Lib.hid hr
      have hml : (m.map (holeN l)).length ≤ 1048576 := by simp; omega
      clear hl hr
      generalize hLL : m.map (holeN l) = L at *
      have HLL := Lib.hid hLL
      clear hLL
      obtain ⟨O, oc, rfl, hO⟩ := ho1.form
      go_wp2_with (go_at_call 24; refine (inRange_any _ _ _ _).mono ?_; rintro e w2 ⟨rfl, rfl⟩; rw [HR.out])
      refine (implMoveO_any O L oc b _ hml hO).mono ?_
      intro e w2 h2
      obtain ⟨v2, rfl, ho2, hb2⟩ := same_retH h2 HC.out.1 HC.out.2
      clear h2 ho1 hO
      go_wp2
      go_ret2
      try rw [HLL.out]
      exact ⟨_, rfl, ho2.mono HB1.out.size, HB1.out.trans (hb2.mono HB1.out.size)⟩
end Go.Proofs.YtkfgmkgbicahgaaGreatDoor
