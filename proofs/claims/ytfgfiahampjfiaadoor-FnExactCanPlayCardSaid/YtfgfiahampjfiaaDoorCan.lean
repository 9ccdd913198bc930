/- CanPlay: the model's and the program's functions have one answer. -/
import Derived.Test.YtfgfiahampjfiaaDoorFast3
namespace Go.Proofs.YtfgfiahampjfiaaDoor
open Go.RowKit Go.Sort Go.Maps
set_option linter.unusedVariables false
set_option linter.unusedSimpArgs false

def canB (l : List Int) (r : Int) (m : List Nt) : Bool := decide ((atF (misB l) m).length = 0) && decide ((fastL r m m.length).length = 0)
def canR (l : List Int) (r : Int) (m : List Nt) : Array Value := if (gdI l r && goodB m) = true then #[.bool (canB l r m), .bool true] else #[.bool false, .bool false]
theorem OwnP.form {w : World} {base : Nat} {v : Value} {ps : List (Int × Int)} (h : OwnP w base v ps) : ∃ A c, v = .slice A ps.length c := by
  obtain ⟨gs, h⟩ := h
  obtain ⟨A, c, e, _⟩ := OwnG.form h
  exact ⟨A, c, e⟩

set_option maxRecDepth 100000 in
set_option maxHeartbeats 1000000 in
theorem inPlays_any (A : Option Addr) (l : List Int) (c : Nat) (r : Int) (M : Option Addr) (m : List Nt) (d : Nat) (w : World) (hn : l.length ≤ 1048576) (hA : RI w A l) (hm : m.length ≤ 1048576) (hM : RA w M m) (hg : Good m) :
    Calls Tryd.prog 79 #[.agg #[.slice A l.length c, .int .i64 r], .slice M m.length d] w fun e w' => e = .returned (.bool (canB l r m)) ∧ Below w.heap.size w w' := by
  have hb0 : Below w.heap.size w (w.alloc (.cells #[.slice A l.length c, .int .i64 r] 27)) := (Below.refl w.heap.size w).alloc (Nat.le_refl _) _
  obtain ⟨x0, x1, hz⟩ := Box.new w A l.length c r 27
  have hA := hA.below hb0
  have hM := hM.below hb0
  go_enter Tryd.func79, Tryd.ntmps79
  go_wp2_with fail
  generalize w.alloc (.cells #[.slice A l.length c, .int .i64 r] 27) = W at *
  refine (inMissing_any _ _ _ _ _ _ _ _ hn hA hM hg).mono ?_
  rintro e w1 ⟨v1, rfl, ho1, hb1⟩
  have hB1 := hb0.trans (hb1.mono hb0.size)
  have y1 := (hb1.cell (p := ⟨w.heap.size, 1, none⟩) hz).trans x1
  obtain ⟨A1, c1, hf1, _⟩ := ho1.form
  subst hf1
  have HC := Lib.hid (show canB l r m = (decide ((atF (misB l) m).length = 0) && decide ((fastL r m m.length).length = 0)) from rfl)
  clear ho1
  generalize (atF (misB l) m).length = n1 at *
  by_cases h1 : n1 = 0
  · subst h1
    go_wp2_with fail
    refine (inFast_any _ _ _ _ _ hm (hM.below hb1) hg).mono ?_
    rintro e w2 ⟨v2, rfl, ho2, hb2⟩
    obtain ⟨A2, c2, hf2⟩ := ho2.form
    subst hf2
    clear ho2
    generalize (fastL r m m.length).length = n2 at *
    by_cases h2 : n2 = 0
    · subst h2
      go_wp2
      go_ret
      exact ⟨ret_bool (by rw [HC.out]; rfl), hB1.trans (hb2.mono hB1.size)⟩
    · have hne : ((n2 : Int) == 0) = false := by simp [h2]
      go_wp2
      go_ret
      exact ⟨ret_bool (by rw [HC.out]; simp [h2]), hB1.trans (hb2.mono hB1.size)⟩
  · have hne : ((n1 : Int) == 0) = false := by simp [h1]
    go_wp2
    go_ret
    exact ⟨ret_bool (by rw [HC.out]; simp [h1]), hB1⟩

set_option maxRecDepth 100000 in
set_option maxHeartbeats 1000000 in
theorem specCan_any (A : Option Addr) (l : List Int) (c : Nat) (r : Int) (M : Option Addr) (m : List Nt) (d : Nat) (w : World) (hn : l.length ≤ 1048576) (hA : RI w A l) (hm : m.length ≤ 1048576) (hd : m.length ≤ d) (hd' : d ≤ 9223372036854775807) (hM : RA w M m) :
    Calls Tryd.prog 40 #[.agg #[.slice A l.length c, .int .i64 r], .slice M m.length d] w fun e w' => e = .returned (.tuple (canR l r m)) ∧ Below w.heap.size w w' := by
  have hb0 : Below w.heap.size w (w.alloc (.cells #[.slice A l.length c, .int .i64 r] 27)) := (Below.refl w.heap.size w).alloc (Nat.le_refl _) _
  obtain ⟨x0, x1, hz⟩ := Box.new w A l.length c r 27
  have hA := hA.below hb0
  have hM := hM.below hb0
  go_enter Tryd.func40, Tryd.ntmps40
  go_wp2_with fail
  generalize w.alloc (.cells #[.slice A l.length c, .int .i64 r] 27) = W at *
  refine (inAsked_any _ _ _ _ _ _ _ _ hn hA hm hd hd' hM).mono ?_
  rintro e w1 ⟨rfl, hb1⟩
  have hB1 := hb0.trans (hb1.mono hb0.size)
  have y0 := (hb1.cell (p := ⟨w.heap.size, 0, none⟩) hz).trans x0
  have y1 := (hb1.cell (p := ⟨w.heap.size, 1, none⟩) hz).trans x1
  cases hg : (gdI l r && goodB m) with
  | false =>
    have HG := Lib.hid hg
    go_wp2
    go_ret2
    exact ⟨by unfold canR; rw [HG.out]; rfl, hB1⟩
  | true =>
    have hgood : Good m := (goodB_iff m).1 (by simp at hg; exact hg.2)
    have HG := Lib.hid hg
    clear hg
    go_wp2_with fail
    refine (inPlays_any _ _ _ _ _ _ _ _ hn (hA.below hb1) hm (hM.below hb1) hgood).mono ?_
    rintro e w2 ⟨rfl, hb2⟩
    go_wp2
    go_ret2
    exact ⟨by unfold canR; rw [HG.out]; rfl, hB1.trans (hb2.mono hB1.size)⟩

set_option maxRecDepth 100000 in
set_option maxHeartbeats 1000000 in
theorem implCan_any (A : Option Addr) (l : List Int) (c : Nat) (r : Int) (M : Option Addr) (m : List Nt) (d : Nat) (w : World) (hn : l.length ≤ 1048576) (hA : RI w A l) (hm : m.length ≤ 1048576) (hM : RA w M m) (hL : Lim w) :
    Calls Tryd.prog 41 #[.agg #[.slice A l.length c, .int .i64 r], .slice M m.length d] w fun e w' => e = .returned (.tuple (canR l r m)) ∧ Below w.heap.size w w' := by
  have hb0 : Below w.heap.size w (w.alloc (.cells #[.slice A l.length c, .int .i64 r] 27)) := (Below.refl w.heap.size w).alloc (Nat.le_refl _) _
  obtain ⟨x0, x1, hz⟩ := Box.new w A l.length c r 27
  have hA := hA.below hb0
  have hM := hM.below hb0
  have hL := hL.below hb0
  go_enter Tryd.func41, Tryd.ntmps41
  go_wp2_with fail
  generalize w.alloc (.cells #[.slice A l.length c, .int .i64 r] 27) = W at *
  refine (implMiss_any _ _ _ _ _ _ _ _ hn hA hm hM hL).mono ?_
  rintro e w1 ⟨v1, rfl, ho1, hb1⟩
  have hB1 := hb0.trans (hb1.mono hb0.size)
  have y0 := (hb1.cell (p := ⟨w.heap.size, 0, none⟩) hz).trans x0
  have y1 := (hb1.cell (p := ⟨w.heap.size, 1, none⟩) hz).trans x1
  have HC := Lib.hid (show canB l r m = (decide ((atF (misB l) m).length = 0) && decide ((fastL r m m.length).length = 0)) from rfl)
  cases hg : (gdI l r && goodB m) with
  | false =>
    rw [hg] at ho1
    have HG := Lib.hid hg
    clear hg
    simp only [Bool.false_eq_true, if_false] at ho1
    obtain ⟨A1, c1, hf1, _⟩ := ho1.form
    subst hf1
    clear ho1
    go_wp2_with fail
    refine (implFast_any _ _ _ _ _ _ _ _ hn (hA.below hb1) hm (hM.below hb1) (hL.below hb1)).mono ?_
    rintro e w2 ⟨v2, rfl, ho2, hb2⟩
    have hB2 := hB1.trans (hb2.mono hB1.size)
    rw [HG.out] at ho2
    simp only [Bool.false_eq_true, if_false] at ho2
    obtain ⟨A2, c2, hf2⟩ := ho2.form
    subst hf2
    clear ho2
    rw [HG.out]
    go_wp2
    go_ret2
    exact ⟨by unfold canR; rw [HG.out]; rfl, hB2⟩
  | true =>
    rw [hg] at ho1
    have HG := Lib.hid hg
    clear hg
    simp only [if_true] at ho1
    obtain ⟨A1, c1, hf1, _⟩ := ho1.form
    subst hf1
    clear ho1
    generalize (atF (misB l) m).length = n1 at *
    go_wp2_with fail
    refine (implFast_any _ _ _ _ _ _ _ _ hn (hA.below hb1) hm (hM.below hb1) (hL.below hb1)).mono ?_
    rintro e w2 ⟨v2, rfl, ho2, hb2⟩
    have hB2 := hB1.trans (hb2.mono hB1.size)
    rw [HG.out] at ho2
    simp only [if_true] at ho2
    obtain ⟨A2, c2, hf2⟩ := ho2.form
    subst hf2
    clear ho2
    rw [HG.out]
    generalize (fastL r m m.length).length = n2 at *
    by_cases h1 : n1 = 0
    · subst h1
      by_cases h2 : n2 = 0
      · subst h2
        go_wp2
        go_ret2
        exact ⟨by simp [canR, HG.out, HC.out], hB2⟩
      · have hne : ((n2 : Int) == 0) = false := by simp [h2]
        go_wp2
        go_ret2
        exact ⟨by simp [canR, HG.out, HC.out, h2], hB2⟩
    · have hne : ((n1 : Int) == 0) = false := by simp [h1]
      go_wp2
      go_ret2
      exact ⟨by simp [canR, HG.out, HC.out, h1], hB2⟩
end Go.Proofs.YtfgfiahampjfiaaDoor
