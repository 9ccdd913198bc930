/- Texts of the proof, run together: Common, HGood, HIsScore, HNtGood, HQuick, HRet, HSrtP. -/
import Derived.Test.YtkfgmkgbicahgaaGreatDoorM4q
import Derived.Test.YtkfgmkgbicahgaaGreatDoorM2q
import Derived.Test.YtkfgmkgbicahgaaGreatDoorM1q
import Derived.Test.YtkfgmkgbicahgaaGreatDoorM3q
import Derived.Lib.QuietBelow
import Derived.Deep.OwnRows
import Derived.Deep.RegionHeld3

namespace Go.Proofs.YtkfgmkgbicahgaaGreatDoor.H
open Go.RowKit

def noteN (x : Nt) : Bool := noteB x.1 x.2.1 x.2.2
def meetN (x y : Nt) : Bool := meetB x.1 x.2.1 x.2.2 y.1 y.2.1 y.2.2
/-- Note k of l is valid, behind the one before it, and meets none before it. -/
def okAt (l : List Nt) (k : Nat) (x : Nt) : Prop :=
  noteN x = true ∧ (∀ y, 0 < k → l[k - 1]? = some y → befN y x = true) ∧ ∀ j y, j < k → l[j]? = some y → meetN x y = false
def GoodTo (l : List Nt) (k : Nat) : Prop := ∀ i x, i < k → l[i]? = some x → okAt l i x
def Good (l : List Nt) : Prop := GoodTo l l.length ∧ l.length ≤ 60

theorem noteN_iff (x : Nt) : noteN x = true ↔ 0 ≤ x.1 ∧ x.1 ≤ 19 ∧ 0 ≤ x.2.1 ∧ x.2.1 < x.2.2 ∧ x.2.2 ≤ 2000 := noteB_iff _ _ _
theorem meetN_iff (x y : Nt) : meetN x y = true ↔ x.1 = y.1 ∧ x.2.1 ≤ y.2.2 := by
  simp [meetN, meetB]

theorem GoodTo.zero (l : List Nt) : GoodTo l 0 := fun _ _ h => absurd h (by omega)
theorem GoodTo.succ {l : List Nt} {k : Nat} {x : Nt} (h : GoodTo l k) (hx : l[k]? = some x) (ho : okAt l k x) : GoodTo l (k + 1) := by
  intro i y hi hy
  rcases Nat.lt_or_ge i k with hik | hik
  · exact h i y hik hy
  · obtain rfl : i = k := by omega
    rw [hx] at hy; injection hy with hy; subst hy; exact ho
theorem Good.not_of {l : List Nt} {k : Nat} {x : Nt} (hx : l[k]? = some x) (ho : ¬ okAt l k x) : ¬ Good l := fun h => ho (h.1 k x (List.getElem?_eq_some_iff.1 hx).1 hx)

/-- Starts do not fall along a good beginning. -/
theorem GoodTo.mono {l : List Nt} {k : Nat} (h : GoodTo l k) : ∀ i j x y, i ≤ j → j < k → l[i]? = some x → l[j]? = some y → x.2.1 ≤ y.2.1 := by
  intro i j x y hij
  induction j generalizing y with
  | zero =>
    intro _ hx hy
    obtain rfl : i = 0 := by omega
    rw [hx] at hy; injection hy with hy; subst hy; exact Int.le_refl _
  | succ j ih =>
    intro hj hx hy
    rcases Nat.lt_or_ge j i with hji | hji
    · obtain rfl : i = j + 1 := by omega
      rw [hx] at hy; injection hy with hy; subst hy; exact Int.le_refl _
    · have hlt : j < l.length := by have := (List.getElem?_eq_some_iff.1 hy).1; omega
      have hz : l[j]? = some l[j] := List.getElem?_eq_getElem hlt
      have h1 := ih _ hji (by omega) hx hz
      have h2 := (h (j + 1) y hj hy).2.1 l[j] (by omega) (by simp)
      rw [befN_iff] at h2
      omega

/-- One behind the end of the last hole of a track among holes, 0 without one. -/
def endsF (p : Int) : List Nt → Int → Int
  | [], a => a
  | y :: r, a => endsF p r (if y.1 = p then y.2.2 + 1 else a)
theorem endsF_snoc (p : Int) (l : List Nt) (x : Nt) (a : Int) : endsF p (l ++ [x]) a = if x.1 = p then x.2.2 + 1 else endsF p l a := by
  induction l generalizing a with
  | nil => rfl
  | cons y l ih => simp only [List.cons_append, endsF, ih]
theorem endsF_take (p : Int) (l : List Nt) (k : Nat) (x : Nt) (hx : l[k]? = some x) : endsF p (l.take (k + 1)) 0 = if x.1 = p then x.2.2 + 1 else endsF p (l.take k) 0 := by
  rw [List.take_add_one, hx]
  exact endsF_snoc p _ x 0

/-- Along a good beginning the last end of a pitch is the greatest, and it is one of a note of the pitch, or 0. -/
theorem endsF_spec {l : List Nt} {k : Nat} (h : GoodTo l k) (hk : k ≤ l.length) (p : Int) :
    (∀ j y, j < k → l[j]? = some y → y.1 = p → y.2.2 + 1 ≤ endsF p (l.take k) 0) ∧
    (endsF p (l.take k) 0 = 0 ∨ ∃ j y, j < k ∧ l[j]? = some y ∧ y.1 = p ∧ endsF p (l.take k) 0 = y.2.2 + 1) := by
  induction k with
  | zero => exact ⟨fun _ _ h => absurd h (by omega), .inl rfl⟩
  | succ k ih =>
    have hx : l[k]? = some l[k] := List.getElem?_eq_getElem (by omega)
    generalize l[k] = x at hx
    have hg : GoodTo l k := fun i y hi hy => h i y (by omega) hy
    obtain ⟨ha, hb⟩ := ih hg (by omega)
    have hok := h k x (by omega) hx
    rw [endsF_take p l k x hx]
    by_cases hp : x.1 = p
    · rw [if_pos hp]
      refine ⟨fun j y hj hy hyp => ?_, .inr ⟨k, x, by omega, hx, hp, rfl⟩⟩
      rcases Nat.lt_or_ge j k with hjk | hjk
      · have hm := hok.2.2 j y hjk hy
        have hle := h.mono j k y x (by omega) (by omega) hy hx
        have hv := (noteN_iff x).1 hok.1
        have hv' := (noteN_iff y).1 (h j y (by omega) hy).1
        have : ¬ (meetN x y = true) := by rw [hm]; simp
        rw [meetN_iff] at this
        have : ¬ (x.2.1 ≤ y.2.2) := fun hh => this ⟨by rw [hp, hyp], hh⟩
        omega
      · obtain rfl : j = k := by omega
        rw [hx] at hy; injection hy with hy; subst hy; exact Int.le_refl _
    · rw [if_neg hp]
      refine ⟨fun j y hj hy hyp => ?_, ?_⟩
      · rcases Nat.lt_or_ge j k with hjk | hjk
        · exact ha j y hjk hy hyp
        · obtain rfl : j = k := by omega
          rw [hx] at hy; injection hy with hy; subst hy; exact absurd hyp hp
      · rcases hb with hb | ⟨j, y, hj, hy, hyp, he⟩
        · exact .inl hb
        · exact .inr ⟨j, y, by omega, hy, hyp, he⟩

/-- The program's way of asking whether note k goes on. -/
theorem okAt_iff {l : List Nt} {k : Nat} {x : Nt} (h : GoodTo l k) (hk : k ≤ l.length) (hv : noteN x = true) (hbef : ∀ y, 0 < k → l[k - 1]? = some y → befN y x = true) :
    okAt l k x ↔ ¬ (x.2.1 < endsF x.1 (l.take k) 0) := by
  obtain ⟨ha, hb⟩ := endsF_spec h hk x.1
  have hx := (noteN_iff x).1 hv
  have hle : ∀ j y, j < k → l[j]? = some y → y.2.1 ≤ x.2.1 := by
    intro j y hj hy
    have hz : l[k - 1]? = some l[k - 1] := List.getElem?_eq_getElem (by omega)
    have h1 := h.mono j (k - 1) y _ (by omega) (by omega) hy hz
    have h2 := (befN_iff _ _).1 (hbef _ (by omega) hz)
    omega
  constructor
  · intro ho hlt
    rcases hb with hb | ⟨j, y, hj, hy, hyp, he⟩
    · omega
    · have hm := ho.2.2 j y hj hy
      have : ¬ (meetN x y = true) := by rw [hm]; simp
      rw [meetN_iff] at this
      have h1 := hle j y hj hy
      exact this ⟨hyp.symm, by omega⟩
  · intro hn
    refine ⟨hv, hbef, fun j y hj hy => ?_⟩
    cases hm : meetN x y with
    | false => rfl
    | true =>
      rw [meetN_iff] at hm
      have := ha j y hj hy hm.1.symm
      omega

/-- Whether note k is such, as a Bool. -/
def okB (l : List Nt) (k : Nat) : Bool :=
  match l[k]? with
  | none => true
  | some x => noteN x && ((decide (k = 0) || (match l[k - 1]? with | some y => befN y x | none => true)) && (l.take k).all fun y => !meetN x y)
def goodB (l : List Nt) : Bool := (List.range l.length).all (okB l) && decide (l.length ≤ 60)

theorem okB_iff {l : List Nt} {k : Nat} {x : Nt} (hx : l[k]? = some x) : okB l k = true ↔ okAt l k x := by
  have hk := (List.getElem?_eq_some_iff.1 hx).1
  unfold okB okAt
  rw [hx]
  simp only [Bool.and_eq_true, Bool.or_eq_true, decide_eq_true_eq, List.all_eq_true, Bool.not_eq_true']
  refine and_congr Iff.rfl (and_congr ⟨?_, ?_⟩ ⟨?_, ?_⟩)
  · intro h y h0 hy
    rcases h with h | h
    · omega
    · rw [hy] at h; exact h
  · intro h
    rcases Nat.eq_zero_or_pos k with h0 | h0
    · exact .inl h0
    · right
      have hy : l[k - 1]? = some l[k - 1] := List.getElem?_eq_getElem (by omega)
      rw [hy]
      exact h _ h0 hy
  · intro h j y hj hy
    exact h y (List.mem_iff_getElem?.2 ⟨j, by rw [List.getElem?_take, if_pos hj]; exact hy⟩)
  · intro h y hy
    obtain ⟨j, hj⟩ := List.mem_iff_getElem?.1 hy
    have hjk : j < k := by
      rcases Nat.lt_or_ge j k with h' | h'
      · exact h'
      · rw [List.getElem?_take, if_neg (by omega)] at hj; cases hj
    rw [List.getElem?_take, if_pos hjk] at hj
    exact h j y hjk hj
theorem goodB_iff (l : List Nt) : goodB l = true ↔ Good l := by
  unfold goodB Good
  rw [Bool.and_eq_true, List.all_eq_true, decide_eq_true_eq]
  refine and_congr ⟨?_, ?_⟩ Iff.rfl
  · intro h i x hi hx
    exact (okB_iff hx).1 (h i (List.mem_range.2 hi))
  · intro h i hi
    have hi := List.mem_range.1 hi
    exact (okB_iff (List.getElem?_eq_getElem hi)).2 (h i _ hi (List.getElem?_eq_getElem hi))
theorem goodB_false {l : List Nt} (h : ¬ Good l) : goodB l = false := by
  cases hb : goodB l with
  | false => rfl
  | true => exact absurd ((goodB_iff l).1 hb) h
end Go.Proofs.YtkfgmkgbicahgaaGreatDoor.H

namespace Go.Proofs.YtkfgmkgbicahgaaGreatDoor.H
open Go.RowKit Go.Sort
set_option linter.unusedVariables false

def zero20 : Array Value := Array.mk (List.replicate 20 (.int .i64 0))
theorem zero20_size : zero20.size = 20 := by kernel_rfl
theorem zero20_ne : zero20 ≠ #[] := fun h => by have := congrArg Array.size h; rw [zero20_size] at this; simp at this
theorem zeroV20 (w : World) : (zeroValue 90).run Tryz.prog w = .ok (.agg zero20) w := by kernel_rfl
theorem zeros20 : zero20.toList = List.replicate 20 (.int .i64 0) := rfl
/-- The array of ends: for each pitch the end of its last note among the first k ones. -/
def Ends (w : World) (g : Nat) (l : List Nt) (k : Nat) : Prop := w.rowIs g 90 20 (fun j => .int .i64 (endsF (j : Int) (l.take k) 0))
theorem Ends.zero (w : World) (l : List Nt) : Ends (w.alloc (.cells zero20 90)) w.heap.size l 0 := by
  have hs : zero20.size = 20 := by rw [← Array.length_toList, zeros20]; rfl
  have h := World.rowIs_alloc w zero20 90 (fun j => .int .i64 (endsF (j : Int) (l.take 0) 0)) (fun i hi => by
    rw [← Array.getElem?_toList, zeros20, List.getElem?_replicate, if_pos (by omega)]; rfl)
  rw [hs] at h
  exact h
theorem Ends.below {w w' : World} {g : Nat} {l : List Nt} {k : Nat} (h : Ends w g l k) (hb : Below w.heap.size w w') : Ends w' g l k := World.rowIs.of_block h (hb.block g h.lt)
theorem Ends.step {w : World} {g : Nat} {l : List Nt} {k : Nat} {p s n : Int} (h : Ends w g l k) (hx : l[k]? = some (p, s, n)) (hp : 0 ≤ p) : Ends (w.setCell ⟨g, p.toNat, none⟩ (.int .i64 (n + 1))) g l (k + 1) := by
  refine (World.rowIs.set h p.toNat (.int .i64 (n + 1))).congr fun i hi => ?_
  rw [endsF_take _ _ _ _ hx]
  by_cases hip : i = p.toNat
  · subst hip
    rw [if_pos rfl, if_pos (by simp only; omega)]
  · rw [if_neg hip, if_neg (by simp only; omega)]

set_option maxRecDepth 100000 in
set_option maxHeartbeats 2000000 in
theorem isScore_any (A : Option Addr) (l : List Nt) (c : Nat) (w : World) (hn : l.length ≤ 1048576) (hA : RA w A l) :
    Calls Tryz.prog 54 #[.slice A l.length c] w fun e w' => e = .returned (.bool (goodB l)) ∧ Below w.heap.size w w' := by
  by_cases h60 : l.length ≤ 60
  · go_enter Tryz.func54, Tryz.ntmps54
    have hq : ¬ (60 < (l.length : Int)) := by omega
    have hzv := zeroV20
    have hzn := zero20_ne
    go_wp2_with fail
    clear hzv hzn
    have hE0 := Ends.zero w l
    have hb0 : Below w.heap.size w (w.alloc (.cells zero20 90)) := (Below.refl _ _).alloc (Nat.le_refl _) _
    generalize w.alloc (.cells zero20 90) = W0 at *
    go_loopw [11] (fun i wr => ∃ k : Nat, k ≤ l.length ∧ i = .int .i64 k ∧ GoodTo l k ∧ Ends wr w.heap.size l k ∧ Below w.heap.size w wr)
      (fun i _ => l.length - (intOf i).toNat)
    case atStart => exact ⟨0, Nat.zero_le _, rfl, GoodTo.zero l, hE0, hb0⟩
    case round =>
      obtain ⟨k, hk, rfl, hgood, hE, hb⟩ := hrel
      have HG := Lib.hid hgood
      clear hgood
      by_cases hlt : k < l.length
      · have hx : l[k]? = some l[k] := List.getElem?_eq_getElem hlt
        generalize l[k] = x at hx
        obtain ⟨p, s, n⟩ := x
        obtain ⟨g, o, rfl, hg, h0, h1, h2⟩ := (hA.below hb) k _ hx
        simp only at h0 h1 h2
        have HX := Lib.hid hx
        have i1 : (0 : Int) ≤ (k : Int) := by omega
        have i2 : (k : Int) < (l.length : Int) := by omega
        clear hx
        go_wp2_with fail
        have hRA : RA (wr.alloc (.cells #[.int .i64 p, .int .i64 s, .int .i64 n] 54)) (some ⟨g, o, none⟩) l := (hA.below hb).alloc _
        have hxc : ∀ j, (wr.alloc (.cells #[.int .i64 p, .int .i64 s, .int .i64 n] 54)).cell? ⟨wr.heap.size, j, none⟩ = #[Value.int .i64 p, .int .i64 s, .int .i64 n][j]? := fun j => World.cell?_alloc_new wr _ _ j
        have hbW : Below w.heap.size w (wr.alloc (.cells #[.int .i64 p, .int .i64 s, .int .i64 n] 54)) := hb.alloc hb.size _
        have hzW : wr.heap.size < (wr.alloc (.cells #[.int .i64 p, .int .i64 s, .int .i64 n] 54)).heap.size := by simp
        have hEW : Ends (wr.alloc (.cells #[.int .i64 p, .int .i64 s, .int .i64 n] 54)) w.heap.size l k := World.rowIs.alloc hE _
        generalize wr.alloc (.cells #[.int .i64 p, .int .i64 s, .int .i64 n] 54) = W at *
        have hEx : w.heap.size < wr.heap.size := World.rowIs.lt hE
        generalize wr.heap.size = xb at *
        have x0 := cell_regrown ((hxc 0).trans rfl)
        have x1 := cell_regrown ((hxc 1).trans rfl)
        have x2 := cell_regrown ((hxc 2).trans rfl)
        have cN : ∀ d os, Calls Tryz.prog 53 #[.agg #[.int .i64 p, .int .i64 s, .int .i64 n]] (grow (redrawn W d) os) fun e w'' => e = .returned (.bool (noteB p s n)) ∧ ∃ q : Regrown, w'' = grow (redrawn W q.d) q.os :=
          fun d os => Calls.regrown_of (implIsNote_any p s n _)
        clear h0 h1 h2
        cases hv : noteB p s n with
        | false =>
          refine wp_region_quiet_below (by kernel_rfl) (by kernel_rfl) ?_
          repeat (go_big_quiet_step (exact (cN _ _)))
          refine wpQuiet_nil ?_
          intro _ hw'
          obtain ⟨q, hw''⟩ := hw'
          subst hw''
          go_wp2
          go_ret
          refine ⟨ret_bool (goodB_false (Good.not_of HX.out fun h => ?_)).symm, hbW.trans ((below_regrown W q.d q.os).mono hbW.size)⟩
          have := h.1
          simp [noteN, hv] at this
        | true =>
          have hv' := (noteN_iff (p, s, n)).1 hv
          simp only at hv'
          have hp1 : (0 : Int) ≤ p := by omega
          have hp2 : p < 20 := by omega
          have e0 := hEW.cell (i := p.toNat) (by omega)
          have hpp : ((p.toNat : Nat) : Int) = p := by omega
          rw [hpp] at e0
          have e0 := cell_regrown e0
          by_cases hse : s < endsF p (l.take k) 0
          · generalize hEE : endsF p (l.take k) 0 = E at *
            have HEE := Lib.hid hEE
            have HPP := Lib.hid hpp
            clear hEE hpp
            refine wp_region_quiet_below (by kernel_rfl) (by kernel_rfl) ?_
            repeat (go_big_quiet_step (exact (cN _ _)))
            refine wpQuiet_nil ?_
            intro _ hw'
            obtain ⟨q, hw''⟩ := hw'
            subst hw''
            go_wp2
            go_ret
            refine ⟨ret_bool (goodB_false (Good.not_of HX.out fun h => ?_)).symm, hbW.trans ((below_regrown W q.d q.os).mono hbW.size)⟩
            have := (okAt_iff HG.out (by omega) h.1 h.2.1).1 h
            rw [HEE.out] at this
            exact this hse
          · have HSE := Lib.hid hse
            generalize hEE : endsF p (l.take k) 0 = E at *
            have HEE := Lib.hid hEE
            have HPP := Lib.hid hpp
            clear hEE hpp
            refine wp_region_quiet_below (by kernel_rfl) (by kernel_rfl) ?_
            repeat (go_big_quiet_step (exact (cN _ _)))
            refine wpQuiet_nil ?_
            intro _ hw'
            obtain ⟨q, hw''⟩ := hw'
            subst hw''
            go_wp2_with fail
            have hbU := hbW.trans ((below_regrown W q.d q.os).mono hbW.size)
            have hxU := fun j => ((below_regrown W q.d q.os).cell (p := ⟨xb, j, none⟩) hzW).trans (hxc j)
            have hRU := hRA.below (below_regrown W q.d q.os)
            have heU := hEW.below (below_regrown W q.d q.os)
            have hzU : xb < (grow (redrawn W q.d) q.os).heap.size := Nat.lt_of_lt_of_le hzW (below_regrown W q.d q.os).size
            generalize grow (redrawn W q.d) q.os = U at *
            have hxU0 := cell_regrown ((hxU 0).trans rfl)
            have hxU1 := cell_regrown ((hxU 1).trans rfl)
            have hxU2 := cell_regrown ((hxU 2).trans rfl)
            clear x0 x1 x2 cN e0
            rcases Nat.eq_zero_or_pos k with hk0 | hk0
            · have hd : decide (0 < k) = false := by simp [hk0]
              have HBEF := Lib.hid (show ∀ y, 0 < k → l[k - 1]? = some y → befN y (p, s, n) = true from fun y h => absurd h (by omega))
              clear hk0
              refine wp_region_quiet_below (by kernel_rfl) (by kernel_rfl) ?_
              repeat (go_big_quiet_step (fail))
              refine wpQuiet_nil ?_
              intro _ hw'
              obtain ⟨q2, hw''⟩ := hw'
              subst hw''
              have hbV := hbU.trans ((below_regrown U q2.d q2.os).mono hbU.size)
              have hxV := fun j => ((below_regrown U q2.d q2.os).cell (p := ⟨xb, j, none⟩) hzU).trans (hxU j)
              have heV := heU.below (below_regrown U q2.d q2.os)
              have hzV : xb < (grow (redrawn U q2.d) q2.os).heap.size := Nat.lt_of_lt_of_le hzU (below_regrown U q2.d q2.os).size
              generalize grow (redrawn U q2.d) q2.os = V at *
              have ux0 := (hxV 0).trans rfl
              have ux1 := (hxV 1).trans rfl
              have ux2 := (hxV 2).trans rfl
              simp only [List.getElem?_toArray] at ux0 ux1 ux2
              have ue := heV.cell (i := p.toNat) (by omega)
              have uf := heV.frozen p.toNat
              have hzE : w.heap.size < V.heap.size := heV.lt
              clear hxU hxV hxc hRA hRU hxU0 hxU1 hxU2
              have hne1 : ¬ (xb = w.heap.size) := by omega
              have hne2 : ¬ (w.heap.size = xb) := by omega
              go_wp2
              go_roundw
              case rel =>
                have hok : okAt l k (p, s, n) := (okAt_iff (x := (p, s, n)) HG.out (by omega) (show noteN (p, s, n) = true from hv) HBEF.out).2 (by rw [HEE.out]; have := HSE.out; simp only; omega)
                have he1 : Ends V w.heap.size l k := heV
                exact ⟨k + 1, by omega, by go_num, HG.out.succ HX.out hok, he1.step HX.out hp1, hbV.setCell (Nat.le_refl _) _⟩
              case measure => simp [intOf]; omega
            · have hd : (0 : Int) < (k : Int) := by omega
              have hy : l[k - 1]? = some l[k - 1] := List.getElem?_eq_getElem (by omega)
              generalize l[k - 1] = y at hy
              obtain ⟨p', s', n'⟩ := y
              obtain ⟨g2, o2, hgo, hg2, y0, y1, y2⟩ := hRU (k - 1) _ hy
              simp only [Option.some.injEq, Addr.mk.injEq, and_true] at hgo
              obtain ⟨rfl, rfl⟩ := hgo
              simp only at y0 y1 y2
              have y0 := cell_regrown y0
              have y1 := cell_regrown y1
              have y2 := cell_regrown y2
              have HY := Lib.hid hy
              have i3 : (0 : Int) ≤ (k : Int) - 1 := by omega
              have i4 : (k : Int) - 1 < (l.length : Int) := by omega
              have cB : ∀ d os, Calls Tryz.prog 70 #[.agg #[.int .i64 p', .int .i64 s', .int .i64 n'], .agg #[.int .i64 p, .int .i64 s, .int .i64 n]] (grow (redrawn U d) os) fun e w'' => e = .returned (.int .i64 (cmpN p' s' p s)) ∧ ∃ q : Regrown, w'' = grow (redrawn U q.d) q.os :=
                fun d os => Calls.regrown_of (compareNotes_any p' s' n' p s n _)
              have hcb := cmpN_bef (p', s', n') (p, s, n)
              simp only at hcb
              clear hy
              generalize cmpN p' s' p s = cz at *
              have HCB := Lib.hid hcb
              clear hcb
              by_cases hcz : cz < 0
              · have HBEF := Lib.hid (show ∀ y, 0 < k → l[k - 1]? = some y → befN y (p, s, n) = true from fun y _ hy => by have e := HY.out.symm.trans hy; injection e with e; subst e; exact HCB.out.1 hcz)
                refine wp_region_quiet_below (by kernel_rfl) (by kernel_rfl) ?_
                repeat (go_big_quiet_step (exact (cB _ _)))
                refine wpQuiet_nil ?_
                intro _ hw'
                obtain ⟨q2, hw''⟩ := hw'
                subst hw''
                have hbV := hbU.trans ((below_regrown U q2.d q2.os).mono hbU.size)
                have hxV := fun j => ((below_regrown U q2.d q2.os).cell (p := ⟨xb, j, none⟩) hzU).trans (hxU j)
                have heV := heU.below (below_regrown U q2.d q2.os)
                have hzV : xb < (grow (redrawn U q2.d) q2.os).heap.size := Nat.lt_of_lt_of_le hzU (below_regrown U q2.d q2.os).size
                generalize grow (redrawn U q2.d) q2.os = V at *
                have ux0 := (hxV 0).trans rfl
                have ux1 := (hxV 1).trans rfl
                have ux2 := (hxV 2).trans rfl
                simp only [List.getElem?_toArray] at ux0 ux1 ux2
                have ue := heV.cell (i := p.toNat) (by omega)
                have uf := heV.frozen p.toNat
                have hzE : w.heap.size < V.heap.size := heV.lt
                clear hxU hxV hxc hRA hRU hxU0 hxU1 hxU2
                have hne1 : ¬ (xb = w.heap.size) := by omega
                have hne2 : ¬ (w.heap.size = xb) := by omega
                go_wp2
                go_roundw
                case rel =>
                  have hok : okAt l k (p, s, n) := (okAt_iff (x := (p, s, n)) HG.out (by omega) (show noteN (p, s, n) = true from hv) HBEF.out).2 (by rw [HEE.out]; have := HSE.out; simp only; omega)
                  have he1 : Ends V w.heap.size l k := heV
                  exact ⟨k + 1, by omega, by go_num, HG.out.succ HX.out hok, he1.step HX.out hp1, hbV.setCell (Nat.le_refl _) _⟩
                case measure => simp [intOf]; omega
              · have hcz : 0 ≤ cz := by omega
                refine wp_region_quiet_below (by kernel_rfl) (by kernel_rfl) ?_
                repeat (go_big_quiet_step (exact (cB _ _)))
                refine wpQuiet_nil ?_
                intro _ hw'
                obtain ⟨q2, hw''⟩ := hw'
                subst hw''
                go_wp2
                go_ret
                refine ⟨ret_bool (goodB_false (Good.not_of HX.out fun h => ?_)).symm, hbU.trans ((below_regrown U q2.d q2.os).mono hbU.size)⟩
                have := HCB.out.2 (h.2.1 _ hk0 HY.out)
                omega
      · obtain rfl : k = l.length := by omega
        go_wp2
        go_ret
        exact ⟨ret_bool ((goodB_iff l).2 ⟨HG.out, h60⟩).symm, hb⟩
  · go_enter Tryz.func54, Tryz.ntmps54
    have hq : 60 < (l.length : Int) := by omega
    go_wp2
    go_ret
    exact ⟨ret_bool (goodB_false fun h => h60 h.2).symm, Below.refl _ _⟩
end Go.Proofs.YtkfgmkgbicahgaaGreatDoor.H

namespace Go.Proofs.YtkfgmkgbicahgaaGreatDoor.H
open Go.RowKit Go.Sort
set_option linter.unusedVariables false

set_option maxRecDepth 100000 in
set_option maxHeartbeats 2000000 in
theorem ntGood_any (A : Option Addr) (l : List Nt) (c : Nat) (w : World) (hn : l.length ≤ 1048576) (hc : l.length ≤ c) (hc' : c ≤ 9223372036854775807) (hA : RA w A l) :
    Calls Tryz.prog 47 #[.slice A l.length c] w fun e w' => e = .returned (.bool (goodB l)) ∧ Below w.heap.size w w' := by
  go_enter Tryz.func47, Tryz.ntmps47
  go_wp2
  go_loopw [9] (fun i wr => ∃ k : Nat, k ≤ l.length ∧ i = .int .i64 k ∧ GoodTo l k ∧ Below w.heap.size w wr)
    (fun i _ => l.length - (intOf i).toNat)
  case atStart => exact ⟨0, Nat.zero_le _, rfl, GoodTo.zero l, Below.refl _ _⟩
  case round =>
    obtain ⟨k, hk, rfl, hgood, hb⟩ := hrel
    have HG := Lib.hid hgood
    clear hgood
    by_cases hlt : k < l.length
    · have hx : l[k]? = some l[k] := List.getElem?_eq_getElem hlt
      generalize l[k] = x at hx
      obtain ⟨p, s, n⟩ := x
      obtain ⟨g, o, rfl, hg, h0, h1, h2⟩ := (hA.below hb) k _ hx
      simp only at h0 h1 h2
      have HX := Lib.hid hx
      have i1 : (0 : Int) ≤ (k : Int) := by omega
      have i2 : (k : Int) < (l.length : Int) := by omega
      clear hx
      go_wp2_with fail
      have hRA : RA (wr.alloc (.cells #[.int .i64 p, .int .i64 s, .int .i64 n] 54)) (some ⟨g, o, none⟩) l := (hA.below hb).alloc _
      have hxc : ∀ j, (wr.alloc (.cells #[.int .i64 p, .int .i64 s, .int .i64 n] 54)).cell? ⟨wr.heap.size, j, none⟩ = #[Value.int .i64 p, .int .i64 s, .int .i64 n][j]? := fun j => World.cell?_alloc_new wr _ _ j
      have hbW : Below w.heap.size w (wr.alloc (.cells #[.int .i64 p, .int .i64 s, .int .i64 n] 54)) := hb.alloc hb.size _
      have hzW : wr.heap.size < (wr.alloc (.cells #[.int .i64 p, .int .i64 s, .int .i64 n] 54)).heap.size := by simp
      generalize wr.alloc (.cells #[.int .i64 p, .int .i64 s, .int .i64 n] 54) = W at *
      generalize wr.heap.size = xb at *
      have x0 := cell_regrown ((hxc 0).trans rfl)
      have x1 := cell_regrown ((hxc 1).trans rfl)
      have x2 := cell_regrown ((hxc 2).trans rfl)
      have cN : ∀ d os, Calls Tryz.prog 45 #[.agg #[.int .i64 p, .int .i64 s, .int .i64 n]] (grow (redrawn W d) os) fun e w'' => e = .returned (.bool (noteB p s n)) ∧ ∃ q : Regrown, w'' = grow (redrawn W q.d) q.os :=
        fun d os => Calls.regrown_of (ntNote_any p s n _)
      have hlt' : xb < W.heap.size := hzW
      clear h0 h1 h2 hA
      have HXC := Lib.hid hxc
      clear hxc
      cases hv : noteB p s n with
      | false =>
        have CN := Lib.hid cN
        clear cN
        refine wp_region_quiet_below (by kernel_rfl) (by kernel_rfl) ?_
        repeat (go_big_quiet_step (exact (CN.out _ _)))
        refine wpQuiet_nil ?_
        intro _ hw'
        obtain ⟨q, hw''⟩ := hw'
        subst hw''
        go_wp2
        go_ret
        refine ⟨ret_bool (goodB_false (Good.not_of HX.out fun h => ?_)).symm, hbW.trans ((below_regrown W q.d q.os).mono hbW.size)⟩
        have := h.1
        simp [noteN, hv] at this
      | true =>
        rcases Nat.eq_zero_or_pos k with hk0 | hk0
        · have hd : decide (0 < k) = false := by simp [hk0]
          have HK0 := Lib.hid hk0
          clear hk0
          refine wp_region_quiet_below (by kernel_rfl) (by kernel_rfl) ?_
          repeat (go_big_quiet_step (exact (cN _ _)))
          refine wpQuiet_nil ?_
          intro _ hw'
          obtain ⟨q, hw''⟩ := hw'
          subst hw''
          have HBEF := Lib.hid (show ∀ y, 0 < k → l[k - 1]? = some y → befN y (p, s, n) = true from fun y h => absurd h (by have := HK0.out; omega))
          have hxc := HXC.out
          go_wp2_with fail
          have hbV := hbW.trans ((below_regrown W q.d q.os).mono hbW.size)
          have hxV := fun j => ((below_regrown W q.d q.os).cell (p := ⟨xb, j, none⟩) hzW).trans (hxc j)
          have hRV := hRA.below (below_regrown W q.d q.os)
          have hzV : xb < (grow (redrawn W q.d) q.os).heap.size := Nat.lt_of_lt_of_le hzW (below_regrown W q.d q.os).size
          generalize grow (redrawn W q.d) q.os = V at *
          clear x0 x1 x2 hRA cN
          go_loopw [35] (fun i vr => ∃ j : Nat, j ≤ k ∧ i = .int .i64 j ∧ (∀ i' y, i' < j → l[i']? = some y → meetN (p, s, n) y = false) ∧ Below V.heap.size V vr)
            (fun i _ => k - (intOf i).toNat)
          case atStart => exact ⟨0, Nat.zero_le _, rfl, fun _ _ h => absurd h (by omega), Below.refl _ _⟩
          case round =>
            obtain ⟨j, hj, rfl, hmeet, hbr⟩ := hrel
            have HM := Lib.hid hmeet
            clear hmeet
            by_cases hjk : j < k
            · have hyj : l[j]? = some l[j] := List.getElem?_eq_getElem (by omega)
              generalize l[j] = yj at hyj
              have hvy := (noteN_iff yj).1 (HG.out j yj hjk hyj).1
              obtain ⟨pj, sj, nj⟩ := yj
              simp only at hvy
              have hvx := (noteN_iff (p, s, n)).1 hv
              simp only at hvx
              obtain ⟨g3, o3, hgo3, hg3, z0, z1, z2⟩ := (hRV.below hbr) j _ hyj
              simp only [Option.some.injEq, Addr.mk.injEq, and_true] at hgo3
              obtain ⟨rfl, rfl⟩ := hgo3
              simp only at z0 z1 z2
              have xr0 := (hbr.cell (p := ⟨xb, 0, none⟩) hzV).trans (hxV 0)
              have xr1 := (hbr.cell (p := ⟨xb, 1, none⟩) hzV).trans (hxV 1)
              have xr2 := (hbr.cell (p := ⟨xb, 2, none⟩) hzV).trans (hxV 2)
              have hzr : xb < _ := Nat.lt_of_lt_of_le hzV hbr.size
              have j1 : (0 : Int) ≤ (j : Int) := by omega
              have j2 : (j : Int) < (k : Int) := by omega
              have HYJ := Lib.hid hyj
              have HXV := Lib.hid hxV
              have HVC := Lib.hid hv
              clear hyj hxV hv
              by_cases hpp : p = pj
              · by_cases hss : s ≤ nj
                · have HMM := Lib.hid (show meetN (p, s, n) (pj, sj, nj) = true from (meetN_iff _ _).2 ⟨hpp, hss⟩)
                  go_wp2
                  go_ret
                  refine ⟨ret_bool (goodB_false (Good.not_of HX.out fun h => ?_)).symm, hbV.trans ((hbr.mono hbV.size).trans ((Below.refl _ _).alloc (Nat.le_trans hbV.size hbr.size) _))⟩
                  have := h.2.2 j _ hjk HYJ.out
                  rw [HMM.out] at this
                  cases this
                · have HMM := Lib.hid (show meetN (p, s, n) (pj, sj, nj) = false from by
                    cases hq : meetN (p, s, n) (pj, sj, nj) with
                    | false => rfl
                    | true => exact absurd ((meetN_iff _ _).1 hq).2 hss)
                  go_wp2
                  go_roundw
                  case rel =>
                    refine ⟨j + 1, by omega, by go_num, ?_, hbr.trans ((Below.refl _ _).alloc hbr.size _)⟩
                    intro i' y hi hy
                    rcases Nat.lt_or_ge i' j with h | h
                    · exact HM.out i' y h hy
                    · obtain rfl : i' = j := by omega
                      have e := HYJ.out.symm.trans hy
                      injection e with e
                      subst e
                      exact HMM.out
                  case measure => simp [intOf]; omega
              · have HMM := Lib.hid (show meetN (p, s, n) (pj, sj, nj) = false from by
                  cases hq : meetN (p, s, n) (pj, sj, nj) with
                  | false => rfl
                  | true => exact absurd ((meetN_iff _ _).1 hq).1 hpp)
                go_wp2
                go_roundw
                case rel =>
                  refine ⟨j + 1, by omega, by go_num, ?_, hbr.trans ((Below.refl _ _).alloc hbr.size _)⟩
                  intro i' y hi hy
                  rcases Nat.lt_or_ge i' j with h | h
                  · exact HM.out i' y h hy
                  · obtain rfl : i' = j := by omega
                    have e := HYJ.out.symm.trans hy
                    injection e with e
                    subst e
                    exact HMM.out
                case measure => simp [intOf]; omega
            · obtain rfl : j = k := by omega
              go_wp2
              go_roundw
              case rel => exact ⟨j + 1, by omega, by go_num, HG.out.succ HX.out ⟨hv, HBEF.out, HM.out⟩, hbV.trans (hbr.mono hbV.size)⟩
              case measure => simp [intOf]; omega
        · have hd : (0 : Int) < (k : Int) := by omega
          have hy : l[k - 1]? = some l[k - 1] := List.getElem?_eq_getElem (by omega)
          generalize l[k - 1] = y at hy
          obtain ⟨p', s', n'⟩ := y
          obtain ⟨g2, o2, hgo, hg2, y0, y1, y2⟩ := hRA (k - 1) _ hy
          simp only [Option.some.injEq, Addr.mk.injEq, and_true] at hgo
          obtain ⟨rfl, rfl⟩ := hgo
          simp only at y0 y1 y2
          have y0 := cell_regrown y0
          have y1 := cell_regrown y1
          have y2 := cell_regrown y2
          have HY := Lib.hid hy
          have i3 : (0 : Int) ≤ (k : Int) - 1 := by omega
          have i4 : (k : Int) - 1 < (l.length : Int) := by omega
          have cB : ∀ d os, Calls Tryz.prog 46 #[.agg #[.int .i64 p', .int .i64 s', .int .i64 n'], .agg #[.int .i64 p, .int .i64 s, .int .i64 n]] (grow (redrawn W d) os) fun e w'' => e = .returned (.bool (befB p' s' p s)) ∧ ∃ q : Regrown, w'' = grow (redrawn W q.d) q.os :=
            fun d os => Calls.regrown_of (ntBefore_any p' s' n' p s n _)
          clear hy
          cases hbf : befB p' s' p s with
          | false =>
            refine wp_region_quiet_below (by kernel_rfl) (by kernel_rfl) ?_
            repeat (go_big_quiet_step (first | exact (cN _ _) | exact (cB _ _)))
            refine wpQuiet_nil ?_
            intro _ hw'
            obtain ⟨q, hw''⟩ := hw'
            subst hw''
            go_wp2
            go_ret
            refine ⟨ret_bool (goodB_false (Good.not_of HX.out fun h => ?_)).symm, hbW.trans ((below_regrown W q.d q.os).mono hbW.size)⟩
            have := h.2.1 _ hk0 HY.out
            simp [befN, hbf] at this
          | true =>
            refine wp_region_quiet_below (by kernel_rfl) (by kernel_rfl) ?_
            repeat (go_big_quiet_step (first | exact (cN _ _) | exact (cB _ _)))
            refine wpQuiet_nil ?_
            intro _ hw'
            obtain ⟨q, hw''⟩ := hw'
            subst hw''
            have HBEF := Lib.hid (show ∀ y, 0 < k → l[k - 1]? = some y → befN y (p, s, n) = true from fun y _ hy => by have e := HY.out.symm.trans hy; injection e with e; subst e; exact hbf)
            have hxc := HXC.out
            go_wp2_with fail
            clear hbf
            go_wp2_with fail
            have hbV := hbW.trans ((below_regrown W q.d q.os).mono hbW.size)
            have hxV := fun j => ((below_regrown W q.d q.os).cell (p := ⟨xb, j, none⟩) hzW).trans (hxc j)
            have hRV := hRA.below (below_regrown W q.d q.os)
            have hzV : xb < (grow (redrawn W q.d) q.os).heap.size := Nat.lt_of_lt_of_le hzW (below_regrown W q.d q.os).size
            generalize grow (redrawn W q.d) q.os = V at *
            clear x0 x1 x2 hRA cN cB y0 y1 y2
            go_loopw [35] (fun i vr => ∃ j : Nat, j ≤ k ∧ i = .int .i64 j ∧ (∀ i' y, i' < j → l[i']? = some y → meetN (p, s, n) y = false) ∧ Below V.heap.size V vr)
              (fun i _ => k - (intOf i).toNat)
            case atStart => exact ⟨0, Nat.zero_le _, rfl, fun _ _ h => absurd h (by omega), Below.refl _ _⟩
            case round =>
              obtain ⟨j, hj, rfl, hmeet, hbr⟩ := hrel
              have HM := Lib.hid hmeet
              clear hmeet
              by_cases hjk : j < k
              · have hyj : l[j]? = some l[j] := List.getElem?_eq_getElem (by omega)
                generalize l[j] = yj at hyj
                have hvy := (noteN_iff yj).1 (HG.out j yj hjk hyj).1
                obtain ⟨pj, sj, nj⟩ := yj
                simp only at hvy
                have hvx := (noteN_iff (p, s, n)).1 hv
                simp only at hvx
                obtain ⟨g3, o3, hgo3, hg3, z0, z1, z2⟩ := (hRV.below hbr) j _ hyj
                simp only [Option.some.injEq, Addr.mk.injEq, and_true] at hgo3
                obtain ⟨rfl, rfl⟩ := hgo3
                simp only at z0 z1 z2
                have xr0 := (hbr.cell (p := ⟨xb, 0, none⟩) hzV).trans (hxV 0)
                have xr1 := (hbr.cell (p := ⟨xb, 1, none⟩) hzV).trans (hxV 1)
                have xr2 := (hbr.cell (p := ⟨xb, 2, none⟩) hzV).trans (hxV 2)
                have hzr : xb < _ := Nat.lt_of_lt_of_le hzV hbr.size
                have j1 : (0 : Int) ≤ (j : Int) := by omega
                have j2 : (j : Int) < (k : Int) := by omega
                have HYJ := Lib.hid hyj
                have HXV := Lib.hid hxV
                have HVC := Lib.hid hv
                clear hyj hxV hv
                by_cases hpp : p = pj
                · by_cases hss : s ≤ nj
                  · have HMM := Lib.hid (show meetN (p, s, n) (pj, sj, nj) = true from (meetN_iff _ _).2 ⟨hpp, hss⟩)
                    go_wp2
                    go_ret
                    refine ⟨ret_bool (goodB_false (Good.not_of HX.out fun h => ?_)).symm, hbV.trans ((hbr.mono hbV.size).trans ((Below.refl _ _).alloc (Nat.le_trans hbV.size hbr.size) _))⟩
                    have := h.2.2 j _ hjk HYJ.out
                    rw [HMM.out] at this
                    cases this
                  · have HMM := Lib.hid (show meetN (p, s, n) (pj, sj, nj) = false from by
                      cases hq : meetN (p, s, n) (pj, sj, nj) with
                      | false => rfl
                      | true => exact absurd ((meetN_iff _ _).1 hq).2 hss)
                    go_wp2
                    go_roundw
                    case rel =>
                      refine ⟨j + 1, by omega, by go_num, ?_, hbr.trans ((Below.refl _ _).alloc hbr.size _)⟩
                      intro i' y hi hy
                      rcases Nat.lt_or_ge i' j with h | h
                      · exact HM.out i' y h hy
                      · obtain rfl : i' = j := by omega
                        have e := HYJ.out.symm.trans hy
                        injection e with e
                        subst e
                        exact HMM.out
                    case measure => simp [intOf]; omega
                · have HMM := Lib.hid (show meetN (p, s, n) (pj, sj, nj) = false from by
                    cases hq : meetN (p, s, n) (pj, sj, nj) with
                    | false => rfl
                    | true => exact absurd ((meetN_iff _ _).1 hq).1 hpp)
                  go_wp2
                  go_roundw
                  case rel =>
                    refine ⟨j + 1, by omega, by go_num, ?_, hbr.trans ((Below.refl _ _).alloc hbr.size _)⟩
                    intro i' y hi hy
                    rcases Nat.lt_or_ge i' j with h | h
                    · exact HM.out i' y h hy
                    · obtain rfl : i' = j := by omega
                      have e := HYJ.out.symm.trans hy
                      injection e with e
                      subst e
                      exact HMM.out
                  case measure => simp [intOf]; omega
              · obtain rfl : j = k := by omega
                go_wp2
                go_roundw
                case rel => exact ⟨j + 1, by omega, by go_num, HG.out.succ HX.out ⟨hv, HBEF.out, HM.out⟩, hbV.trans (hbr.mono hbV.size)⟩
                case measure => simp [intOf]; omega
    · obtain rfl : k = l.length := by omega
      have hG := HG.out
      by_cases h60 : l.length ≤ 60
      · go_wp2
        go_ret
        refine ⟨ret_bool ?_, hb⟩
        rw [(goodB_iff l).2 ⟨hG, h60⟩]
        simp
        omega
      · go_wp2
        go_ret
        refine ⟨ret_bool ?_, hb⟩
        rw [goodB_false (fun h => h60 h.2)]
        simp
        omega
end Go.Proofs.YtkfgmkgbicahgaaGreatDoor.H

namespace Go.Proofs.YtkfgmkgbicahgaaGreatDoor.H
open Go.RowKit
theorem inR_iff {n lo hi : Int} : inR n lo hi = true ↔ lo ≤ n ∧ n ≤ hi := by simp [inR]
theorem isSheet_quick (A : Option Addr) (l : List Nt) (c : Nat) (b : Bool) (hn : l.length ≤ 1048576) (h : goodB l = b) :
    Hid (∀ (W : World), RA W A l → Calls Tryz.prog 54 #[.slice A l.length c] W fun e w' => e = .returned (.bool b) ∧ Below W.heap.size W w') := by
  subst h
  exact Lib.hid fun W hA => isScore_any A l c W hn hA
theorem shGood_quick (A : Option Addr) (l : List Nt) (c : Nat) (b : Bool) (hn : l.length ≤ 1048576) (hc : l.length ≤ c) (hc' : c ≤ 9223372036854775807) (h : goodB l = b) :
    Hid (∀ (W : World), RA W A l → Calls Tryz.prog 47 #[.slice A l.length c] W fun e w' => e = .returned (.bool b) ∧ Below W.heap.size W w') := by
  subst h
  exact Lib.hid fun W hA => ntGood_any A l c W hn hc hc' hA
end Go.Proofs.YtkfgmkgbicahgaaGreatDoor.H

namespace Go.Proofs.YtkfgmkgbicahgaaGreatDoor.H
open Go.RowKit
set_option linter.unusedVariables false

/-- A call returned a sheet of its own, or nil and false; below the heap's old size nothing has turned. -/
def RetScore (B : World) (l : List Nt) (ok : Bool) (e : Ending) (w' : World) : Prop :=
  ∃ v, e = .returned (.tuple #[v, .bool ok]) ∧ Own w' B.heap.size 54 v (if ok = true then l else []) ∧ Below B.heap.size B w'
theorem RetScore.mono {B B' : World} {l : List Nt} {ok : Bool} {e : Ending} {w' : World} (h : RetScore B' l ok e w') (hb : Below B.heap.size B B') : RetScore B l ok e w' := by
  obtain ⟨v, he, ho, hbl⟩ := h
  refine ⟨v, he, ?_, hb.trans (hbl.mono hb.size)⟩
  exact ho.mono hb.size
end Go.Proofs.YtkfgmkgbicahgaaGreatDoor.H

namespace Go.Proofs.YtkfgmkgbicahgaaGreatDoor.H
set_option linter.unusedVariables false

theorem Good.bef {l : List Nt} (h : Good l) : ∀ (j i : Nat) (x y : Nt), i < j → l[i]? = some x → l[j]? = some y → befN x y = true := by
  intro j
  induction j with
  | zero => intro i x y h; omega
  | succ j ih =>
    intro i x y hij hx hy
    have hj := (List.getElem?_eq_some_iff.1 hy).1
    have hm : l[j]? = some l[j] := List.getElem?_eq_getElem (by omega)
    have h1 := (h.1 (j + 1) y hj hy).2.1 _ (by omega) hm
    rcases Nat.lt_or_ge i j with h2 | h2
    · exact befN_trans (ih i x _ h2 hx hm) h1
    · obtain rfl : i = j := by omega
      rw [hm] at hx; injection hx with hx; subst hx
      exact h1

theorem srt_uniq {zs ys : List Nt} (hp : zs.Perm ys) (hz : Srt zs) (hy : Srt ys) (hg : Good ys) : zs = ys := by
  refine List.Perm.eq_of_pairwise ?_ hz hy hp
  intro a b ha hb h1 h2
  obtain ⟨i, hi⟩ := List.mem_iff_getElem?.1 (hp.mem_iff.1 ha)
  obtain ⟨j, hj⟩ := List.mem_iff_getElem?.1 hb
  rcases Nat.lt_trichotomy i j with h | h | h
  · have := hg.bef j i a b h hi hj; rw [h2] at this; cases this
  · subst h; rw [hi] at hj; injection hj
  · have := hg.bef i j b a h hj hi; rw [h1] at this; cases this

theorem canon_good {ys l : List Nt} (hp : ys.Perm l) (hs : Srt ys) : goodB ys = goodB (canon l) ∧ (if goodB ys = true then ys else []) = (if goodB (canon l) = true then canon l else []) := by
  have hpc : ys.Perm (canon l) := hp.trans (canon_perm l).symm
  cases h1 : goodB ys with
  | true =>
    have e := srt_uniq hpc.symm (canon_srt l) hs ((goodB_iff ys).1 h1)
    rw [e, h1]
    exact ⟨rfl, rfl⟩
  | false =>
    cases h2 : goodB (canon l) with
    | false => exact ⟨rfl, rfl⟩
    | true =>
      have e := srt_uniq hpc hs (canon_srt l) ((goodB_iff _).1 h2)
      rw [e, h2] at h1
      cases h1

end Go.Proofs.YtkfgmkgbicahgaaGreatDoor.H
