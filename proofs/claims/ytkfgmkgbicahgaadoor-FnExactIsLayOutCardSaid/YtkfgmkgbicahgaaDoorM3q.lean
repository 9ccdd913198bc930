/- Texts of the proof, run together: HCmp, HGood, HHoleTwo, HRet, InsG, PairP, Put, RetI. -/
import Derived.Test.YtkfgmkgbicahgaaDoorM2q
import Derived.Test.YtkfgmkgbicahgaaDoorM1q
import Derived.StillTailTactics
import Derived.Deep.RegionWith
import Derived.Handy
import Derived.LoopTactic
import Derived.Lib.QuietBelow
import Derived.OwnWalk
namespace Go.Proofs.YtkfgmkgbicahgaaDoor.H
open Go.RowKit
set_option linter.unusedVariables false

set_option maxRecDepth 100000 in
set_option maxHeartbeats 1000000 in
theorem compareNotes_any (p s n p' s' n' : Int) (w : World) :
    Calls Tryd.prog 83 #[.agg #[.int .i64 p, .int .i64 s, .int .i64 n], .agg #[.int .i64 p', .int .i64 s', .int .i64 n']] w
      fun e w' => e = .returned (.int .i64 (cmpN p s p' s')) ∧ Below w.heap.size w w' := by
  go_enter Tryd.func83, Tryd.ntmps83
  go_wp2_with fail
  refine wp_region_still_tail 10 (by kernel_rfl) (by kernel_rfl) ?_
  change wpStill _ _ (World.drew _) (fun a' => wpList _ _ _ _ a' (World.drew _)) _ _
  simp only [List.take_succ_cons, List.take_zero, List.drop_succ_cons, List.drop_zero]
  repeat still_step
  still_call (cmpCompare_same _ _ _)
  repeat still_step
  still_call (cmpCompare_same _ _ _)
  repeat still_step
  try refine wpStill_nil ?_
  go_wp2_with (go_at_call 95; refine (cmpOr_any _ (cmpZ s s') (cmpZ p p') _ (by go_simp) (by go_simp)).mono ?_; rintro e w1 ⟨rfl, rfl⟩)
  go_ret
  exact ⟨rfl, by first | exact ((((Below.refl _ _).alloc (Nat.le_refl _) _).alloc (by simp) _).drew).alloc (by simp; omega) _ | exact ((((Below.refl _ _).alloc (Nat.le_refl _) _).alloc (by simp) _).alloc (by simp; omega) _).drew⟩
end Go.Proofs.YtkfgmkgbicahgaaDoor.H

namespace Go.Proofs.YtkfgmkgbicahgaaDoor.H
open Go.RowKit

def noteN (x : Nt) : Bool := noteB x.1 x.2.1 x.2.2
def meetN (x y : Nt) : Bool := meetB x.1 x.2.1 x.2.2 y.1 y.2.1 y.2.2
/-- Note k of l is valid, behind the one before it, and meets none before it. -/
def okAt (l : List Nt) (k : Nat) (x : Nt) : Prop :=
  noteN x = true ∧ (∀ y, 0 < k → l[k - 1]? = some y → befN y x = true) ∧ ∀ j y, j < k → l[j]? = some y → meetN x y = false
def GoodTo (l : List Nt) (k : Nat) : Prop := ∀ i x, i < k → l[i]? = some x → okAt l i x
def Good (l : List Nt) : Prop := GoodTo l l.length ∧ l.length ≤ 60

theorem noteN_iff (x : Nt) : noteN x = true ↔ 0 ≤ x.1 ∧ x.1 ≤ 19 ∧ 0 ≤ x.2.1 ∧ x.2.1 < x.2.2 ∧ x.2.2 ≤ 2000 := noteB_iff _ _ _
theorem meetN_iff (x y : Nt) : meetN x y = true ↔ x.1 = y.1 ∧ x.2.1 ≤ y.2.2 := by
  simp [meetN, meetB]

theorem GoodTo.zero (l : List Nt) : GoodTo l 0 := fun _ _ h => absurd h (by omega)
theorem GoodTo.succ {l : List Nt} {k : Nat} {x : Nt} (h : GoodTo l k) (hx : l[k]? = some x) (ho : okAt l k x) : GoodTo l (k + 1) := by
  intro i y hi hy
  rcases Nat.lt_or_ge i k with hik | hik
  · exact h i y hik hy
  · obtain rfl : i = k := by omega
    rw [hx] at hy; injection hy with hy; subst hy; exact ho
theorem Good.not_of {l : List Nt} {k : Nat} {x : Nt} (hx : l[k]? = some x) (ho : ¬ okAt l k x) : ¬ Good l := fun h => ho (h.1 k x (List.getElem?_eq_some_iff.1 hx).1 hx)

/-- Starts do not fall along a good beginning. -/
theorem GoodTo.mono {l : List Nt} {k : Nat} (h : GoodTo l k) : ∀ i j x y, i ≤ j → j < k → l[i]? = some x → l[j]? = some y → x.2.1 ≤ y.2.1 := by
  intro i j x y hij
  induction j generalizing y with
  | zero =>
    intro _ hx hy
    obtain rfl : i = 0 := by omega
    rw [hx] at hy; injection hy with hy; subst hy; exact Int.le_refl _
  | succ j ih =>
    intro hj hx hy
    rcases Nat.lt_or_ge j i with hji | hji
    · obtain rfl : i = j + 1 := by omega
      rw [hx] at hy; injection hy with hy; subst hy; exact Int.le_refl _
    · have hlt : j < l.length := by have := (List.getElem?_eq_some_iff.1 hy).1; omega
      have hz : l[j]? = some l[j] := List.getElem?_eq_getElem hlt
      have h1 := ih _ hji (by omega) hx hz
      have h2 := (h (j + 1) y hj hy).2.1 l[j] (by omega) (by simp)
      rw [befN_iff] at h2
      omega

/-- One behind the end of the last hole of a track among holes, 0 without one. -/
def endsF (p : Int) : List Nt → Int → Int
  | [], a => a
  | y :: r, a => endsF p r (if y.1 = p then y.2.2 + 1 else a)
theorem endsF_snoc (p : Int) (l : List Nt) (x : Nt) (a : Int) : endsF p (l ++ [x]) a = if x.1 = p then x.2.2 + 1 else endsF p l a := by
  induction l generalizing a with
  | nil => rfl
  | cons y l ih => simp only [List.cons_append, endsF, ih]
theorem endsF_take (p : Int) (l : List Nt) (k : Nat) (x : Nt) (hx : l[k]? = some x) : endsF p (l.take (k + 1)) 0 = if x.1 = p then x.2.2 + 1 else endsF p (l.take k) 0 := by
  rw [List.take_add_one, hx]
  exact endsF_snoc p _ x 0

/-- Along a good beginning the last end of a pitch is the greatest, and it is one of a note of the pitch, or 0. -/
theorem endsF_spec {l : List Nt} {k : Nat} (h : GoodTo l k) (hk : k ≤ l.length) (p : Int) :
    (∀ j y, j < k → l[j]? = some y → y.1 = p → y.2.2 + 1 ≤ endsF p (l.take k) 0) ∧
    (endsF p (l.take k) 0 = 0 ∨ ∃ j y, j < k ∧ l[j]? = some y ∧ y.1 = p ∧ endsF p (l.take k) 0 = y.2.2 + 1) := by
  induction k with
  | zero => exact ⟨fun _ _ h => absurd h (by omega), .inl rfl⟩
  | succ k ih =>
    have hx : l[k]? = some l[k] := List.getElem?_eq_getElem (by omega)
    generalize l[k] = x at hx
    have hg : GoodTo l k := fun i y hi hy => h i y (by omega) hy
    obtain ⟨ha, hb⟩ := ih hg (by omega)
    have hok := h k x (by omega) hx
    rw [endsF_take p l k x hx]
    by_cases hp : x.1 = p
    · rw [if_pos hp]
      refine ⟨fun j y hj hy hyp => ?_, .inr ⟨k, x, by omega, hx, hp, rfl⟩⟩
      rcases Nat.lt_or_ge j k with hjk | hjk
      · have hm := hok.2.2 j y hjk hy
        have hle := h.mono j k y x (by omega) (by omega) hy hx
        have hv := (noteN_iff x).1 hok.1
        have hv' := (noteN_iff y).1 (h j y (by omega) hy).1
        have : ¬ (meetN x y = true) := by rw [hm]; simp
        rw [meetN_iff] at this
        have : ¬ (x.2.1 ≤ y.2.2) := fun hh => this ⟨by rw [hp, hyp], hh⟩
        omega
      · obtain rfl : j = k := by omega
        rw [hx] at hy; injection hy with hy; subst hy; exact Int.le_refl _
    · rw [if_neg hp]
      refine ⟨fun j y hj hy hyp => ?_, ?_⟩
      · rcases Nat.lt_or_ge j k with hjk | hjk
        · exact ha j y hjk hy hyp
        · obtain rfl : j = k := by omega
          rw [hx] at hy; injection hy with hy; subst hy; exact absurd hyp hp
      · rcases hb with hb | ⟨j, y, hj, hy, hyp, he⟩
        · exact .inl hb
        · exact .inr ⟨j, y, by omega, hy, hyp, he⟩

/-- The program's way of asking whether note k goes on. -/
theorem okAt_iff {l : List Nt} {k : Nat} {x : Nt} (h : GoodTo l k) (hk : k ≤ l.length) (hv : noteN x = true) (hbef : ∀ y, 0 < k → l[k - 1]? = some y → befN y x = true) :
    okAt l k x ↔ ¬ (x.2.1 < endsF x.1 (l.take k) 0) := by
  obtain ⟨ha, hb⟩ := endsF_spec h hk x.1
  have hx := (noteN_iff x).1 hv
  have hle : ∀ j y, j < k → l[j]? = some y → y.2.1 ≤ x.2.1 := by
    intro j y hj hy
    have hz : l[k - 1]? = some l[k - 1] := List.getElem?_eq_getElem (by omega)
    have h1 := h.mono j (k - 1) y _ (by omega) (by omega) hy hz
    have h2 := (befN_iff _ _).1 (hbef _ (by omega) hz)
    omega
  constructor
  · intro ho hlt
    rcases hb with hb | ⟨j, y, hj, hy, hyp, he⟩
    · omega
    · have hm := ho.2.2 j y hj hy
      have : ¬ (meetN x y = true) := by rw [hm]; simp
      rw [meetN_iff] at this
      have h1 := hle j y hj hy
      exact this ⟨hyp.symm, by omega⟩
  · intro hn
    refine ⟨hv, hbef, fun j y hj hy => ?_⟩
    cases hm : meetN x y with
    | false => rfl
    | true =>
      rw [meetN_iff] at hm
      have := ha j y hj hy hm.1.symm
      omega

/-- Whether note k is such, as a Bool. -/
def okB (l : List Nt) (k : Nat) : Bool :=
  match l[k]? with
  | none => true
  | some x => noteN x && ((decide (k = 0) || (match l[k - 1]? with | some y => befN y x | none => true)) && (l.take k).all fun y => !meetN x y)
def goodB (l : List Nt) : Bool := (List.range l.length).all (okB l) && decide (l.length ≤ 60)

theorem okB_iff {l : List Nt} {k : Nat} {x : Nt} (hx : l[k]? = some x) : okB l k = true ↔ okAt l k x := by
  have hk := (List.getElem?_eq_some_iff.1 hx).1
  unfold okB okAt
  rw [hx]
  simp only [Bool.and_eq_true, Bool.or_eq_true, decide_eq_true_eq, List.all_eq_true, Bool.not_eq_true']
  refine and_congr Iff.rfl (and_congr ⟨?_, ?_⟩ ⟨?_, ?_⟩)
  · intro h y h0 hy
    rcases h with h | h
    · omega
    · rw [hy] at h; exact h
  · intro h
    rcases Nat.eq_zero_or_pos k with h0 | h0
    · exact .inl h0
    · right
      have hy : l[k - 1]? = some l[k - 1] := List.getElem?_eq_getElem (by omega)
      rw [hy]
      exact h _ h0 hy
  · intro h j y hj hy
    exact h y (List.mem_iff_getElem?.2 ⟨j, by rw [List.getElem?_take, if_pos hj]; exact hy⟩)
  · intro h y hy
    obtain ⟨j, hj⟩ := List.mem_iff_getElem?.1 hy
    have hjk : j < k := by
      rcases Nat.lt_or_ge j k with h' | h'
      · exact h'
      · rw [List.getElem?_take, if_neg (by omega)] at hj; cases hj
    rw [List.getElem?_take, if_pos hjk] at hj
    exact h j y hjk hj
theorem goodB_iff (l : List Nt) : goodB l = true ↔ Good l := by
  unfold goodB Good
  rw [Bool.and_eq_true, List.all_eq_true, decide_eq_true_eq]
  refine and_congr ⟨?_, ?_⟩ Iff.rfl
  · intro h i x hi hx
    exact (okB_iff hx).1 (h i (List.mem_range.2 hi))
  · intro h i hi
    have hi := List.mem_range.1 hi
    exact (okB_iff (List.getElem?_eq_getElem hi)).2 (h i _ hi (List.getElem?_eq_getElem hi))
theorem goodB_false {l : List Nt} (h : ¬ Good l) : goodB l = false := by
  cases hb : goodB l with
  | false => rfl
  | true => exact absurd ((goodB_iff l).1 hb) h
end Go.Proofs.YtkfgmkgbicahgaaDoor.H

namespace Go.Proofs.YtkfgmkgbicahgaaDoor.H
open Go.RowKit
set_option linter.unusedVariables false

/-- Two rows are equal. -/
def eqBHole (p s t p' s' t' : Int) : Bool := ((p == p') && ((s == s') && (t == t')))

set_option maxHeartbeats 400000 in
theorem toHole_any (p s t : Int) (w : World) :
    Calls Tryd.prog 17 #[.agg #[.int .i64 p, .int .i64 s, .int .i64 t]] w fun e w' => e = .returned (.agg #[.int .i64 p, .int .i64 s, .int .i64 t]) ∧ Below w.heap.size w w' := by
  go_enter Tryd.func17, Tryd.ntmps17
  go_wp2
  exact bodyPost_ret (v := .agg #[.int .i64 p, .int .i64 s, .int .i64 t]) (by simp [results, Tryd.results17, go_sem]) rfl ⟨rfl, (((Below.refl _ _).alloc (Nat.le_refl _) _).alloc (by simp) _).alloc (by simp; omega) _⟩

set_option maxHeartbeats 400000 in
theorem eqHole_any (p s t p' s' t' : Int) (w : World) :
    Calls Tryd.prog 14 #[.agg #[.int .i64 p, .int .i64 s, .int .i64 t], .agg #[.int .i64 p', .int .i64 s', .int .i64 t']] w fun e w' => e = .returned (.bool (eqBHole p s t p' s' t')) ∧ Below w.heap.size w w' := by
  go_enter Tryd.func14, Tryd.ntmps14
  go_wp2
  all_goals (go_ret; exact ⟨ret_bool (by first | (simp [eqBHole, *]; done) | (simp_all [eqBHole]; done) | (rw [Bool.eq_iff_iff]; simp [eqBHole]; omega)), ((Below.refl _ _).alloc (Nat.le_refl _) _).alloc (by simp) _⟩)

end Go.Proofs.YtkfgmkgbicahgaaDoor.H

namespace Go.Proofs.YtkfgmkgbicahgaaDoor.H
open Go.RowKit
set_option linter.unusedVariables false

/-- A call returned a sheet of its own, or nil and false; below the heap's old size nothing has turned. -/
def RetScore (B : World) (l : List Nt) (ok : Bool) (e : Ending) (w' : World) : Prop :=
  ∃ v, e = .returned (.tuple #[v, .bool ok]) ∧ Own w' B.heap.size 29 v (if ok = true then l else []) ∧ Below B.heap.size B w'
theorem RetScore.mono {B B' : World} {l : List Nt} {ok : Bool} {e : Ending} {w' : World} (h : RetScore B' l ok e w') (hb : Below B.heap.size B B') : RetScore B l ok e w' := by
  obtain ⟨v, he, ho, hbl⟩ := h
  refine ⟨v, he, ?_, hb.trans (hbl.mono hb.size)⟩
  exact ho.mono hb.size
end Go.Proofs.YtkfgmkgbicahgaaDoor.H

namespace Go.Proofs.YtkfgmkgbicahgaaDoor
open Go.RowKit Go.Sort
set_option linter.unusedVariables false
set_option linter.unusedSimpArgs false

set_option maxRecDepth 100000 in
set_option maxHeartbeats 1000000 in
theorem rising_any (A : Option Addr) (l : List Int) (c : Nat) (lo hi : Int) (w : World) (hn : l.length ≤ 1048576) (hA : RI w A l) :
    Calls Tryd.prog 68 #[.slice A l.length c, .int .i64 lo, .int .i64 hi] w fun e w' => e = .returned (.bool (riseB lo hi l)) ∧ w = w' := by
  go_enter Tryd.func68, Tryd.ntmps68
  go_wp2
  go_loop [11] (fun i => ∃ k : Nat, k ≤ l.length ∧ i = .int .i64 k ∧ UpTo lo hi l k)
    (fun i => l.length - (intOf i).toNat)
  case atStart => exact ⟨0, Nat.zero_le _, rfl, UpTo.zero lo hi l⟩
  case round =>
    obtain ⟨k, hk, rfl, hup⟩ := hrel
    have HU := Lib.hid hup
    clear hup
    by_cases hlt : k < l.length
    · have hx : l[k]? = some l[k] := List.getElem?_eq_getElem hlt
      generalize l[k] = x at hx
      obtain ⟨g, o, rfl, hg, h0⟩ := hA k _ hx
      have i1 : (0 : Int) ≤ (k : Int) := by omega
      have i2 : (k : Int) < (l.length : Int) := by omega
      have HX := Lib.hid hx
      clear hx
      cases hr : inR x lo hi with
      | false =>
        go_wp2_with (go_at_call 67; refine (l1In_any _ _ _ _).mono ?_; rintro e w1 ⟨rfl, rfl⟩)
        go_ret
        exact ⟨ret_bool (riseB_not HX.out fun h => by have := h.1; rw [hr] at this; cases this).symm, rfl⟩
      | true =>
        rcases Nat.eq_zero_or_pos k with hk0 | hk0
        · have hd : ¬ ((0 : Int) < (k : Int)) := by omega
          have HK := Lib.hid hk0
          clear hk0
          go_wp2_with (go_at_call 67; refine (l1In_any _ _ _ _).mono ?_; rintro e w1 ⟨rfl, rfl⟩)
          go_round
          case rel => exact ⟨k + 1, by omega, by go_num, HU.out.succ HX.out ⟨hr, fun y h => absurd h (by have := HK.out; omega)⟩⟩
          case measure => simp [intOf]; omega
        · have hd : (0 : Int) < (k : Int) := by omega
          have hy : l[k - 1]? = some l[k - 1] := List.getElem?_eq_getElem (by omega)
          generalize l[k - 1] = y at hy
          obtain ⟨g2, o2, hgo, hg2, y0⟩ := hA (k - 1) _ hy
          simp only [Option.some.injEq, Addr.mk.injEq, and_true] at hgo
          obtain ⟨rfl, rfl⟩ := hgo
          have i3 : (0 : Int) ≤ (k : Int) - 1 := by omega
          have i4 : (k : Int) - 1 < (l.length : Int) := by omega
          have HY := Lib.hid hy
          clear hy hA
          by_cases hyx : y < x
          · have hnx : ¬ x ≤ y := by omega
            go_wp2_with (go_at_call 67; refine (l1In_any _ _ _ _).mono ?_; rintro e w1 ⟨rfl, rfl⟩)
            go_round
            case rel => exact ⟨k + 1, by omega, by go_num, HU.out.succ HX.out ⟨hr, fun z _ hz => by have e := HY.out.symm.trans hz; injection e with e; subst e; exact hyx⟩⟩
            case measure => simp [intOf]; omega
          · have hnx : x ≤ y := by omega
            go_wp2_with (go_at_call 67; refine (l1In_any _ _ _ _).mono ?_; rintro e w1 ⟨rfl, rfl⟩)
            go_ret
            exact ⟨ret_bool (riseB_not HX.out fun h => by have := h.2 y hk0 HY.out; omega).symm, rfl⟩
    · obtain rfl : k = l.length := by omega
      go_wp2
      go_ret
      exact ⟨ret_bool ((riseB_iff lo hi l).2 HU.out).symm, rfl⟩

set_option maxRecDepth 100000 in
set_option maxHeartbeats 1000000 in
theorem inGood_any (A : Option Addr) (l : List Int) (c : Nat) (r : Int) (w : World) (hn : l.length ≤ 1048576) (hA : RI w A l) :
    Calls Tryd.prog 43 #[.agg #[.slice A l.length c, .int .i64 r]] w fun e w' => e = .returned (.bool (gdI l r)) ∧ Below w.heap.size w w' := by
  go_enter Tryd.func43, Tryd.ntmps43
  go_wp2_with (first
    | (go_at_call 67; refine (l1In_any _ _ _ _).mono ?_; rintro e w1 ⟨rfl, rfl⟩)
    | (go_at_call 68; refine (rising_any _ _ _ _ _ _ hn (hA.below ((Below.refl _ _).alloc (Nat.le_refl _) _))).mono ?_; rintro e w1 ⟨rfl, rfl⟩))
  go_ways
  all_goals (go_ret; exact ⟨ret_bool (by simp [gdI, *]), (Below.refl _ _).alloc (Nat.le_refl _) _⟩)

set_option maxRecDepth 100000 in
set_option maxHeartbeats 1000000 in
theorem inTrack_any (A : Option Addr) (l : List Int) (c : Nat) (r p : Int) (w : World) (hn : l.length ≤ 1048576) (hA : RI w A l) :
    Calls Tryd.prog 70 #[.agg #[.slice A l.length c, .int .i64 r], .int .i64 p] w fun e w' => e = .returned (.int .i64 (trk p l)) ∧ Below w.heap.size w w' := by
  have hA1 := hA.below ((Below.refl w.heap.size w).alloc (Nat.le_refl _) (.cells #[.slice A l.length c, .int .i64 r] 32))
  have hb1 := fun o => (Below.refl w.heap.size w).alloc (Nat.le_refl _) o
  go_enter Tryd.func70, Tryd.ntmps70
  go_wp2
  go_loop [10] (fun i => ∃ k : Nat, k ≤ l.length ∧ i = .int .i64 k ∧ trk p l = trkF p (l.drop k) k)
    (fun i => l.length - (intOf i).toNat)
  case atStart => exact ⟨0, Nat.zero_le _, rfl, rfl⟩
  case round =>
    obtain ⟨k, hk, rfl, ht⟩ := hrel
    have HT := Lib.hid ht
    clear ht
    by_cases hlt : k < l.length
    · have hx : l[k]? = some l[k] := List.getElem?_eq_getElem hlt
      generalize l[k] = x at hx
      obtain ⟨g, o, rfl, hg, h0⟩ := hA1 k _ hx
      have i1 : (0 : Int) ≤ (k : Int) := by omega
      have i2 : (k : Int) < (l.length : Int) := by omega
      have hs := trkF_drop p l k x hx
      have HX := Lib.hid hx
      have HS := Lib.hid hs
      clear hx hs hA
      by_cases he : x = p
      · subst he
        go_wp2
        go_ret
        exact ⟨ret_int (by rw [HT.out, HS.out]; simp), hb1 _⟩
      · go_wp2
        go_round
        case rel => exact ⟨k + 1, by omega, by go_num, by rw [HT.out, HS.out, if_neg he]⟩
        case measure => simp [intOf]; omega
    · obtain rfl : k = l.length := by omega
      go_wp2
      go_ret
      exact ⟨ret_int (by rw [HT.out, List.drop_length]; rfl), hb1 _⟩

/-- The table of limits, read in a world. -/
def Lim (w : World) : Prop := w.cell? ⟨0, 0, none⟩ = some (.int .i64 1) ∧ w.cell? ⟨0, 1, none⟩ = some (.int .i64 20) ∧ w.cell? ⟨0, 2, none⟩ = some (.int .i64 1) ∧ w.cell? ⟨0, 3, none⟩ = some (.int .i64 20) ∧ 0 < w.heap.size
theorem Lim.below {w w' : World} (h : Lim w) (hb : Below w.heap.size w w') : Lim w' := by
  obtain ⟨a, b, c, d, e⟩ := h
  exact ⟨(hb.cell e).trans a, (hb.cell e).trans b, (hb.cell e).trans c, (hb.cell e).trans d, Nat.lt_of_lt_of_le e hb.size⟩

set_option maxRecDepth 100000 in
set_option maxHeartbeats 1000000 in
theorem keepsLimit0 (n : Int) (w : World) (hL : Lim w) :
    Calls Tryd.prog 82 #[.int .i64 n, .int .i64 0] w fun e w' => e = .returned (.bool (inR n 1 20)) ∧ Below w.heap.size w w' := by
  obtain ⟨a, b, c, d, hz⟩ := hL
  go_enter Tryd.func82, Tryd.ntmps82
  go_wp2_with fail
  go_region_with (go_at_call 74; refine (inRange_any _ _ _ _).mono ?_; rintro e w1 ⟨rfl, rfl⟩)
  all_goals
    go_wp2
    go_ret
    exact ⟨rfl, (Below.refl _ _).drew⟩
set_option maxRecDepth 100000 in
set_option maxHeartbeats 1000000 in
theorem keepsLimit1 (n : Int) (w : World) (hL : Lim w) :
    Calls Tryd.prog 82 #[.int .i64 n, .int .i64 1] w fun e w' => e = .returned (.bool (inR n 1 20)) ∧ Below w.heap.size w w' := by
  obtain ⟨a, b, c, d, hz⟩ := hL
  go_enter Tryd.func82, Tryd.ntmps82
  go_wp2_with fail
  go_region_with (go_at_call 74; refine (inRange_any _ _ _ _).mono ?_; rintro e w1 ⟨rfl, rfl⟩)
  all_goals
    go_wp2
    go_ret
    exact ⟨rfl, (Below.refl _ _).drew⟩

set_option maxRecDepth 100000 in
set_option maxHeartbeats 2000000 in
theorem isIns_any (A : Option Addr) (l : List Int) (c : Nat) (r : Int) (w : World) (hn : l.length ≤ 1048576) (hA : RI w A l) (hL : Lim w) :
    Calls Tryd.prog 59 #[.agg #[.slice A l.length c, .int .i64 r]] w fun e w' => e = .returned (.bool (gdI l r)) ∧ Below w.heap.size w w' := by
  have hb0 : Below w.heap.size w (w.alloc (.cells #[.slice A l.length c, .int .i64 r] 32)) := (Below.refl w.heap.size w).alloc (Nat.le_refl _) _
  have c0 : (w.alloc (.cells #[.slice A l.length c, .int .i64 r] 32)).cell? ⟨w.heap.size, 0, none⟩ = some (.slice A l.length c) := by rw [World.cell?_alloc_new]; rfl
  have c1 : (w.alloc (.cells #[.slice A l.length c, .int .i64 r] 32)).cell? ⟨w.heap.size, 1, none⟩ = some (.int .i64 r) := by rw [World.cell?_alloc_new]; rfl
  have hz : w.heap.size < (w.alloc (.cells #[.slice A l.length c, .int .i64 r] 32)).heap.size := by simp
  go_enter Tryd.func59, Tryd.ntmps59
  go_wp2_with fail
  have hL0 := hL.below hb0
  have hA0 := hA.below hb0
  generalize w.alloc (.cells #[.slice A l.length c, .int .i64 r] 32) = W at *
  refine (keepsLimit0 _ _ hL0).mono ?_
  rintro e w1 ⟨rfl, hb1⟩
  have c01 := (hb1.cell (p := ⟨w.heap.size, 0, none⟩) hz).trans c0
  have c11 := (hb1.cell (p := ⟨w.heap.size, 1, none⟩) hz).trans c1
  have hB1 := hb0.trans (hb1.mono hb0.size)
  have hL1 := hL0.below hb1
  have hA1 := hA0.below hb1
  have hz1 := Nat.lt_of_lt_of_le hz hb1.size
  clear hL0 hA0 c0 c1
  cases h1 : inR (l.length : Int) 1 20 with
  | false =>
    go_wp2
    go_ret
    exact ⟨ret_bool (by simp [gdI, h1]), hB1⟩
  | true =>
    go_wp2_with fail
    refine (keepsLimit1 _ _ hL1).mono ?_
    rintro e w2 ⟨rfl, hb2⟩
    have c02 := (hb2.cell (p := ⟨w.heap.size, 0, none⟩) hz1).trans c01
    have hB2 := hB1.trans (hb2.mono hB1.size)
    have hA2 := hA1.below hb2
    have hz2 := Nat.lt_of_lt_of_le hz1 hb2.size
    cases h2 : inR r 1 20 with
    | false =>
      go_wp2
      go_ret
      exact ⟨ret_bool (by simp [gdI, h1, h2]), hB2⟩
    | true =>
      clear hL1 hA1 c01 c11 hb1 hb2 hL
      go_wp2
      go_loop [19] (fun i => ∃ k : Nat, k ≤ l.length ∧ i = .int .i64 k ∧ UpTo 24 96 l k)
        (fun i => l.length - (intOf i).toNat)
      case atStart => exact ⟨0, Nat.zero_le _, rfl, UpTo.zero 24 96 l⟩
      case round =>
        obtain ⟨k, hk, rfl, hup⟩ := hrel
        have HU := Lib.hid hup
        clear hup
        by_cases hlt : k < l.length
        · have hx : l[k]? = some l[k] := List.getElem?_eq_getElem hlt
          generalize l[k] = x at hx
          obtain ⟨g, o, rfl, hg, h0⟩ := hA2 k _ hx
          have i1 : (0 : Int) ≤ (k : Int) := by omega
          have i2 : (k : Int) < (l.length : Int) := by omega
          have HX := Lib.hid hx
          clear hx
          cases hr : inR x 24 96 with
          | false =>
            go_wp2_with (go_at_call 73; refine (isPitch_any _ _).mono ?_; rintro e w1 ⟨rfl, rfl⟩)
            go_ret
            exact ⟨ret_bool (by simp [gdI, h1, riseB_not HX.out fun h => by have := h.1; rw [hr] at this; cases this]), hB2⟩
          | true =>
            rcases Nat.eq_zero_or_pos k with hk0 | hk0
            · have hd : ¬ ((0 : Int) < (k : Int)) := by omega
              have HK := Lib.hid hk0
              clear hk0
              go_wp2_with (go_at_call 73; refine (isPitch_any _ _).mono ?_; rintro e w1 ⟨rfl, rfl⟩)
              go_round
              case rel => exact ⟨k + 1, by omega, by go_num, HU.out.succ HX.out ⟨hr, fun y h => absurd h (by have := HK.out; omega)⟩⟩
              case measure => simp [intOf]; omega
            · have hd : (0 : Int) < (k : Int) := by omega
              have hy : l[k - 1]? = some l[k - 1] := List.getElem?_eq_getElem (by omega)
              generalize l[k - 1] = y at hy
              obtain ⟨g2, o2, hgo, hg2, y0⟩ := hA2 (k - 1) _ hy
              simp only [Option.some.injEq, Addr.mk.injEq, and_true] at hgo
              obtain ⟨rfl, rfl⟩ := hgo
              have i3 : (0 : Int) ≤ (k : Int) - 1 := by omega
              have i4 : (k : Int) - 1 < (l.length : Int) := by omega
              have HY := Lib.hid hy
              clear hy
              by_cases hyx : y < x
              · have hnx : ¬ x ≤ y := by omega
                go_wp2_with (go_at_call 73; refine (isPitch_any _ _).mono ?_; rintro e w1 ⟨rfl, rfl⟩)
                go_round
                case rel => exact ⟨k + 1, by omega, by go_num, HU.out.succ HX.out ⟨hr, fun z _ hz => by have e := HY.out.symm.trans hz; injection e with e; subst e; exact hyx⟩⟩
                case measure => simp [intOf]; omega
              · have hnx : x ≤ y := by omega
                go_wp2_with (go_at_call 73; refine (isPitch_any _ _).mono ?_; rintro e w1 ⟨rfl, rfl⟩)
                go_ret
                exact ⟨ret_bool (by unfold gdI; rw [h1, riseB_not (lo := 24) (hi := 96) HX.out (fun h => by have := h.2 y hk0 HY.out; omega)]; rfl), hB2⟩
        · obtain rfl : k = l.length := by omega
          go_wp2
          go_ret
          exact ⟨ret_bool (by unfold gdI; rw [h1, h2, (riseB_iff 24 96 l).2 HU.out]; rfl), hB2⟩
end Go.Proofs.YtkfgmkgbicahgaaDoor

namespace Go.Proofs.YtkfgmkgbicahgaaDoor
open Go.RowKit

/-- The index of the last of the first k notes that has a pitch, or -1. -/
def lastIx (p : Int) (l : List Nt) : Nat → Int
  | 0 => -1
  | k + 1 => match l[k]? with
    | some x => if x.1 = p then (k : Int) else lastIx p l k
    | none => lastIx p l k
theorem lastIx_succ {p : Int} {l : List Nt} {k : Nat} {x : Nt} (hx : l[k]? = some x) : lastIx p l (k + 1) = if x.1 = p then (k : Int) else lastIx p l k := by
  rw [lastIx, hx]
theorem lastIx_lt (p : Int) (l : List Nt) : ∀ k : Nat, -1 ≤ lastIx p l k ∧ lastIx p l k < k := by
  intro k
  induction k with
  | zero => simp [lastIx]
  | succ k ih =>
    rw [lastIx]
    split
    · split <;> omega
    · omega
/-- The pairs whose second one is among the first k notes. -/
def pairsL (l : List Nt) : Nat → List (Int × Int)
  | 0 => []
  | k + 1 => match l[k]? with
    | some x => if 0 ≤ lastIx x.1 l k then pairsL l k ++ [(lastIx x.1 l k, (k : Int))] else pairsL l k
    | none => pairsL l k
theorem pairsL_succ {l : List Nt} {k : Nat} {x : Nt} (hx : l[k]? = some x) : pairsL l (k + 1) = if 0 ≤ lastIx x.1 l k then pairsL l k ++ [(lastIx x.1 l k, (k : Int))] else pairsL l k := by
  rw [pairsL, hx]
theorem pairsL_length (l : List Nt) : ∀ k, (pairsL l k).length ≤ k := by
  intro k
  induction k with
  | zero => simp [pairsL]
  | succ k ih =>
    rw [pairsL]
    split
    · split
      · simp; omega
      · omega
    · omega
theorem pairsL_mem (l : List Nt) (a b : Int) : ∀ k, (a, b) ∈ pairsL l k → 0 ≤ a ∧ a < b ∧ b < k := by
  intro k
  induction k with
  | zero => intro h; simp [pairsL] at h
  | succ k ih =>
    intro h
    rw [pairsL] at h
    split at h
    · split at h
      · rename_i x hx h0
        rcases List.mem_append.1 h with h | h
        · have := ih h; omega
        · simp only [List.mem_singleton, Prod.mk.injEq] at h
          have := lastIx_lt x.1 l k
          omega
      · have := ih h; omega
    · have := ih h; omega
/-- By how much the starts of a pair of notes differ. -/
def apart (l : List Nt) (a b : Int) : Int := (l.getD b.toNat (0, 0, 0)).2.1 - (l.getD a.toNat (0, 0, 0)).2.1
/-- The fast ones for a repeat time. -/
def fastL (r : Int) (l : List Nt) (k : Nat) : List (Int × Int) := (pairsL l k).filter fun q => decide (apart l q.1 q.2 < r)
theorem fastL_succ {r : Int} {l : List Nt} {k : Nat} {x : Nt} (hx : l[k]? = some x) : fastL r l (k + 1) = if 0 ≤ lastIx x.1 l k ∧ apart l (lastIx x.1 l k) k < r then fastL r l k ++ [(lastIx x.1 l k, (k : Int))] else fastL r l k := by
  unfold fastL
  rw [pairsL_succ hx]
  by_cases h : 0 ≤ lastIx x.1 l k
  · rw [if_pos h, List.filter_append]
    by_cases h2 : apart l (lastIx x.1 l k) k < r
    · rw [if_pos ⟨h, h2⟩]; simp [h2]
    · rw [if_neg (fun hh => h2 hh.2)]; simp [h2]
  · rw [if_neg h, if_neg (fun hh => h hh.1)]
end Go.Proofs.YtkfgmkgbicahgaaDoor

namespace Go.Proofs.YtkfgmkgbicahgaaDoor
open Go.RowKit
set_option linter.unusedVariables false
set_option linter.unusedSimpArgs false

theorem Tryd.info_int : (Tryd.prog.info? 3).map (fun i => (i.zero, i.size, i.bytes)) = some (some (.int .i64 0), 1, 8) := by kernel_rfl

theorem RI.at {w : World} {g : Nat} {l : List Int} {j : Nat} {x : Int} (h : RI w (some ⟨g, 0, none⟩) l) (hx : l[j]? = some x) : w.cell? ⟨g, j, none⟩ = some (.int .i64 x) := by
  obtain ⟨g', o', hgo, _, h0⟩ := h j x hx
  simp only [Option.some.injEq, Addr.mk.injEq, and_true] at hgo
  obtain ⟨rfl, rfl⟩ := hgo
  simpa using h0

theorem wpList_appI (w : World) {ops : Array Oper} {rest : List Oper} {o : Oper} {a : Act} {Q : Exit → Act → World → Prop} (hgd : o.guard = none) (s x : Operand)
    (ho : o.op = .call { callee := .builtin .append, args := #[s, x], argTypes := #[22, 22] })
    (base : Nat) (v : Value) (xs : List Int) (hs : a.eval s = v) (hown : OwnI w base 3 v xs)
    (A : Option Addr) (m c : Nat) (news : List Int) (hx : a.eval x = .slice A m c) (hl : news.length = m) (hA : A = none → c = 0)
    (hnews : ∀ j y, news[j]? = some y → ∃ ad, A = some ad ∧ w.cell? (ad.add j) = some (.int .i64 y)) (hsz : xs.length + m ≤ 4000000) (hbase : base ≤ w.heap.size)
    (h : ∀ v' w', OwnI w' base 3 v' (xs ++ news) → w.grownBy w' v.ownBlock → (v'.ownBlock = v.ownBlock ∨ v'.ownBlock = some w.heap.size) → wpList Tryd.prog ops Q rest (a.put o.dst v') w') :
    wpList Tryd.prog ops Q (o :: rest) a w := by
  obtain ⟨i, hi, hz, hs1, hb1⟩ := info_parts Tryd.info_int
  refine wpList_app w hgd s x 22 ho base 3 i (.int .i64 0) 1 8 Tryd.underlying22 hi hz hs1 hb1 rfl (by decide) v xs.length (ci xs) hs hown A m c (ci news) hx (by rw [ci_length, hl, Nat.mul_one]) hA ?_ ?_ (by unfold maxLen; omega) (by omega) hbase ?_
  · intro j u hu
    simp only [ci, List.getElem?_map, Option.map_eq_some_iff] at hu
    obtain ⟨y, hy, rfl⟩ := hu
    exact hnews j y hy
  · intro u hu
    simp only [ci, List.mem_map] at hu
    obtain ⟨y, _, rfl⟩ := hu
    rfl
  · intro v' w' h1 h2 h3
    refine h v' w' ?_ h2 h3
    unfold OwnI
    rw [ci_append, List.length_append, hl]
    exact h1

theorem get_of_take {l : List Int} {k j : Nat} {y : Int} (h : (l.take k)[j]? = some y) : l[j]? = some y := by
  rw [List.getElem?_take] at h
  split at h
  · exact h
  · cases h
theorem RI.takeAt {w : World} {g : Nat} {l : List Int} {k j : Nat} {y : Int} (h : RI w (some ⟨g, 0, none⟩) l) (hx : (l.take k)[j]? = some y) : w.cell? ((⟨g, 0, none⟩ : Addr).add j) = some (.int .i64 y) := by
  rw [Addr.add_lit, Nat.zero_add]
  exact h.at (get_of_take hx)
theorem one_at {w : World} {b : Nat} {n : Int} (h : w.cell? ⟨b, 0, none⟩ = some (.int .i64 n)) {j : Nat} {y : Int} (hy : [n][j]? = some y) : ∃ ad, (some ⟨b, 0, none⟩ : Option Addr) = some ad ∧ w.cell? (ad.add j) = some (.int .i64 y) := by
  cases j with
  | zero => simp at hy; subst hy; exact ⟨_, rfl, by rw [Addr.add_lit]; exact h⟩
  | succ j => simp at hy

theorem one_new (w1 : World) (n : Int) : (w1.alloc (.cells #[.int .i64 n] 3)).cell? ⟨w1.heap.size, 0, none⟩ = some (.int .i64 n) := by rw [World.cell?_alloc_new]; rfl
theorem RI.dropAt {w : World} {g : Nat} {l : List Int} {k c : Nat} {A : Option Addr} (h : RI w (some ⟨g, 0, none⟩) l) (hlc : l.length ≤ c) (hA : ¬ c = k → A = some ⟨g, 0 + k, none⟩) (j : Nat) (y : Int) (hx : (l.drop k)[j]? = some y) : ∃ ad, A = some ad ∧ w.cell? (ad.add j) = some (.int .i64 y) := by
  rw [List.getElem?_drop] at hx
  have := (List.getElem?_eq_some_iff.1 hx).1
  refine ⟨_, hA (by omega), ?_⟩
  rw [Addr.add_lit, Nat.zero_add]
  exact h.at hx

theorem OwnI.lit (w : World) (base : Nat) (xs : List Int) (cs : Array Value) (hcs : cs.toList = ci xs) (hl : xs.length ≤ 1000) (hb : base ≤ w.heap.size) : OwnI (w.alloc (.cells cs 3)) base 3 (.slice (some ⟨w.heap.size, 0, none⟩) xs.length xs.length) xs := by
  have h := World.ownsRow_lit (base := base) (e := 3) (size := 1) w cs xs.length hb (by unfold maxLen; omega) (by rw [← Array.length_toList, hcs, ci_length, Nat.mul_one])
  rw [hcs] at h
  exact h

set_option maxRecDepth 100000 in
set_option maxHeartbeats 2000000 in
theorem l1Put_some (g : Nat) (l : List Int) (c : Nat) (n : Int) (base : Nat) (w : World) (hl : l.length ≤ 1000000) (hb0 : base ≤ w.heap.size) (hv : OwnI w base 3 (.slice (some ⟨g, 0, none⟩) l.length c) l) (hinc : Inc l) :
    Calls Tryd.prog 87 #[.slice (some ⟨g, 0, none⟩) l.length c, .int .i64 n] w fun e w' => ∃ v, e = .returned v ∧ OwnI w' base 3 v (putL n l) ∧ Below w.heap.size w w' := by
  obtain ⟨A', c', hf, hr, hlc, hcm, hA0, hA1⟩ := hv.form
  injection hf with e1 e2 e3
  subst e1 e3
  clear e2 hA0 hA1
  unfold maxLen at hcm
  have HV := Lib.hid hv
  have HI := Lib.hid hinc
  clear hv hinc
  have HR := Lib.hid hr
  go_enter Tryd.func87, Tryd.ntmps87
  go_wp2
  go_loop [5] (fun i => ∃ k : Nat, k ≤ l.length ∧ i = .int .i64 k ∧ (∀ i x, i < k → l[i]? = some x → x < n))
    (fun i => l.length - (intOf i).toNat)
  case atStart => exact ⟨0, Nat.zero_le _, rfl, fun _ _ h => absurd h (by omega)⟩
  case round =>
    obtain ⟨k, hk, rfl, hlt⟩ := hrel
    have HL := Lib.hid hlt
    clear hlt
    by_cases hkl : k < l.length
    · have hx : l[k]? = some l[k] := List.getElem?_eq_getElem hkl
      generalize l[k] = x at hx
      have h0 := hr.at hx
      have i1 : (0 : Int) ≤ (k : Int) := by omega
      have i2 : (k : Int) < (l.length : Int) := by omega
      have HX := Lib.hid hx
      clear hx hr
      by_cases hxn : x < n
      · go_wp2
        go_round
        case rel =>
          refine ⟨k + 1, by omega, by go_num, ?_⟩
          intro i y hi hy
          rcases Nat.lt_or_ge i k with h | h
          · exact HL.out i y h hy
          · obtain rfl : i = k := by omega
            have := HX.out.symm.trans hy
            injection this with this
            omega
        case measure => simp [intOf]; omega
      · by_cases hxe : x = n
        · subst hxe
          go_wp2
          go_ret
          refine ⟨_, rfl, ?_, Below.refl _ _⟩
          rw [putL_at x l k hk HL.out (fun y hy => by have := HX.out.symm.trans hy; injection this with this; omega), if_pos HX.out, List.take_append_drop]
          exact HV.out
        · have hne : (x == n) = false := by simp [hxe]
          have ho0 := Lib.hid (OwnI.lit w w.heap.size [] #[] rfl (by simp) (Nat.le_refl _))
          have hB0 := Lib.hid (show Below w.heap.size w (w.alloc (.cells #[] 3)) from (Below.refl _ _).alloc (Nat.le_refl _) _)
          go_wp2_with (first
            | (at_builtin; (refine wpList_appI _ rfl (.tmp 34) (.tmp 37) rfl w.heap.size _ [] rfl ho0.out (some ⟨g, 0, none⟩) k c (l.take k) rfl (by simp; try omega) (fun h => by cases h) (fun j y hy => ⟨_, rfl, (HR.out.below hB0.out).takeAt hy⟩) (by simp; try omega) hB0.out.size ?_); intro v1 w1 ho1 hg1 hv1; have hB1 := hB0.out.grown hg1 hB0.out.size (fun j hj => (ho0.out.lt j hj).1); have ho2 := Lib.hid (ho1.alloc (.cells #[.int .i64 n] 3)); have hB2 := Lib.hid (hB1.alloc hB1.size (.cells #[.int .i64 n] 3)); have hc2 := Lib.hid (one_new w1 n); clear ho1 hB1 hg1 hv1 ho0 hB0)
            | (at_builtin; (refine wpList_appI _ rfl (.tmp 39) (.tmp 41) rfl w.heap.size _ _ rfl ho2.out (some ⟨w1.heap.size, 0, none⟩) 1 1 [n] rfl rfl (fun h => by cases h) (fun j y hy => one_at hc2.out hy) (by simp; try omega) hB2.out.size ?_); intro v2 w2 ho3 hg2 hv2; have hB3 := Lib.hid (hB2.out.grown hg2 hB2.out.size (fun j hj => (ho2.out.lt j hj).1)); have ho3 := Lib.hid ho3; clear ho2 hB2 hg2 hv2 hc2)
            | (at_builtin; go_loud (refine wpList_appI _ rfl (.tmp 43) (.tmp 46) rfl w.heap.size _ _ rfl ho3.out _ (l.length - k) _ (l.drop k) rfl (by simp) (by intro h; first | (cases h; done) | (split at h <;> cases h)) ((HR.out.below hB3.out).dropAt hlc (by intro h; first | rfl | simp [h])) (by simp; try omega) hB3.out.size ?_); intro v3 w3 ho4 hg3 hv3; have hB4 := Lib.hid (hB3.out.grown hg3 hB3.out.size (fun j hj => (ho3.out.lt j hj).1)); have ho4 := Lib.hid ho4; clear ho3 hB3 hg3 hv3))
          all_goals
            go_ret
            refine ⟨_, rfl, ?_, hB4.out⟩
            have e := putL_at n l k hk HL.out (fun y hy => by have := HX.out.symm.trans hy; injection this with this; omega)
            rw [e, if_neg (fun hy => by have := HX.out.symm.trans hy; injection this with this; exact hxe this)]
            have := ho4.out.mono hb0
            simpa using this
    · obtain rfl : k = l.length := by omega
      have ho0 := Lib.hid (OwnI.lit w w.heap.size [] #[] rfl (by simp) (Nat.le_refl _))
      have hB0 := Lib.hid (show Below w.heap.size w (w.alloc (.cells #[] 3)) from (Below.refl _ _).alloc (Nat.le_refl _) _)
      go_wp2_with (first
        | (at_builtin; (refine wpList_appI _ rfl (.tmp 34) (.tmp 37) rfl w.heap.size _ [] rfl ho0.out (some ⟨g, 0, none⟩) l.length c (l.take l.length) rfl (by simp; try omega) (fun h => by cases h) (fun j y hy => ⟨_, rfl, (HR.out.below hB0.out).takeAt hy⟩) (by simp; try omega) hB0.out.size ?_); intro v1 w1 ho1 hg1 hv1; have hB1 := hB0.out.grown hg1 hB0.out.size (fun j hj => (ho0.out.lt j hj).1); have ho2 := Lib.hid (ho1.alloc (.cells #[.int .i64 n] 3)); have hB2 := Lib.hid (hB1.alloc hB1.size (.cells #[.int .i64 n] 3)); have hc2 := Lib.hid (one_new w1 n); clear ho1 hB1 hg1 hv1 ho0 hB0)
        | (at_builtin; (refine wpList_appI _ rfl (.tmp 39) (.tmp 41) rfl w.heap.size _ _ rfl ho2.out (some ⟨w1.heap.size, 0, none⟩) 1 1 [n] rfl rfl (fun h => by cases h) (fun j y hy => one_at hc2.out hy) (by simp; try omega) hB2.out.size ?_); intro v2 w2 ho3 hg2 hv2; have hB3 := Lib.hid (hB2.out.grown hg2 hB2.out.size (fun j hj => (ho2.out.lt j hj).1)); have ho3 := Lib.hid ho3; clear ho2 hB2 hg2 hv2 hc2)
        | (at_builtin; go_loud (refine wpList_appI _ rfl (.tmp 43) (.tmp 46) rfl w.heap.size _ _ rfl ho3.out _ 0 _ [] rfl (by simp) (by intro h; first | (cases h; done) | (split at h <;> cases h)) (fun j y hy => by simp at hy) (by simp; try omega) hB3.out.size ?_); intro v3 w3 ho4 hg3 hv3; have hB4 := Lib.hid (hB3.out.grown hg3 hB3.out.size (fun j hj => (ho3.out.lt j hj).1)); have ho4 := Lib.hid ho4; clear ho3 hB3 hg3 hv3))
      all_goals
        go_ret
        refine ⟨_, rfl, ?_, hB4.out⟩
        have e := putL_at n l l.length hk HL.out (fun y hy => by simp at hy)
        rw [e, if_neg (by simp)]
        have := ho4.out.mono hb0
        simpa using this

set_option maxRecDepth 100000 in
set_option maxHeartbeats 2000000 in
theorem l1Put_none (n : Int) (base : Nat) (w : World) (hb0 : base ≤ w.heap.size) :
    Calls Tryd.prog 87 #[.slice none 0 0, .int .i64 n] w fun e w' => ∃ v, e = .returned v ∧ OwnI w' base 3 v (putL n []) ∧ Below w.heap.size w w' := by
  go_enter Tryd.func87, Tryd.ntmps87
  have ho0 := Lib.hid (OwnI.lit w w.heap.size [] #[] rfl (by simp) (Nat.le_refl _))
  have hB0 := Lib.hid (show Below w.heap.size w (w.alloc (.cells #[] 3)) from (Below.refl _ _).alloc (Nat.le_refl _) _)
  go_wp2_with fail
  refine wp_loop_rounds 1 ?_
  rw [rounds_succ]
  go_wp2_with (first
    | (at_builtin; (refine wpList_appI _ rfl (.tmp 34) (.tmp 37) rfl w.heap.size _ [] rfl ho0.out none 0 0 [] rfl rfl (fun _ => rfl) (fun j y hy => by simp at hy) (by simp) hB0.out.size ?_); intro v1 w1 ho1 hg1 hv1; have hB1 := hB0.out.grown hg1 hB0.out.size (fun j hj => (ho0.out.lt j hj).1); have ho2 := Lib.hid (ho1.alloc (.cells #[.int .i64 n] 3)); have hB2 := Lib.hid (hB1.alloc hB1.size (.cells #[.int .i64 n] 3)); have hc2 := Lib.hid (one_new w1 n); clear ho1 hB1 hg1 hv1 ho0 hB0)
    | (at_builtin; (refine wpList_appI _ rfl (.tmp 39) (.tmp 41) rfl w.heap.size _ _ rfl ho2.out (some ⟨w1.heap.size, 0, none⟩) 1 1 [n] rfl rfl (fun h => by cases h) (fun j y hy => one_at hc2.out hy) (by simp) hB2.out.size ?_); intro v2 w2 ho3 hg2 hv2; have hB3 := Lib.hid (hB2.out.grown hg2 hB2.out.size (fun j hj => (ho2.out.lt j hj).1)); have ho3 := Lib.hid ho3; clear ho2 hB2 hg2 hv2 hc2)
    | (at_builtin; (refine wpList_appI _ rfl (.tmp 43) (.tmp 46) rfl w.heap.size _ _ rfl ho3.out none 0 0 [] rfl rfl (fun _ => rfl) (fun j y hy => by simp at hy) (by simp) hB3.out.size ?_); intro v3 w3 ho4 hg3 hv3; have hB4 := Lib.hid (hB3.out.grown hg3 hB3.out.size (fun j hj => (ho3.out.lt j hj).1)); have ho4 := Lib.hid ho4; clear ho3 hB3 hg3 hv3))
  go_ret
  refine ⟨_, rfl, ?_, hB4.out⟩
  have := ho4.out.mono hb0
  simpa [putL] using this

theorem l1Put_any (v : Value) (l : List Int) (n : Int) (base : Nat) (w : World) (hl : l.length ≤ 1000000) (hb0 : base ≤ w.heap.size) (hv : OwnI w base 3 v l) (hinc : Inc l) :
    Calls Tryd.prog 87 #[v, .int .i64 n] w fun e w' => ∃ v, e = .returned v ∧ OwnI w' base 3 v (putL n l) ∧ Below w.heap.size w w' := by
  obtain ⟨A, c, hf, hr, hlc, hcm, hA0, hA1⟩ := hv.form
  subst hf
  cases A with
  | none =>
    obtain rfl := hA0 rfl
    obtain rfl : l = [] := List.eq_nil_of_length_eq_zero (by omega)
    exact l1Put_none n base w hb0
  | some ad =>
    obtain ⟨g, rfl, _⟩ := hA1 ad rfl
    exact l1Put_some g l c n base w hl hb0 hv hinc
end Go.Proofs.YtkfgmkgbicahgaaDoor

namespace Go.Proofs.YtkfgmkgbicahgaaDoor
open Go.RowKit

/-- A call returned numbers of its own, or nil and false; below the heap's old size nothing has turned. -/
def RetI (B : World) (l : List Int) (ok : Bool) (e : Ending) (w' : World) : Prop :=
  ∃ v, e = .returned (.tuple #[v, .bool ok]) ∧ OwnI w' B.heap.size 3 v (if ok = true then l else []) ∧ Below B.heap.size B w'
end Go.Proofs.YtkfgmkgbicahgaaDoor
