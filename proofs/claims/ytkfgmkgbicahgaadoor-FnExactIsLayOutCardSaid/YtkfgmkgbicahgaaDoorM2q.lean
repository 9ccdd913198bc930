/- Texts of the proof, run together: Form3, IntF, Small, Two, Cmp, Good, HSmall, HTwo, InsP, IntS, MisP. -/
import Derived.Test.YtkfgmkgbicahgaaDoorM1q
import Derived.Laws.Rows
import Derived.Test.YtkfgmkgbicahgaaDoorProg
import Derived.WalkKit
import Derived.WalkSpells
import Derived.WalkLawsBesides
import Derived.Lib.Hide
import Derived.Deep.QuietTactic
import Derived.BigQuiet
import Derived.StillTailTactics
import Derived.Deep.RegionWith
import Derived.Handy
import Derived.LoopTactic
import Derived.Lib.SlicesCompact
namespace Go.Proofs.YtkfgmkgbicahgaaDoor
open Go.RowKit
set_option linter.unusedVariables false

theorem own_row {b n c k : Nat} (h : (Value.slice (some ⟨b, 0, none⟩) n c).ownBlock = some k) : b = k := by simpa [Value.ownBlock] using h
theorem bel1 (V : World) (x : Obj) : Below V.heap.size V (V.drew.alloc x) := (Below.refl _ _).drew.alloc (Nat.le_refl _) _
theorem bel2 (V : World) (x y : Obj) : Below V.heap.size V ((V.drew.alloc x).alloc y) := (bel1 V x).alloc (bel1 V x).size _
theorem heap_old {W : World} {b : Nat} {o e : Obj} (h : W.heap[b]? = some e) : (W.alloc o).heap[b]? = some e := by
  have := (Array.getElem?_eq_some_iff.1 h).1
  show (W.heap.push o)[b]? = _
  rw [Array.getElem?_push, if_neg (by omega)]
  exact h
theorem heap_new1 (V : World) (x e : Obj) : ((V.drew.alloc x).alloc e).heap[V.heap.size + 1]? = some e := by
  have := heap_alloc_new (V.drew.alloc x) e
  simpa using this
theorem Own.form3 {w : World} {base t n c : Nat} {A : Option Addr} {l : List Nt} (h : Own w base t (.slice A n c) l) : (A = none → c = 0) ∧ ∀ ad, A = Option.some ad → ∃ g, ad = ⟨g, 0, none⟩ ∧ base ≤ g := by
  rcases h.2 with ⟨hf, hn⟩ | ⟨g, cap, cur, hf, hg, hh, hnc, hm, hs, ht⟩
  · injection hf with e1 e2 e3
    subst e1 e3
    exact ⟨fun _ => rfl, fun ad h => (by cases h)⟩
  · injection hf with e1 e2 e3
    subst e1
    exact ⟨fun h => (by cases h), fun ad h => ⟨g, (by injection h with h; exact h.symm), hg⟩⟩

end Go.Proofs.YtkfgmkgbicahgaaDoor

namespace Go.Proofs.YtkfgmkgbicahgaaDoor
open Go.RowKit
theorem OwnI.form2 {w : World} {base t : Nat} {v : Value} {l : List Int} (h : OwnI w base t v l) : ∃ A c, v = .slice A l.length c ∧ RI w A l := by
  obtain ⟨A, c, h1, h2, _⟩ := h.form
  exact ⟨A, c, h1, h2⟩
end Go.Proofs.YtkfgmkgbicahgaaDoor

namespace Go.Proofs.YtkfgmkgbicahgaaDoor
open Go.RowKit
set_option linter.unusedVariables false

/-- A number lies in a range. -/
def inR (n lo hi : Int) : Bool := decide (lo ≤ n) && decide (n ≤ hi)
/-- A note is valid. -/
def noteB (p s n : Int) : Bool := inR p 24 96 && (inR s 0 999 && inR n 1 99)
theorem inR_false {n lo hi : Int} (h : n < lo ∨ hi < n) : inR n lo hi = false := by
  unfold inR; rw [Bool.and_eq_false_iff]; simp; omega
theorem inR_true {n lo hi : Int} (h : lo ≤ n) (k : n ≤ hi) : inR n lo hi = true := by simp [inR, h, k]

theorem ret_bool {a b : Bool} (h : a = b) : Ending.returned (.bool a) = .returned (.bool b) := by rw [h]
theorem ret_int {k : IntKind} {a b : Int} (h : a = b) : Ending.returned (.int k a) = .returned (.int k b) := by rw [h]
theorem bcell {W w1 : World} (hb : Below W.heap.size W w1) : (∀ b o, b < W.heap.size → w1.cell? ⟨b, o, none⟩ = W.cell? ⟨b, o, none⟩) ∧ (∀ b o, b < W.heap.size → w1.frozen? ⟨b, o, none⟩ = W.frozen? ⟨b, o, none⟩) :=
  ⟨fun b o h => hb.cell (p := ⟨b, o, none⟩) h, fun b o h => hb.frozen (p := ⟨b, o, none⟩) h⟩

set_option maxHeartbeats 400000 in
theorem inRange_any (n lo hi : Int) (w : World) :
    Calls Tryd.prog 74 #[.int .i64 n, .int .i64 lo, .int .i64 hi] w fun e w' => e = .returned (.bool (inR n lo hi)) ∧ w = w' := by
  go_enter Tryd.func74, Tryd.ntmps74
  go_wp2
  · go_ret; exact ⟨ret_bool (by simp [inR, *]), rfl⟩
  · go_ret; exact ⟨ret_bool (by rw [inR_false (by omega)]), rfl⟩

set_option maxHeartbeats 400000 in
theorem l1In_any (n lo hi : Int) (w : World) :
    Calls Tryd.prog 67 #[.int .i64 n, .int .i64 lo, .int .i64 hi] w fun e w' => e = .returned (.bool (inR n lo hi)) ∧ w = w' := by
  go_enter Tryd.func67, Tryd.ntmps67
  go_wp2
  · go_ret; exact ⟨ret_bool (by simp [inR, *]), rfl⟩
  · go_ret; exact ⟨ret_bool (by rw [inR_false (by omega)]), rfl⟩

set_option maxHeartbeats 400000 in
theorem isPitch_any (n : Int) (w : World) :
    Calls Tryd.prog 73 #[.int .i64 n] w fun e w' => e = .returned (.bool (inR n 24 96)) ∧ w = w' := by
  go_enter Tryd.func73, Tryd.ntmps73
  go_wp2_with (go_at_call 74; refine (inRange_any _ _ _ _).mono ?_; rintro e w' ⟨rfl, rfl⟩)
  go_ret; exact ⟨rfl, rfl⟩

set_option maxHeartbeats 400000 in
theorem ntPitch_any (n : Int) (w : World) :
    Calls Tryd.prog 69 #[.int .i64 n] w fun e w' => e = .returned (.bool (inR n 24 96)) ∧ w = w' := by
  go_enter Tryd.func69, Tryd.ntmps69
  go_wp2_with (go_at_call 67; refine (l1In_any _ _ _ _).mono ?_; rintro e w' ⟨rfl, rfl⟩)
  go_ret; exact ⟨rfl, rfl⟩

set_option maxHeartbeats 400000 in
theorem implIsNote_any (p s n : Int) (w : World) :
    Calls Tryd.prog 48 #[.agg #[.int .i64 p, .int .i64 s, .int .i64 n]] w fun e w' => e = .returned (.bool (noteB p s n)) ∧ Below w.heap.size w w' := by
  go_enter Tryd.func48, Tryd.ntmps48
  go_wp2_with (first
    | (go_at_call 73; refine (isPitch_any _ _).mono ?_; rintro e w' ⟨rfl, rfl⟩)
    | (go_at_call 74; refine (inRange_any _ _ _ _).mono ?_; rintro e w' ⟨rfl, rfl⟩))
  go_ways
  all_goals (go_ret; exact ⟨ret_bool (by simp [noteB, *]), (Below.refl _ _).alloc (Nat.le_refl _) _⟩)

set_option maxHeartbeats 400000 in
theorem ntNote_any (p s n : Int) (w : World) :
    Calls Tryd.prog 44 #[.agg #[.int .i64 p, .int .i64 s, .int .i64 n]] w fun e w' => e = .returned (.bool (noteB p s n)) ∧ Below w.heap.size w w' := by
  go_enter Tryd.func44, Tryd.ntmps44
  go_wp2_with (first
    | (go_at_call 69; refine (ntPitch_any _ _).mono ?_; rintro e w' ⟨rfl, rfl⟩)
    | (go_at_call 67; refine (l1In_any _ _ _ _).mono ?_; rintro e w' ⟨rfl, rfl⟩))
  go_ways
  all_goals (go_ret; exact ⟨ret_bool (by simp [noteB, *]), (Below.refl _ _).alloc (Nat.le_refl _) _⟩)

end Go.Proofs.YtkfgmkgbicahgaaDoor

namespace Go.Proofs.YtkfgmkgbicahgaaDoor
open Go.RowKit
set_option linter.unusedVariables false

/-- Two notes are equal. -/
def eqB (p s n p' s' n' : Int) : Bool := (p == p') && ((s == s') && (n == n'))
/-- The first of two notes (start, pitch) comes before the second one. -/
def befB (p s p' s' : Int) : Bool := decide (s < s') || ((s == s') && decide (p < p'))
/-- Two notes of one pitch sound in one step. -/
def meetB (p s n p' s' n' : Int) : Bool := (p == p') && (decide (s < s' + n') && decide (s' < s + n))
/-- -1, 0, 1 as two notes stand to each other. -/
def cmpZ (x y : Int) : Int := if x < y then -1 else if y < x then 1 else 0
def orZ (a b : Int) : Int := if a = 0 then b else a
def cmpN (p s p' s' : Int) : Int := orZ (cmpZ s s') (cmpZ p p')

set_option maxHeartbeats 400000 in
theorem toNote_any (p s n : Int) (w : World) :
    Calls Tryd.prog 12 #[.agg #[.int .i64 p, .int .i64 s, .int .i64 n]] w fun e w' => e = .returned (.agg #[.int .i64 p, .int .i64 s, .int .i64 n]) ∧ Below w.heap.size w w' := by
  go_enter Tryd.func12, Tryd.ntmps12
  go_wp2
  exact bodyPost_ret (v := .agg #[.int .i64 p, .int .i64 s, .int .i64 n]) (by simp [results, Tryd.results12, go_sem]) rfl ⟨rfl, (((Below.refl _ _).alloc (Nat.le_refl _) _).alloc (by simp) _).alloc (by simp; omega) _⟩

set_option maxHeartbeats 400000 in
theorem eqNote_any (p s n p' s' n' : Int) (w : World) :
    Calls Tryd.prog 19 #[.agg #[.int .i64 p, .int .i64 s, .int .i64 n], .agg #[.int .i64 p', .int .i64 s', .int .i64 n']] w fun e w' => e = .returned (.bool (eqB p s n p' s' n')) ∧ Below w.heap.size w w' := by
  go_enter Tryd.func19, Tryd.ntmps19
  go_wp2
  all_goals (go_ret; exact ⟨ret_bool (by first | (simp [eqB, *]; done) | (simp_all [eqB]; done) | (rw [Bool.eq_iff_iff]; simp [eqB]; omega)), ((Below.refl _ _).alloc (Nat.le_refl _) _).alloc (by simp) _⟩)

set_option maxHeartbeats 400000 in
theorem ntBefore_any (p s n p' s' n' : Int) (w : World) :
    Calls Tryd.prog 90 #[.agg #[.int .i64 p, .int .i64 s, .int .i64 n], .agg #[.int .i64 p', .int .i64 s', .int .i64 n']] w fun e w' => e = .returned (.bool (befB p s p' s')) ∧ Below w.heap.size w w' := by
  go_enter Tryd.func90, Tryd.ntmps90
  go_wp2
  all_goals (go_ret; exact ⟨ret_bool (by first | (simp [befB, *]; done) | (simp_all [befB]; done) | (rw [Bool.eq_iff_iff]; simp [befB]; omega)), ((Below.refl _ _).alloc (Nat.le_refl _) _).alloc (by simp) _⟩)

set_option maxHeartbeats 400000 in
theorem ntMeet_any (p s n p' s' n' : Int) (w : World) (h1 : 0 ≤ s) (h2 : s ≤ 999) (h3 : 0 ≤ n) (h4 : n ≤ 99) (h1' : 0 ≤ s') (h2' : s' ≤ 999) (h3' : 0 ≤ n') (h4' : n' ≤ 99) :
    Calls Tryd.prog 91 #[.agg #[.int .i64 p, .int .i64 s, .int .i64 n], .agg #[.int .i64 p', .int .i64 s', .int .i64 n']] w fun e w' => e = .returned (.bool (meetB p s n p' s' n')) ∧ Below w.heap.size w w' := by
  go_enter Tryd.func91, Tryd.ntmps91
  go_wp2
  all_goals (go_ret; exact ⟨ret_bool (by first | (simp [meetB, *]; done) | (simp_all [meetB]; done) | (rw [Bool.eq_iff_iff]; simp [meetB]; omega)), ((Below.refl _ _).alloc (Nat.le_refl _) _).alloc (by simp) _⟩)

set_option maxHeartbeats 400000 in
theorem endOfNote_any (p s n : Int) (w : World) (h1 : 0 ≤ s) (h2 : s ≤ 999) (h3 : 0 ≤ n) (h4 : n ≤ 99) :
    Calls Tryd.prog 49 #[.agg #[.int .i64 p, .int .i64 s, .int .i64 n]] w fun e w' => e = .returned (.int .i64 (s + n)) ∧ Below w.heap.size w w' := by
  go_enter Tryd.func49, Tryd.ntmps49
  go_wp2
  go_ret
  exact ⟨rfl, (Below.refl _ _).alloc (Nat.le_refl _) _⟩

set_option maxHeartbeats 400000 in
theorem cmpCompare_any (x y : Int) (w : World) :
    Calls Tryd.prog 96 #[.int .i64 x, .int .i64 y] w fun e w' => e = .returned (.int .i64 (cmpZ x y)) ∧ w = w' := by
  go_enter Tryd.func96, Tryd.ntmps96
  go_wp2
  all_goals (go_ret; exact ⟨ret_int (by unfold cmpZ; (repeat' split) <;> omega), rfl⟩)

set_option maxHeartbeats 400000 in
theorem cmpOr_any (g : Nat) (x y : Int) (w : World) (hx : w.cell? ⟨g, 0, none⟩ = some (.int .i64 x)) (hy : w.cell? ⟨g, 1, none⟩ = some (.int .i64 y)) :
    Calls Tryd.prog 95 #[.slice (some ⟨g, 0, none⟩) 2 2] w fun e w' => e = .returned (.int .i64 (orZ x y)) ∧ w = w' := by
  go_enter Tryd.func95, Tryd.ntmps95
  go_wp2
  go_rounds 3
  all_goals (go_ret; exact ⟨ret_int (by simp_all [orZ]), rfl⟩)

end Go.Proofs.YtkfgmkgbicahgaaDoor

namespace Go.Proofs.YtkfgmkgbicahgaaDoor
open Go.RowKit
set_option linter.unusedVariables false

theorem cmpCompare_same (x y : Int) (w : World) :
    Calls Tryd.prog 96 #[.int .i64 x, .int .i64 y] w fun e w' => e = .returned (.int .i64 (cmpZ x y)) ∧ w' = w :=
  (cmpCompare_any x y w).mono fun _ _ ⟨h, k⟩ => ⟨h, k.symm⟩

set_option maxRecDepth 100000 in
set_option maxHeartbeats 1000000 in
theorem compareNotes_any (p s n p' s' n' : Int) (w : World) :
    Calls Tryd.prog 97 #[.agg #[.int .i64 p, .int .i64 s, .int .i64 n], .agg #[.int .i64 p', .int .i64 s', .int .i64 n']] w
      fun e w' => e = .returned (.int .i64 (cmpN p s p' s')) ∧ Below w.heap.size w w' := by
  go_enter Tryd.func97, Tryd.ntmps97
  go_wp2_with fail
  refine wp_region_still_tail 10 (by kernel_rfl) (by kernel_rfl) ?_
  change wpStill _ _ (World.drew _) (fun a' => wpList _ _ _ _ a' (World.drew _)) _ _
  simp only [List.take_succ_cons, List.take_zero, List.drop_succ_cons, List.drop_zero]
  repeat still_step
  still_call (cmpCompare_same _ _ _)
  repeat still_step
  still_call (cmpCompare_same _ _ _)
  repeat still_step
  try refine wpStill_nil ?_
  go_wp2_with (go_at_call 95; refine (cmpOr_any _ (cmpZ s s') (cmpZ p p') _ (by go_simp) (by go_simp)).mono ?_; rintro e w1 ⟨rfl, rfl⟩)
  go_ret
  exact ⟨rfl, by first | exact ((((Below.refl _ _).alloc (Nat.le_refl _) _).alloc (by simp) _).drew).alloc (by simp; omega) _ | exact ((((Below.refl _ _).alloc (Nat.le_refl _) _).alloc (by simp) _).alloc (by simp; omega) _).drew⟩
end Go.Proofs.YtkfgmkgbicahgaaDoor

namespace Go.Proofs.YtkfgmkgbicahgaaDoor
open Go.RowKit

def noteN (x : Nt) : Bool := noteB x.1 x.2.1 x.2.2
def befN (y x : Nt) : Bool := befB y.1 y.2.1 x.1 x.2.1
def meetN (x y : Nt) : Bool := meetB x.1 x.2.1 x.2.2 y.1 y.2.1 y.2.2
/-- Note k of l is valid, behind the one before it, and meets none before it. -/
def okAt (l : List Nt) (k : Nat) (x : Nt) : Prop :=
  noteN x = true ∧ (∀ y, 0 < k → l[k - 1]? = some y → befN y x = true) ∧ ∀ j y, j < k → l[j]? = some y → meetN x y = false
def GoodTo (l : List Nt) (k : Nat) : Prop := ∀ i x, i < k → l[i]? = some x → okAt l i x
def Good (l : List Nt) : Prop := GoodTo l l.length ∧ l.length ≤ 30

theorem noteN_iff (x : Nt) : noteN x = true ↔ 24 ≤ x.1 ∧ x.1 ≤ 96 ∧ 0 ≤ x.2.1 ∧ x.2.1 ≤ 999 ∧ 1 ≤ x.2.2 ∧ x.2.2 ≤ 99 := by
  simp [noteN, noteB, inR]; omega
theorem befN_iff (y x : Nt) : befN y x = true ↔ y.2.1 < x.2.1 ∨ y.2.1 = x.2.1 ∧ y.1 < x.1 := by
  simp [befN, befB]
theorem meetN_iff (x y : Nt) : meetN x y = true ↔ x.1 = y.1 ∧ x.2.1 < y.2.1 + y.2.2 ∧ y.2.1 < x.2.1 + x.2.2 := by
  simp [meetN, meetB]

theorem GoodTo.zero (l : List Nt) : GoodTo l 0 := fun _ _ h => absurd h (by omega)
theorem GoodTo.succ {l : List Nt} {k : Nat} {x : Nt} (h : GoodTo l k) (hx : l[k]? = some x) (ho : okAt l k x) : GoodTo l (k + 1) := by
  intro i y hi hy
  rcases Nat.lt_or_ge i k with hik | hik
  · exact h i y hik hy
  · obtain rfl : i = k := by omega
    rw [hx] at hy; injection hy with hy; subst hy; exact ho
theorem Good.not_of {l : List Nt} {k : Nat} {x : Nt} (hx : l[k]? = some x) (ho : ¬ okAt l k x) : ¬ Good l := fun h => ho (h.1 k x (List.getElem?_eq_some_iff.1 hx).1 hx)

/-- Starts do not fall along a good beginning. -/
theorem GoodTo.mono {l : List Nt} {k : Nat} (h : GoodTo l k) : ∀ i j x y, i ≤ j → j < k → l[i]? = some x → l[j]? = some y → x.2.1 ≤ y.2.1 := by
  intro i j x y hij
  induction j generalizing y with
  | zero =>
    intro _ hx hy
    obtain rfl : i = 0 := by omega
    rw [hx] at hy; injection hy with hy; subst hy; exact Int.le_refl _
  | succ j ih =>
    intro hj hx hy
    rcases Nat.lt_or_ge j i with hji | hji
    · obtain rfl : i = j + 1 := by omega
      rw [hx] at hy; injection hy with hy; subst hy; exact Int.le_refl _
    · have hlt : j < l.length := by have := (List.getElem?_eq_some_iff.1 hy).1; omega
      have hz : l[j]? = some l[j] := List.getElem?_eq_getElem hlt
      have h1 := ih _ hji (by omega) hx hz
      have h2 := (h (j + 1) y hj hy).2.1 l[j] (by omega) (by simp)
      rw [befN_iff] at h2
      omega

/-- The end of the last note of a pitch among notes, 0 without one. -/
def endsF (p : Int) : List Nt → Int → Int
  | [], a => a
  | y :: r, a => endsF p r (if y.1 = p then y.2.1 + y.2.2 else a)
theorem endsF_snoc (p : Int) (l : List Nt) (x : Nt) (a : Int) : endsF p (l ++ [x]) a = if x.1 = p then x.2.1 + x.2.2 else endsF p l a := by
  induction l generalizing a with
  | nil => rfl
  | cons y l ih => simp only [List.cons_append, endsF, ih]
theorem endsF_take (p : Int) (l : List Nt) (k : Nat) (x : Nt) (hx : l[k]? = some x) : endsF p (l.take (k + 1)) 0 = if x.1 = p then x.2.1 + x.2.2 else endsF p (l.take k) 0 := by
  rw [List.take_add_one, hx]
  exact endsF_snoc p _ x 0

/-- Along a good beginning the last end of a pitch is the greatest, and it is one of a note of the pitch, or 0. -/
theorem endsF_spec {l : List Nt} {k : Nat} (h : GoodTo l k) (hk : k ≤ l.length) (p : Int) :
    (∀ j y, j < k → l[j]? = some y → y.1 = p → y.2.1 + y.2.2 ≤ endsF p (l.take k) 0) ∧
    (endsF p (l.take k) 0 = 0 ∨ ∃ j y, j < k ∧ l[j]? = some y ∧ y.1 = p ∧ endsF p (l.take k) 0 = y.2.1 + y.2.2) := by
  induction k with
  | zero => exact ⟨fun _ _ h => absurd h (by omega), .inl rfl⟩
  | succ k ih =>
    have hx : l[k]? = some l[k] := List.getElem?_eq_getElem (by omega)
    generalize l[k] = x at hx
    have hg : GoodTo l k := fun i y hi hy => h i y (by omega) hy
    obtain ⟨ha, hb⟩ := ih hg (by omega)
    have hok := h k x (by omega) hx
    rw [endsF_take p l k x hx]
    by_cases hp : x.1 = p
    · rw [if_pos hp]
      refine ⟨fun j y hj hy hyp => ?_, .inr ⟨k, x, by omega, hx, hp, rfl⟩⟩
      rcases Nat.lt_or_ge j k with hjk | hjk
      · have hm := hok.2.2 j y hjk hy
        have hle := h.mono j k y x (by omega) (by omega) hy hx
        have hv := (noteN_iff x).1 hok.1
        have hv' := (noteN_iff y).1 (h j y (by omega) hy).1
        have : ¬ (meetN x y = true) := by rw [hm]; simp
        rw [meetN_iff] at this
        have : ¬ (x.2.1 < y.2.1 + y.2.2 ∧ y.2.1 < x.2.1 + x.2.2) := fun hh => this ⟨by rw [hp, hyp], hh⟩
        omega
      · obtain rfl : j = k := by omega
        rw [hx] at hy; injection hy with hy; subst hy; exact Int.le_refl _
    · rw [if_neg hp]
      refine ⟨fun j y hj hy hyp => ?_, ?_⟩
      · rcases Nat.lt_or_ge j k with hjk | hjk
        · exact ha j y hjk hy hyp
        · obtain rfl : j = k := by omega
          rw [hx] at hy; injection hy with hy; subst hy; exact absurd hyp hp
      · rcases hb with hb | ⟨j, y, hj, hy, hyp, he⟩
        · exact .inl hb
        · exact .inr ⟨j, y, by omega, hy, hyp, he⟩

/-- The program's way of asking whether note k goes on. -/
theorem okAt_iff {l : List Nt} {k : Nat} {x : Nt} (h : GoodTo l k) (hk : k ≤ l.length) (hv : noteN x = true) (hbef : ∀ y, 0 < k → l[k - 1]? = some y → befN y x = true) :
    okAt l k x ↔ ¬ (x.2.1 < endsF x.1 (l.take k) 0) := by
  obtain ⟨ha, hb⟩ := endsF_spec h hk x.1
  have hx := (noteN_iff x).1 hv
  have hle : ∀ j y, j < k → l[j]? = some y → y.2.1 ≤ x.2.1 := by
    intro j y hj hy
    have hz : l[k - 1]? = some l[k - 1] := List.getElem?_eq_getElem (by omega)
    have h1 := h.mono j (k - 1) y _ (by omega) (by omega) hy hz
    have h2 := (befN_iff _ _).1 (hbef _ (by omega) hz)
    omega
  constructor
  · intro ho hlt
    rcases hb with hb | ⟨j, y, hj, hy, hyp, he⟩
    · omega
    · have hm := ho.2.2 j y hj hy
      have : ¬ (meetN x y = true) := by rw [hm]; simp
      rw [meetN_iff] at this
      have h1 := hle j y hj hy
      exact this ⟨hyp.symm, by omega, by omega⟩
  · intro hn
    refine ⟨hv, hbef, fun j y hj hy => ?_⟩
    cases hm : meetN x y with
    | false => rfl
    | true =>
      rw [meetN_iff] at hm
      have := ha j y hj hy hm.1.symm
      omega

theorem cmpN_bef (y x : Nt) : (cmpN y.1 y.2.1 x.1 x.2.1 < 0) ↔ befN y x = true := by
  rw [befN_iff]
  unfold cmpN orZ cmpZ
  (repeat' split) <;> omega

/-- Whether note k is such, as a Bool. -/
def okB (l : List Nt) (k : Nat) : Bool :=
  match l[k]? with
  | none => true
  | some x => noteN x && ((decide (k = 0) || (match l[k - 1]? with | some y => befN y x | none => true)) && (l.take k).all fun y => !meetN x y)
def goodB (l : List Nt) : Bool := (List.range l.length).all (okB l) && decide (l.length ≤ 30)

theorem okB_iff {l : List Nt} {k : Nat} {x : Nt} (hx : l[k]? = some x) : okB l k = true ↔ okAt l k x := by
  have hk := (List.getElem?_eq_some_iff.1 hx).1
  unfold okB okAt
  rw [hx]
  simp only [Bool.and_eq_true, Bool.or_eq_true, decide_eq_true_eq, List.all_eq_true, Bool.not_eq_true']
  refine and_congr Iff.rfl (and_congr ⟨?_, ?_⟩ ⟨?_, ?_⟩)
  · intro h y h0 hy
    rcases h with h | h
    · omega
    · rw [hy] at h; exact h
  · intro h
    rcases Nat.eq_zero_or_pos k with h0 | h0
    · exact .inl h0
    · right
      have hy : l[k - 1]? = some l[k - 1] := List.getElem?_eq_getElem (by omega)
      rw [hy]
      exact h _ h0 hy
  · intro h j y hj hy
    exact h y (List.mem_iff_getElem?.2 ⟨j, by rw [List.getElem?_take, if_pos hj]; exact hy⟩)
  · intro h y hy
    obtain ⟨j, hj⟩ := List.mem_iff_getElem?.1 hy
    have hjk : j < k := by
      rcases Nat.lt_or_ge j k with h' | h'
      · exact h'
      · rw [List.getElem?_take, if_neg (by omega)] at hj; cases hj
    rw [List.getElem?_take, if_pos hjk] at hj
    exact h j y hjk hj
theorem goodB_iff (l : List Nt) : goodB l = true ↔ Good l := by
  unfold goodB Good
  rw [Bool.and_eq_true, List.all_eq_true, decide_eq_true_eq]
  refine and_congr ⟨?_, ?_⟩ Iff.rfl
  · intro h i x hi hx
    exact (okB_iff hx).1 (h i (List.mem_range.2 hi))
  · intro h i hi
    have hi := List.mem_range.1 hi
    exact (okB_iff (List.getElem?_eq_getElem hi)).2 (h i _ hi (List.getElem?_eq_getElem hi))
theorem goodB_false {l : List Nt} (h : ¬ Good l) : goodB l = false := by
  cases hb : goodB l with
  | false => rfl
  | true => exact absurd ((goodB_iff l).1 hb) h
end Go.Proofs.YtkfgmkgbicahgaaDoor

namespace Go.Proofs.YtkfgmkgbicahgaaDoor.H
open Go.RowKit
set_option linter.unusedVariables false

/-- A hole is valid. -/
def noteB (p s n : Int) : Bool := inR p 0 19 && (inR s 0 1999 && inR n (s + 1) 2000)
theorem noteB_iff (p s n : Int) : noteB p s n = true ↔ 0 ≤ p ∧ p ≤ 19 ∧ 0 ≤ s ∧ s < n ∧ n ≤ 2000 := by
  simp [noteB, inR]; omega
set_option maxHeartbeats 400000 in
theorem isTrack_any (n : Int) (w : World) :
    Calls Tryd.prog 75 #[.int .i64 n] w fun e w' => e = .returned (.bool (inR n 0 19)) ∧ w = w' := by
  go_enter Tryd.func75, Tryd.ntmps75
  go_wp2_with (go_at_call 74; refine (inRange_any _ _ _ _).mono ?_; rintro e w' ⟨rfl, rfl⟩)
  go_ret; exact ⟨rfl, rfl⟩

set_option maxHeartbeats 400000 in
theorem implIsNote_any (p s n : Int) (w : World) :
    Calls Tryd.prog 50 #[.agg #[.int .i64 p, .int .i64 s, .int .i64 n]] w fun e w' => e = .returned (.bool (noteB p s n)) ∧ Below w.heap.size w w' := by
  cases hp : inR p 0 19 <;>
  · go_enter Tryd.func50, Tryd.ntmps50
    go_wp2_with (go_at_call 75; refine (isTrack_any _ _).mono ?_; rintro e w' ⟨rfl, rfl⟩)
    all_goals (go_ret; exact ⟨ret_bool (by first | (simp [noteB, *]; done) | (simp [noteB, inR, *] at *; omega) | (rw [Bool.eq_iff_iff, noteB_iff]; simp [inR] at *; omega)), (Below.refl _ _).alloc (Nat.le_refl _) _⟩)

set_option maxHeartbeats 400000 in
theorem ntNote_any (p s n : Int) (w : World) :
    Calls Tryd.prog 51 #[.agg #[.int .i64 p, .int .i64 s, .int .i64 n]] w fun e w' => e = .returned (.bool (noteB p s n)) ∧ Below w.heap.size w w' := by
  cases hp : inR p 0 19 with
  | false =>
    go_enter Tryd.func51, Tryd.ntmps51
    go_wp2_with (go_at_call 67; refine (l1In_any _ _ _ _).mono ?_; rintro e w' ⟨rfl, rfl⟩)
    go_ret; exact ⟨ret_bool (by simp [noteB, *]), (Below.refl _ _).alloc (Nat.le_refl _) _⟩
  | true =>
    cases hs : inR s 0 1999 with
    | false =>
      go_enter Tryd.func51, Tryd.ntmps51
      go_wp2_with (go_at_call 67; refine (l1In_any _ _ _ _).mono ?_; rintro e w' ⟨rfl, rfl⟩)
      go_ret; exact ⟨ret_bool (by simp [noteB, *]), (Below.refl _ _).alloc (Nat.le_refl _) _⟩
    | true =>
      have h1 : 0 ≤ s ∧ s ≤ 1999 := by simpa [inR] using hs
      obtain ⟨h1, h2⟩ := h1
      go_enter Tryd.func51, Tryd.ntmps51
      go_wp2_with (go_at_call 67; refine (l1In_any _ _ _ _).mono ?_; rintro e w' ⟨rfl, rfl⟩)
      go_ret; exact ⟨ret_bool (by simp [noteB, *]), (Below.refl _ _).alloc (Nat.le_refl _) _⟩

end Go.Proofs.YtkfgmkgbicahgaaDoor.H

namespace Go.Proofs.YtkfgmkgbicahgaaDoor.H
open Go.RowKit
set_option linter.unusedVariables false

/-- Behind a hole there is no web ahead of a further one of its track. -/
def meetB (p s n p' s' n' : Int) : Bool := (p == p') && decide (s ≤ n')
set_option maxHeartbeats 400000 in
theorem ntBefore_any (p s n p' s' n' : Int) (w : World) :
    Calls Tryd.prog 92 #[.agg #[.int .i64 p, .int .i64 s, .int .i64 n], .agg #[.int .i64 p', .int .i64 s', .int .i64 n']] w fun e w' => e = .returned (.bool (befB p s p' s')) ∧ Below w.heap.size w w' := by
  go_enter Tryd.func92, Tryd.ntmps92
  go_wp2
  all_goals (go_ret; exact ⟨ret_bool (by first | (simp [befB, *]; done) | (simp_all [befB]; done) | (rw [Bool.eq_iff_iff]; simp [befB]; omega)), ((Below.refl _ _).alloc (Nat.le_refl _) _).alloc (by simp) _⟩)

end Go.Proofs.YtkfgmkgbicahgaaDoor.H

namespace Go.Proofs.YtkfgmkgbicahgaaDoor
open Go.RowKit

/-- Number k of a list is in a range and above the one before it. -/
def upAt (lo hi : Int) (l : List Int) (k : Nat) (x : Int) : Prop := inR x lo hi = true ∧ ∀ y, 0 < k → l[k - 1]? = some y → y < x
def UpTo (lo hi : Int) (l : List Int) (k : Nat) : Prop := ∀ i x, i < k → l[i]? = some x → upAt lo hi l i x
def upB (lo hi : Int) (l : List Int) (k : Nat) : Bool :=
  match l[k]? with
  | none => true
  | some x => inR x lo hi && (decide (k = 0) || (match l[k - 1]? with | some y => decide (y < x) | none => true))
def riseB (lo hi : Int) (l : List Int) : Bool := (List.range l.length).all (upB lo hi l)

theorem upB_iff {lo hi : Int} {l : List Int} {k : Nat} {x : Int} (hx : l[k]? = some x) : upB lo hi l k = true ↔ upAt lo hi l k x := by
  have hk := (List.getElem?_eq_some_iff.1 hx).1
  unfold upB upAt
  rw [hx]
  simp only [Bool.and_eq_true, Bool.or_eq_true, decide_eq_true_eq]
  refine and_congr Iff.rfl ⟨?_, ?_⟩
  · intro h y h0 hy
    rcases h with h | h
    · omega
    · rw [hy] at h; exact of_decide_eq_true h
  · intro h
    rcases Nat.eq_zero_or_pos k with h0 | h0
    · exact .inl h0
    · right
      have hy : l[k - 1]? = some l[k - 1] := List.getElem?_eq_getElem (by omega)
      rw [hy]
      exact decide_eq_true (h _ h0 hy)
theorem riseB_iff (lo hi : Int) (l : List Int) : riseB lo hi l = true ↔ UpTo lo hi l l.length := by
  unfold riseB
  rw [List.all_eq_true]
  constructor
  · intro h i x hi hx
    exact (upB_iff hx).1 (h i (List.mem_range.2 hi))
  · intro h i hi
    have hi := List.mem_range.1 hi
    exact (upB_iff (List.getElem?_eq_getElem hi)).2 (h i _ hi (List.getElem?_eq_getElem hi))
theorem UpTo.zero (lo hi : Int) (l : List Int) : UpTo lo hi l 0 := fun _ _ h => absurd h (by omega)
theorem UpTo.succ {lo hi : Int} {l : List Int} {k : Nat} {x : Int} (h : UpTo lo hi l k) (hx : l[k]? = some x) (ho : upAt lo hi l k x) : UpTo lo hi l (k + 1) := by
  intro i y hi hy
  rcases Nat.lt_or_ge i k with hik | hik
  · exact h i y hik hy
  · obtain rfl : i = k := by omega
    rw [hx] at hy; injection hy with hy; subst hy; exact ho
theorem riseB_not {lo hi : Int} {l : List Int} {k : Nat} {x : Int} (hx : l[k]? = some x) (ho : ¬ upAt lo hi l k x) : riseB lo hi l = false := by
  cases hb : riseB lo hi l with
  | false => rfl
  | true => exact absurd ((riseB_iff lo hi l).1 hb k x (List.getElem?_eq_some_iff.1 hx).1 hx) ho

/-- An instrument is valid. -/
def gdI (P : List Int) (r : Int) : Bool := inR P.length 1 20 && (riseB 24 96 P && inR r 1 20)
theorem gdI_iff (P : List Int) (r : Int) : gdI P r = true ↔ (1 ≤ P.length ∧ P.length ≤ 20) ∧ UpTo 24 96 P P.length ∧ 1 ≤ r ∧ r ≤ 20 := by
  unfold gdI
  rw [Bool.and_eq_true, Bool.and_eq_true, riseB_iff]
  simp [inR]
  omega
theorem UpTo.range {lo hi : Int} {l : List Int} (h : UpTo lo hi l l.length) {x : Int} (hx : x ∈ l) : lo ≤ x ∧ x ≤ hi := by
  obtain ⟨i, hi⟩ := List.mem_iff_getElem?.1 hx
  have := (h i x (List.getElem?_eq_some_iff.1 hi).1 hi).1
  simpa [inR] using this
/-- A list that rises is strictly increasing throughout. -/
theorem UpTo.inc {lo hi : Int} : ∀ {l : List Int}, UpTo lo hi l l.length → l.Pairwise (fun a b : Int => a < b) := by
  intro l h
  have key : ∀ (i j : Nat) (x y : Int), i < j → l[i]? = some x → l[j]? = some y → x < y := by
    intro i j x y hij
    induction j generalizing y with
    | zero => omega
    | succ j ih =>
      intro hx hy
      have hl := (List.getElem?_eq_some_iff.1 hy).1
      have hz : l[j]? = some l[j] := List.getElem?_eq_getElem (by omega)
      have h1 := (h (j + 1) y hl hy).2 l[j] (by omega) (by simp)
      rcases Nat.lt_or_ge i j with hlt | hge
      · have := ih _ hlt hx hz; omega
      · obtain rfl : i = j := by omega
        rw [hz] at hx; injection hx with hx; omega
  rw [List.pairwise_iff_getElem]
  intro i j hi hj hij
  exact key i j _ _ hij (List.getElem?_eq_getElem hi) (List.getElem?_eq_getElem hj)
theorem upTo_of_inc {lo hi : Int} {l : List Int} (h : l.Pairwise (fun a b : Int => a < b)) (hr : ∀ x ∈ l, lo ≤ x ∧ x ≤ hi) : UpTo lo hi l l.length := by
  intro i x hi hx
  obtain ⟨hi', e⟩ := List.getElem?_eq_some_iff.1 hx
  refine ⟨?_, fun y h0 hy => ?_⟩
  · have := hr x (List.mem_of_getElem? hx); simp [inR]; omega
  · obtain ⟨hi2, e2⟩ := List.getElem?_eq_some_iff.1 hy
    have := List.pairwise_iff_getElem.1 h (i - 1) i (by omega) hi' (by omega)
    rw [← e, ← e2]; exact this

/-- The place of the first p in a list whose first place is k, or -1. -/
def trkF (p : Int) : List Int → Int → Int
  | [], _ => -1
  | x :: r, k => if x = p then k else trkF p r (k + 1)
def trk (p : Int) (l : List Int) : Int := trkF p l 0
def hasB (l : List Int) (p : Int) : Bool := decide (p ∈ l)
theorem trkF_drop (p : Int) (l : List Int) (k : Nat) (x : Int) (hx : l[k]? = some x) : trkF p (l.drop k) k = if x = p then (k : Int) else trkF p (l.drop (k + 1)) ((k + 1 : Nat) : Int) := by
  obtain ⟨h, e⟩ := List.getElem?_eq_some_iff.1 hx
  rw [List.drop_eq_getElem_cons h, e, trkF]
  simp
theorem trkF_spec (p : Int) (l : List Int) (k : Int) (hk : 0 ≤ k) : (p ∈ l ∧ k ≤ trkF p l k ∧ trkF p l k < k + l.length) ∨ (p ∉ l ∧ trkF p l k = -1) := by
  induction l generalizing k with
  | nil => right; simp [trkF]
  | cons x l ih =>
    unfold trkF
    by_cases hx : x = p
    · left; rw [if_pos hx]; subst hx; simp; omega
    · rw [if_neg hx]
      rcases ih (k + 1) (by omega) with ⟨a, b, c⟩ | ⟨a, b⟩
      · left; refine ⟨.tail _ a, by omega, by simp; omega⟩
      · right; refine ⟨fun h => ?_, b⟩
        rcases List.mem_cons.1 h with h | h
        · exact hx h.symm
        · exact a h
theorem trk_neg (p : Int) (l : List Int) : trk p l < 0 ↔ p ∉ l := by
  rcases trkF_spec p l 0 (by omega) with ⟨a, b, c⟩ | ⟨a, b⟩
  · unfold trk; simp [a]; omega
  · unfold trk; simp [a, b]
theorem hasB_iff (l : List Int) (p : Int) : hasB l p = true ↔ p ∈ l := by simp [hasB]
theorem hasB_trk (l : List Int) (p : Int) : hasB l p = decide (0 ≤ trk p l) := by
  have := trk_neg p l
  rw [Bool.eq_iff_iff, hasB_iff, decide_eq_true_eq]
  by_cases h : p ∈ l
  · simp [h] at this ⊢; omega
  · simp [h] at this ⊢; omega
theorem trk_lt (p : Int) (l : List Int) : trk p l < l.length ∧ -1 ≤ trk p l := by
  rcases trkF_spec p l 0 (by omega) with ⟨a, b, c⟩ | ⟨a, b⟩
  · unfold trk; omega
  · unfold trk; rw [b]; omega
end Go.Proofs.YtkfgmkgbicahgaaDoor

namespace Go.Proofs.YtkfgmkgbicahgaaDoor
open Go.RowKit
set_option linter.unusedVariables false

set_option maxRecDepth 100000 in
set_option maxHeartbeats 1000000 in
theorem eqIntS_any (A B : Option Addr) (l m : List Int) (c d : Nat) (w : World) (hl : l.length ≤ 9223372036854775807) (hm : m.length ≤ 9223372036854775807) (hA : RI w A l) (hB : RI w B m) :
    Calls Tryd.prog 39 #[.slice A l.length c, .slice B m.length d] w fun e w' => e = .returned (.bool (decide (l = m))) ∧ Below w.heap.size w w' := by
  by_cases hlen : l.length = m.length
  · go_enter Tryd.func39, Tryd.ntmps39
    have hne : ((l.length : Int) != (m.length : Int)) = false := by simp [hlen]
    have HLEN := Lib.hid hlen
    clear hlen
    go_wp2
    go_loopw [5] (fun i wr => ∃ k : Nat, k ≤ l.length ∧ i = .int .i64 k ∧ l.take k = m.take k ∧ Below w.heap.size w wr)
      (fun i _ => l.length - (intOf i).toNat)
    case atStart => exact ⟨0, Nat.zero_le _, rfl, by simp, Below.refl _ _⟩
    case round =>
      obtain ⟨k, hk, rfl, htake, hb⟩ := hrel
      have HT := Lib.hid htake
      clear htake
      by_cases hlt : k < l.length
      · have hlt' : k < m.length := by have := HLEN.out; omega
        have hx : l[k]? = some l[k] := List.getElem?_eq_getElem hlt
        have hy : m[k]? = some m[k] := List.getElem?_eq_getElem hlt'
        generalize l[k] = x at hx
        generalize m[k] = y at hy
        obtain ⟨g, o, rfl, hg, h0⟩ := (hA.below hb) k _ hx
        obtain ⟨g', o', rfl, hg', h0'⟩ := (hB.below hb) k _ hy
        have i1 : (0 : Int) ≤ (k : Int) := by omega
        have i2 : (k : Int) < (l.length : Int) := by omega
        have i3 : (k : Int) < (m.length : Int) := by omega
        have HX := Lib.hid hx
        have HY := Lib.hid hy
        clear hx hy hA hB
        by_cases he : x = y
        · subst he
          go_wp2_with fail
          go_region
          all_goals
            go_wp2
            go_roundw
            case rel =>
              refine ⟨k + 1, by omega, by go_num, ?_, hb.drew⟩
              rw [List.take_add_one, List.take_add_one, HT.out, HX.out, HY.out]
            case measure => simp [intOf]; omega
        · have hne2 : (x != y) = true := by simp [he]
          go_wp2_with fail
          go_region
          all_goals
            go_wp2
            go_ret
            refine ⟨ret_bool ?_, hb.drew⟩
            have : l ≠ m := by
              rintro rfl
              have := HX.out.symm.trans HY.out
              simp at this
              exact he this
            simp [this]
      · obtain rfl : k = l.length := by omega
        go_wp2
        go_ret
        refine ⟨ret_bool ?_, hb⟩
        have : l = m := by
          have h := HT.out
          rw [List.take_length, HLEN.out, List.take_length] at h
          exact h
        simp [this]
  · go_enter Tryd.func39, Tryd.ntmps39
    have hne : ((l.length : Int) != (m.length : Int)) = true := by simp; omega
    go_wp2
    go_ret
    exact ⟨ret_bool (by simp; intro h; exact hlen (by rw [h])), Below.refl _ _⟩

set_option maxRecDepth 100000 in
set_option maxHeartbeats 1000000 in
theorem heldIntS_any (A : Option Addr) (K : Int) (n c : Nat) (w : World) (hn : n ≤ 1048576) (hK : 0 ≤ K) (hK' : K ≤ 1048576) (hA : RI w A (mki n K)) :
    Calls Tryd.prog 41 #[.slice A n c, .int .i64 K] w fun e w' => e = .returned (.int .i64 (K + n)) ∧ w = w' := by
  go_enter Tryd.func41, Tryd.ntmps41
  go_wp2
  go_loop [1, 5] (fun q i => ∃ k : Nat, k ≤ n ∧ i = .int .i64 k ∧ q = .int .i64 (K + k))
    (fun _ i => n - (intOf i).toNat)
  case atStart => exact ⟨0, Nat.zero_le _, rfl, by simp⟩
  case round =>
    obtain ⟨k, hk, rfl, rfl⟩ := hrel
    by_cases hlt : k < n
    · obtain ⟨g, o, rfl, hg, h0⟩ := hA k _ (mki_get n K k hlt)
      clear hA
      go_wp2
      go_round
      case rel => exact ⟨k + 1, by omega, by go_num, by first | go_num | (congr 1; omega)⟩
      case measure => simp [intOf]; omega
    · obtain rfl : k = n := by omega
      go_wp2
      go_ret
      exact ⟨rfl, rfl⟩

set_option maxRecDepth 100000 in
set_option maxHeartbeats 1000000 in
theorem markIntS_any (v : Value) (l : List Int) (K : Int) (base : Nat) (w : World) (hn : l.length ≤ 1048576) (hK : 0 ≤ K) (hK' : K ≤ 1048576) (hv : OwnI w base 3 v l) :
    Calls Tryd.prog 40 #[v, .int .i64 K] w fun e w' => e = .returned (.int .i64 (K + l.length)) ∧ OwnI w' base 3 v (mki l.length K) ∧ w.grownBy w' v.ownBlock := by
  have hv0 := hv
  rcases hv.2 with ⟨rfl, h0⟩ | ⟨g, cap, cur, rfl, hg, hh, hnc, hm, hs, ht⟩
  · obtain rfl : l = [] := List.eq_nil_of_length_eq_zero h0
    go_enter Tryd.func40, Tryd.ntmps40
    go_wp2
    go_rounds 1
    go_ret
    exact ⟨ret_int (by simp), hv0, World.grownBy.refl w _⟩
  · have hlt : g < w.heap.size := (hv0.lt _ rfl).2
    clear hh hs ht cur
    go_enter Tryd.func40, Tryd.ntmps40
    go_wp2
    go_loopw [1, 5] (fun q i wr => ∃ k : Nat, k ≤ l.length ∧ i = .int .i64 k ∧ q = .int .i64 (K + k) ∧ OwnI wr base 3 (.slice (some ⟨g, 0, none⟩) l.length cap) (mki k K ++ l.drop k) ∧ w.grownBy wr (some g))
      (fun _ i _ => l.length - (intOf i).toNat)
    case atStart => exact ⟨0, Nat.zero_le _, rfl, by simp, by simpa [mki] using hv0, World.grownBy.refl w _⟩
    case round =>
      obtain ⟨k, hk, rfl, rfl, hown, hgr⟩ := hrel
      have hL : (mki k K ++ l.drop k).length = l.length := by simp [mki_length]; omega
      by_cases hk2 : k < l.length
      · unfold OwnI at hown
        rw [hL] at hown
        have f0 := hown.frozenAt k
        have c0 : ∃ u, wr.cell? ⟨g, k, none⟩ = some u := by rw [hown.cellAt _ (by omega)]; exact ⟨_, List.getElem?_eq_getElem (by rw [ci_length, hL]; omega)⟩
        obtain ⟨u0, c0⟩ := c0
        have H := Lib.hid hown
        have HL := Lib.hid hL
        clear hown hL hv hv0
        go_wp2
        go_roundw
        case rel =>
          have s1 := H.out.stored k (.int .i64 (K + k))
          have k2 := s1.1
          have e1 : (ci (mki k K ++ l.drop k)).set k (.int .i64 (K + k)) = ci (mki (k + 1) K ++ l.drop (k + 1)) := by
            rw [← mki_set l K k hk2]; simp [ci, List.map_set]
          rw [e1] at k2
          have hL' : (mki (k + 1) K ++ l.drop (k + 1)).length = l.length := by simp [mki_length]; omega
          refine ⟨k + 1, by omega, by go_num, by first | go_num | (congr 1; omega), ?_, hgr.trans s1.2⟩
          unfold OwnI
          rw [hL']
          exact k2
        case measure => simp [intOf]; omega
      · obtain rfl : k = l.length := by omega
        go_wp2
        go_ret
        exact ⟨rfl, by simpa using hown, hgr⟩

end Go.Proofs.YtkfgmkgbicahgaaDoor

namespace Go.Proofs.YtkfgmkgbicahgaaDoor
open Go.RowKit

def putF (f : Nt → Bool) (acc : List Int) (x : Nt) : List Int := if f x = true then putL x.1 acc else acc
/-- The model's way: put one after another. -/
def atF (f : Nt → Bool) (l : List Nt) : List Int := l.foldl (putF f) []
/-- The program's way: all of them, in the score's order. -/
def psF (f : Nt → Bool) : List Nt → List Int
  | [] => []
  | x :: l => if f x = true then x.1 :: psF f l else psF f l
theorem psF_append (f : Nt → Bool) (l m : List Nt) : psF f (l ++ m) = psF f l ++ psF f m := by
  induction l with
  | nil => rfl
  | cons x l ih => simp only [List.cons_append, psF, ih]; split <;> rfl
theorem psF_snoc (f : Nt → Bool) (l : List Nt) (k : Nat) (x : Nt) (h : l[k]? = some x) : psF f (l.take (k + 1)) = psF f (l.take k) ++ (if f x = true then [x.1] else []) := by
  rw [List.take_add_one, h, psF_append]
  simp only [Option.toList, psF]
theorem psF_length (f : Nt → Bool) (l : List Nt) : (psF f l).length ≤ l.length := by
  induction l with
  | nil => simp [psF]
  | cons x l ih => simp only [psF]; split <;> simp <;> omega
theorem atF_snoc (f : Nt → Bool) (l : List Nt) (k : Nat) (x : Nt) (h : l[k]? = some x) : atF f (l.take (k + 1)) = if f x = true then putL x.1 (atF f (l.take k)) else atF f (l.take k) := by
  unfold atF
  rw [List.take_add_one, h, List.foldl_append]
  rfl
theorem atF_inc (f : Nt → Bool) (l : List Nt) : ∀ k, k ≤ l.length → Inc (atF f (l.take k)) := by
  intro k
  induction k with
  | zero => intro _; simp [atF, Inc]
  | succ k ih =>
    intro hk
    have hx : l[k]? = some l[k] := List.getElem?_eq_getElem (by omega)
    rw [atF_snoc f l k _ hx]
    split
    · exact putL_inc _ _ (ih (by omega))
    · exact ih (by omega)
theorem atF_length (f : Nt → Bool) (l : List Nt) : ∀ k, k ≤ l.length → (atF f (l.take k)).length ≤ k := by
  intro k
  induction k with
  | zero => intro _; simp [atF]
  | succ k ih =>
    intro hk
    have hx : l[k]? = some l[k] := List.getElem?_eq_getElem (by omega)
    rw [atF_snoc f l k _ hx]
    have := ih (by omega)
    split
    · have := putL_length (l[k]).1 (atF f (l.take k)); omega
    · omega
theorem mem_atF (f : Nt → Bool) (l : List Nt) (y : Int) : ∀ k, k ≤ l.length → (y ∈ atF f (l.take k) ↔ y ∈ psF f (l.take k)) := by
  intro k
  induction k with
  | zero => intro _; simp [atF, psF]
  | succ k ih =>
    intro hk
    have hx : l[k]? = some l[k] := List.getElem?_eq_getElem (by omega)
    rw [atF_snoc f l k _ hx, psF_snoc f l k _ hx]
    have ih := ih (by omega)
    split
    · rw [mem_putL, ih]; simp only [List.mem_append, List.mem_singleton]; exact or_comm
    · simpa using ih

theorem compactUpTo_sorted (zs : List Int) (h : zs.Pairwise (· ≤ ·)) : ∀ m, m ≤ zs.length → (Lib.compactUpTo zs.toArray m).Pairwise (· < ·) ∧ ∀ y, y ∈ Lib.compactUpTo zs.toArray m ↔ y ∈ zs.take m := by
  intro m
  induction m with
  | zero => intro _; simp [Lib.compactUpTo]
  | succ m ih =>
    intro hm
    obtain ⟨a, b⟩ := ih (by omega)
    have hmz : m < zs.length := by omega
    have hget : ∀ j, j < zs.length → zs.toArray[j]! = zs[j]! := fun j hj => by simp
    have hm1 : zs.toArray[m]! = zs[m] := by rw [hget m hmz, getElem!_pos zs m hmz]
    rw [Lib.compactUpTo_succ, hm1]
    have htake : zs.take (m + 1) = zs.take m ++ [zs[m]] := by rw [List.take_add_one, List.getElem?_eq_getElem hmz]; rfl
    rw [htake]
    cases hk : Lib.keeps zs.toArray m with
    | true =>
      rw [if_pos rfl]
      have hlt : ∀ y, y ∈ zs.take m → y < zs[m] := by
        intro y hy
        obtain ⟨j, hj⟩ := List.mem_iff_getElem?.1 hy
        rw [List.getElem?_take] at hj
        split at hj
        · rename_i hjm
          obtain ⟨hjl, e⟩ := List.getElem?_eq_some_iff.1 hj
          have hm0 : m ≠ 0 := by omega
          simp only [Lib.keeps, decide_eq_true_eq] at hk
          have hne : zs[m] ≠ zs[m - 1] := by
            rcases hk with hk | hk
            · exact absurd hk hm0
            · rw [hm1, hget (m - 1) (by omega), getElem!_pos zs (m - 1) (by omega)] at hk
              exact hk
          have h1 : zs[m - 1] ≤ zs[m] := List.pairwise_iff_getElem.1 h (m - 1) m (by omega) hmz (by omega)
          have h2 : zs[j] ≤ zs[m - 1] := by
            rcases Nat.lt_or_ge j (m - 1) with hlt | hge
            · exact List.pairwise_iff_getElem.1 h j (m - 1) hjl (by omega) hlt
            · have : j = m - 1 := by omega
              subst this; exact Int.le_refl _
          rw [← e]; omega
        · cases hj
      refine ⟨?_, fun y => ?_⟩
      · rw [List.pairwise_append]
        refine ⟨a, by simp, fun x hx y hy => ?_⟩
        simp only [List.mem_singleton] at hy
        subst hy
        exact hlt x ((b x).1 hx)
      · rw [List.mem_append, List.mem_append, b y]
    | false =>
      refine ⟨by simpa using a, fun y => ?_⟩
      have hmem : zs[m] ∈ zs.take m := by
        simp only [Lib.keeps, decide_eq_false_iff_not, not_or, Decidable.not_not] at hk
        obtain ⟨hm0, he⟩ := hk
        rw [hm1, hget (m - 1) (by omega), getElem!_pos zs (m - 1) (by omega)] at he
        rw [he, List.mem_iff_getElem?]
        exact ⟨m - 1, by rw [List.getElem?_take, if_pos (by omega), List.getElem?_eq_getElem]⟩
      simp only [Bool.false_eq_true, if_false, List.append_nil, List.mem_append, List.mem_singleton, b y]
      constructor
      · exact .inl
      · rintro (h | h)
        · exact h
        · rw [h]; exact hmem
theorem inc_ext {a b : List Int} (ha : a.Pairwise (· < ·)) (hb : b.Pairwise (· < ·)) (h : ∀ y, y ∈ a ↔ y ∈ b) : a = b := by
  have hp : a.Perm b := (List.perm_ext_iff_of_nodup (ha.imp (fun h => by omega)) (hb.imp (fun h => by omega))).2 h
  exact hp.eq_of_pairwise (fun x y _ _ h1 h2 => by omega) (ha.imp fun h => Int.le_of_lt h) (hb.imp fun h => Int.le_of_lt h)
theorem inc_lt : ∀ {l : List Int}, Inc l → l.Pairwise (· < ·)
  | [], _ => List.Pairwise.nil
  | _ :: _, h => List.Pairwise.cons h.1 (inc_lt h.2)
theorem inc_of_lt : ∀ {l : List Int}, l.Pairwise (· < ·) → Inc l
  | [], _ => trivial
  | _ :: _, h => ⟨(List.pairwise_cons.1 h).1, inc_of_lt (List.pairwise_cons.1 h).2⟩
/-- Sorted and made single: as put one after another. -/
theorem compact_atF (f : Nt → Bool) (l : List Nt) : Lib.compact ((psF f l).mergeSort fun x y => decide (x ≤ y)) = atF f l := by
  have hs : ((psF f l).mergeSort fun x y => decide (x ≤ y)).Pairwise (· ≤ ·) := by
    have := List.pairwise_mergeSort (le := fun (x y : Int) => decide (x ≤ y)) (fun a b c => by simp; omega) (fun a b => by simp; omega) (psF f l)
    exact this.imp fun h => by simpa using h
  obtain ⟨a, b⟩ := compactUpTo_sorted _ hs _ (Nat.le_refl _)
  have hi := atF_inc f l l.length (Nat.le_refl _)
  rw [List.take_length] at hi
  refine inc_ext a (inc_lt hi) fun y => ?_
  have hm := mem_atF f l y l.length (Nat.le_refl _)
  rw [List.take_length] at hm
  rw [hm]
  rw [List.take_length] at b
  exact (b y).trans (List.mergeSort_perm _ _).mem_iff
end Go.Proofs.YtkfgmkgbicahgaaDoor
