/- The model's and the program's ways of asking whether an instrument is valid. -/
import Derived.Test.YtogklldofhcohaaDoorM2q
import Derived.LoopTactic
import Derived.Lib.QuietBelow
namespace Go.Proofs.YtogklldofhcohaaDoor
open Go.RowKit Go.Sort
set_option linter.unusedVariables false
set_option linter.unusedSimpArgs false

set_option maxRecDepth 100000 in
set_option maxHeartbeats 1000000 in
theorem rising_any (A : Option Addr) (l : List Int) (c : Nat) (lo hi : Int) (w : World) (hn : l.length ≤ 1048576) (hA : RI w A l) :
    Calls Tryd.prog 45 #[.slice A l.length c, .int .i64 lo, .int .i64 hi] w fun e w' => e = .returned (.bool (riseB lo hi l)) ∧ w = w' := by
  go_enter Tryd.func45, Tryd.ntmps45
  go_wp2
  go_loop [11] (fun i => ∃ k : Nat, k ≤ l.length ∧ i = .int .i64 k ∧ UpTo lo hi l k)
    (fun i => l.length - (intOf i).toNat)
  case atStart => exact ⟨0, Nat.zero_le _, rfl, UpTo.zero lo hi l⟩
  case round =>
    obtain ⟨k, hk, rfl, hup⟩ := hrel
    have HU := Lib.hid hup
    clear hup
    by_cases hlt : k < l.length
    · have hx : l[k]? = some l[k] := List.getElem?_eq_getElem hlt
      generalize l[k] = x at hx
      obtain ⟨g, o, rfl, hg, h0⟩ := hA k _ hx
      have i1 : (0 : Int) ≤ (k : Int) := by omega
      have i2 : (k : Int) < (l.length : Int) := by omega
      have HX := Lib.hid hx
      clear hx
      cases hr : inR x lo hi with
      | false =>
        go_wp2_with (go_at_call 44; refine (l1In_any _ _ _ _).mono ?_; rintro e w1 ⟨rfl, rfl⟩)
        go_ret
        exact ⟨ret_bool (riseB_not HX.out fun h => by have := h.1; rw [hr] at this; cases this).symm, rfl⟩
      | true =>
        rcases Nat.eq_zero_or_pos k with hk0 | hk0
        · have hd : ¬ ((0 : Int) < (k : Int)) := by omega
          have HK := Lib.hid hk0
          clear hk0
          go_wp2_with (go_at_call 44; refine (l1In_any _ _ _ _).mono ?_; rintro e w1 ⟨rfl, rfl⟩)
          go_round
          case rel => exact ⟨k + 1, by omega, by go_num, HU.out.succ HX.out ⟨hr, fun y h => absurd h (by have := HK.out; omega)⟩⟩
          case measure => simp [intOf]; omega
        · have hd : (0 : Int) < (k : Int) := by omega
          have hy : l[k - 1]? = some l[k - 1] := List.getElem?_eq_getElem (by omega)
          generalize l[k - 1] = y at hy
          obtain ⟨g2, o2, hgo, hg2, y0⟩ := hA (k - 1) _ hy
          simp only [Option.some.injEq, Addr.mk.injEq, and_true] at hgo
          obtain ⟨rfl, rfl⟩ := hgo
          have i3 : (0 : Int) ≤ (k : Int) - 1 := by omega
          have i4 : (k : Int) - 1 < (l.length : Int) := by omega
          have HY := Lib.hid hy
          clear hy hA
          by_cases hyx : y < x
          · have hnx : ¬ x ≤ y := by omega
            go_wp2_with (go_at_call 44; refine (l1In_any _ _ _ _).mono ?_; rintro e w1 ⟨rfl, rfl⟩)
            go_round
            case rel => exact ⟨k + 1, by omega, by go_num, HU.out.succ HX.out ⟨hr, fun z _ hz => by have e := HY.out.symm.trans hz; injection e with e; subst e; exact hyx⟩⟩
            case measure => simp [intOf]; omega
          · have hnx : x ≤ y := by omega
            go_wp2_with (go_at_call 44; refine (l1In_any _ _ _ _).mono ?_; rintro e w1 ⟨rfl, rfl⟩)
            go_ret
            exact ⟨ret_bool (riseB_not HX.out fun h => by have := h.2 y hk0 HY.out; omega).symm, rfl⟩
    · obtain rfl : k = l.length := by omega
      go_wp2
      go_ret
      exact ⟨ret_bool ((riseB_iff lo hi l).2 HU.out).symm, rfl⟩

set_option maxRecDepth 100000 in
set_option maxHeartbeats 1000000 in
theorem inGood_any (A : Option Addr) (l : List Int) (c : Nat) (r : Int) (w : World) (hn : l.length ≤ 1048576) (hA : RI w A l) :
    Calls Tryd.prog 32 #[.agg #[.slice A l.length c, .int .i64 r]] w fun e w' => e = .returned (.bool (gdI l r)) ∧ Below w.heap.size w w' := by
  go_enter Tryd.func32, Tryd.ntmps32
  go_wp2_with (first
    | (go_at_call 44; refine (l1In_any _ _ _ _).mono ?_; rintro e w1 ⟨rfl, rfl⟩)
    | (go_at_call 45; refine (rising_any _ _ _ _ _ _ hn (hA.below ((Below.refl _ _).alloc (Nat.le_refl _) _))).mono ?_; rintro e w1 ⟨rfl, rfl⟩))
  go_ways
  all_goals (go_ret; exact ⟨ret_bool (by simp [gdI, *]), (Below.refl _ _).alloc (Nat.le_refl _) _⟩)

/-- The table of limits, read in a world. -/
def Lim (w : World) : Prop := w.cell? ⟨0, 0, none⟩ = some (.int .i64 1) ∧ w.cell? ⟨0, 1, none⟩ = some (.int .i64 20) ∧ w.cell? ⟨0, 2, none⟩ = some (.int .i64 1) ∧ w.cell? ⟨0, 3, none⟩ = some (.int .i64 20) ∧ 0 < w.heap.size
theorem Lim.below {w w' : World} (h : Lim w) (hb : Below w.heap.size w w') : Lim w' := by
  obtain ⟨a, b, c, d, e⟩ := h
  exact ⟨(hb.cell e).trans a, (hb.cell e).trans b, (hb.cell e).trans c, (hb.cell e).trans d, Nat.lt_of_lt_of_le e hb.size⟩

set_option maxRecDepth 100000 in
set_option maxHeartbeats 1000000 in
theorem keepsLimit0 (n : Int) (w : World) (hL : Lim w) :
    Calls Tryd.prog 37 #[.int .i64 n, .int .i64 0] w fun e w' => e = .returned (.bool (inR n 1 20)) ∧ Below w.heap.size w w' := by
  obtain ⟨a, b, c, d, hz⟩ := hL
  go_enter Tryd.func37, Tryd.ntmps37
  go_wp2_with fail
  go_region_with (go_at_call 50; refine (inRange_any _ _ _ _).mono ?_; rintro e w1 ⟨rfl, rfl⟩)
  all_goals
    go_wp2
    go_ret
    exact ⟨rfl, (Below.refl _ _).drew⟩
set_option maxRecDepth 100000 in
set_option maxHeartbeats 1000000 in
theorem keepsLimit1 (n : Int) (w : World) (hL : Lim w) :
    Calls Tryd.prog 37 #[.int .i64 n, .int .i64 1] w fun e w' => e = .returned (.bool (inR n 1 20)) ∧ Below w.heap.size w w' := by
  obtain ⟨a, b, c, d, hz⟩ := hL
  go_enter Tryd.func37, Tryd.ntmps37
  go_wp2_with fail
  go_region_with (go_at_call 50; refine (inRange_any _ _ _ _).mono ?_; rintro e w1 ⟨rfl, rfl⟩)
  all_goals
    go_wp2
    go_ret
    exact ⟨rfl, (Below.refl _ _).drew⟩

set_option maxRecDepth 100000 in
set_option maxHeartbeats 2000000 in
theorem isIns_any (A : Option Addr) (l : List Int) (c : Nat) (r : Int) (w : World) (hn : l.length ≤ 1048576) (hA : RI w A l) (hL : Lim w) :
    Calls Tryd.prog 23 #[.agg #[.slice A l.length c, .int .i64 r]] w fun e w' => e = .returned (.bool (gdI l r)) ∧ Below w.heap.size w w' := by
  have hb0 : Below w.heap.size w (w.alloc (.cells #[.slice A l.length c, .int .i64 r] 31)) := (Below.refl w.heap.size w).alloc (Nat.le_refl _) _
  have c0 : (w.alloc (.cells #[.slice A l.length c, .int .i64 r] 31)).cell? ⟨w.heap.size, 0, none⟩ = some (.slice A l.length c) := by rw [World.cell?_alloc_new]; rfl
  have c1 : (w.alloc (.cells #[.slice A l.length c, .int .i64 r] 31)).cell? ⟨w.heap.size, 1, none⟩ = some (.int .i64 r) := by rw [World.cell?_alloc_new]; rfl
  have hz : w.heap.size < (w.alloc (.cells #[.slice A l.length c, .int .i64 r] 31)).heap.size := by simp
  go_enter Tryd.func23, Tryd.ntmps23
  go_wp2_with fail
  have hL0 := hL.below hb0
  have hA0 := hA.below hb0
  generalize w.alloc (.cells #[.slice A l.length c, .int .i64 r] 31) = W at *
  refine (keepsLimit0 _ _ hL0).mono ?_
  rintro e w1 ⟨rfl, hb1⟩
  have c01 := (hb1.cell (p := ⟨w.heap.size, 0, none⟩) hz).trans c0
  have c11 := (hb1.cell (p := ⟨w.heap.size, 1, none⟩) hz).trans c1
  have hB1 := hb0.trans (hb1.mono hb0.size)
  have hL1 := hL0.below hb1
  have hA1 := hA0.below hb1
  have hz1 := Nat.lt_of_lt_of_le hz hb1.size
  clear hL0 hA0 c0 c1
  cases h1 : inR (l.length : Int) 1 20 with
  | false =>
    go_wp2
    go_ret
    exact ⟨ret_bool (by simp [gdI, h1]), hB1⟩
  | true =>
    go_wp2_with fail
    refine (keepsLimit1 _ _ hL1).mono ?_
    rintro e w2 ⟨rfl, hb2⟩
    have c02 := (hb2.cell (p := ⟨w.heap.size, 0, none⟩) hz1).trans c01
    have hB2 := hB1.trans (hb2.mono hB1.size)
    have hA2 := hA1.below hb2
    have hz2 := Nat.lt_of_lt_of_le hz1 hb2.size
    cases h2 : inR r 1 20 with
    | false =>
      go_wp2
      go_ret
      exact ⟨ret_bool (by simp [gdI, h1, h2]), hB2⟩
    | true =>
      clear hL1 hA1 c01 c11 hb1 hb2 hL
      go_wp2
      go_loop [19] (fun i => ∃ k : Nat, k ≤ l.length ∧ i = .int .i64 k ∧ UpTo 24 96 l k)
        (fun i => l.length - (intOf i).toNat)
      case atStart => exact ⟨0, Nat.zero_le _, rfl, UpTo.zero 24 96 l⟩
      case round =>
        obtain ⟨k, hk, rfl, hup⟩ := hrel
        have HU := Lib.hid hup
        clear hup
        by_cases hlt : k < l.length
        · have hx : l[k]? = some l[k] := List.getElem?_eq_getElem hlt
          generalize l[k] = x at hx
          obtain ⟨g, o, rfl, hg, h0⟩ := hA2 k _ hx
          have i1 : (0 : Int) ≤ (k : Int) := by omega
          have i2 : (k : Int) < (l.length : Int) := by omega
          have HX := Lib.hid hx
          clear hx
          cases hr : inR x 24 96 with
          | false =>
            go_wp2_with (go_at_call 38; refine (isPitch_any _ _).mono ?_; rintro e w1 ⟨rfl, rfl⟩)
            go_ret
            exact ⟨ret_bool (by simp [gdI, h1, riseB_not HX.out fun h => by have := h.1; rw [hr] at this; cases this]), hB2⟩
          | true =>
            rcases Nat.eq_zero_or_pos k with hk0 | hk0
            · have hd : ¬ ((0 : Int) < (k : Int)) := by omega
              have HK := Lib.hid hk0
              clear hk0
              go_wp2_with (go_at_call 38; refine (isPitch_any _ _).mono ?_; rintro e w1 ⟨rfl, rfl⟩)
              go_round
              case rel => exact ⟨k + 1, by omega, by go_num, HU.out.succ HX.out ⟨hr, fun y h => absurd h (by have := HK.out; omega)⟩⟩
              case measure => simp [intOf]; omega
            · have hd : (0 : Int) < (k : Int) := by omega
              have hy : l[k - 1]? = some l[k - 1] := List.getElem?_eq_getElem (by omega)
              generalize l[k - 1] = y at hy
              obtain ⟨g2, o2, hgo, hg2, y0⟩ := hA2 (k - 1) _ hy
              simp only [Option.some.injEq, Addr.mk.injEq, and_true] at hgo
              obtain ⟨rfl, rfl⟩ := hgo
              have i3 : (0 : Int) ≤ (k : Int) - 1 := by omega
              have i4 : (k : Int) - 1 < (l.length : Int) := by omega
              have HY := Lib.hid hy
              clear hy
              by_cases hyx : y < x
              · have hnx : ¬ x ≤ y := by omega
                go_wp2_with (go_at_call 38; refine (isPitch_any _ _).mono ?_; rintro e w1 ⟨rfl, rfl⟩)
                go_round
                case rel => exact ⟨k + 1, by omega, by go_num, HU.out.succ HX.out ⟨hr, fun z _ hz => by have e := HY.out.symm.trans hz; injection e with e; subst e; exact hyx⟩⟩
                case measure => simp [intOf]; omega
              · have hnx : x ≤ y := by omega
                go_wp2_with (go_at_call 38; refine (isPitch_any _ _).mono ?_; rintro e w1 ⟨rfl, rfl⟩)
                go_ret
                exact ⟨ret_bool (by unfold gdI; rw [h1, riseB_not (lo := 24) (hi := 96) HX.out (fun h => by have := h.2 y hk0 HY.out; omega)]; rfl), hB2⟩
        · obtain rfl : k = l.length := by omega
          go_wp2
          go_ret
          exact ⟨ret_bool (by unfold gdI; rw [h1, h2, (riseB_iff 24 96 l).2 HU.out]; rfl), hB2⟩
end Go.Proofs.YtogklldofhcohaaDoor
