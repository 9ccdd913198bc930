/- Contracts: what is drawn for the laws on tempos. -/
import Derived.Test.YtakmlgkcinjecaaAnyT
import Derived.Test.YtakmlgkcinjecaaTimes2
namespace Go.Proofs.Ytakmlgkcinjecaa
open Go.RowKit
set_option linter.unusedVariables false
set_option linter.unusedSimpArgs false

/-- The bytes that a slice at A reads. -/
def RB (w : World) (A : Option Addr) (n : Nat) : Prop := ∀ j, j < n → ∃ g o x, A = some ⟨g, o, none⟩ ∧ g < w.heap.size ∧ w.cell? ⟨g, o + j, none⟩ = some (.int .u8 x) ∧ 0 ≤ x ∧ x ≤ 255
theorem RB.below {w w' : World} {A : Option Addr} {n : Nat} (h : RB w A n) (hb : RowKit.Below w.heap.size w w') : RB w' A n := fun j hj => by
  obtain ⟨g, o, x, e, hg, hx, h0⟩ := h j hj
  exact ⟨g, o, x, e, Nat.lt_of_lt_of_le hg hb.size, (hb.cell (p := ⟨g, o + j, none⟩) hg).trans hx, h0⟩
theorem Cur.new {w : World} {A : Option Addr} {n c : Nat} (h : RB w A n) (hn : n ≤ 9223372036854775807) :
    Cur (w.alloc (.cells #[.slice A n c, .int .i64 0, .int .u64 0] 45)) w.heap.size w.heap.size 0 := by
  refine ⟨Nat.le_refl _, ⟨A, n, c, 0, 0, ?_, ?_, ?_, by omega, by omega, hn, by omega, by omega, fun j hj => ?_⟩, fun j => by simp⟩
  · rw [World.cell?_alloc_new]; rfl
  · rw [World.cell?_alloc_new]; rfl
  · rw [World.cell?_alloc_new]; rfl
  · obtain ⟨g, o, x, e, hg, hx, h0⟩ := h j hj
    exact ⟨g, o, x, e, hg, (World.cell?_alloc_past _ _ _ (by exact hg)).trans hx, h0⟩
theorem drawn_below {w w' : World} {o : Obj} (h : (w.alloc o).grownBy w' (some w.heap.size)) : RowKit.Below w.heap.size w w' :=
  ((RowKit.Below.refl _ w).alloc (Nat.le_refl _) o).grown h (by simp) (fun k hk => by have hk2 : some w.heap.size = some k := hk; obtain rfl : w.heap.size = k := (by simpa using hk2); exact Nat.le_refl _)

theorem own_past {w w' : World} {t b : Nat} {v : Value} {L : List Nt2} (h : Own2 w (b + 1) t v L) (hg : w.grownBy w' (some b)) : Own2 w' (b + 1) t v L :=
  h.grown hg (.inr fun e => by have := (h.lt _ e).1; omega)

set_option maxRecDepth 100000 in
set_option maxHeartbeats 4000000 in
theorem drawTempoAt_any (A : Option Addr) (n c : Nat) (w : World) (h : RB w A n) (hn : n ≤ 9223372036854775807) :
    Calls Try.prog 20 #[.slice A n c] w fun e w' => ∃ (v : Value) (L : List Nt2) (s : Int), e = .returned (.tuple #[v, .int .i64 s]) ∧ Own2 w' w.heap.size 32 v L ∧ L.length ≤ 30 ∧ -1 ≤ s ∧ s ≤ 2001 ∧ RowKit.Below w.heap.size w w' := by
  have HC0 := Lib.hid (Cur.new (c := c) h hn)
  have hzs : (w.alloc (.cells #[.slice A n c, .int .i64 0, .int .u64 0] 45)).heap.size = w.heap.size + 1 := by simp
  go_enter Try.func20, Try.ntmps20
  go_wp2_with fail
  refine (anyTempos_any _ 0 w.heap.size _ HC0.out (by omega) (by omega)).mono ?_
  rintro e w1 ⟨v, L, rfl, hO1, hL, hC1, hg1⟩
  have hz1 := hg1.size
  rw [hzs] at hO1 hz1
  have HO1 := Lib.hid hO1
  have HC1 := Lib.hid hC1
  have HG1 := Lib.hid hg1
  clear hO1 hC1 hg1
  go_wp2_with fail
  refine (pieceStep_any _ _ w.heap.size _ HC1.out (by omega) (by omega)).mono ?_
  rintro e w2 ⟨s, hs0, hs1, rfl, hC2, hg2⟩
  go_wp2
  go_ret2
  exact ⟨_, L, s, rfl, (own_past HO1.out hg2).mono (by omega), hL, hs0, hs1, drawn_below (HG1.out.trans hg2)⟩

set_option maxRecDepth 100000 in
set_option maxHeartbeats 4000000 in
theorem drawTimeOf_any (A : Option Addr) (n c : Nat) (w : World) (h : RB w A n) (hn : n ≤ 9223372036854775807) :
    Calls Try.prog 4 #[.slice A n c] w fun e w' => ∃ (v : Value) (L : List Nt2) (s : Int), e = .returned (.tuple #[v, .int .i64 s]) ∧ Own2 w' w.heap.size 32 v L ∧ L.length ≤ 30 ∧ -1 ≤ s ∧ s ≤ 2001 ∧ RowKit.Below w.heap.size w w' := by
  go_enter Try.func4, Try.ntmps4
  go_wp2_with fail
  refine (drawTempoAt_any A n c w h hn).mono ?_
  rintro e w1 ⟨v, L, s, rfl, hO, hL, hs0, hs1, hb⟩
  have HO := Lib.hid hO
  clear hO
  go_wp2
  go_ret2
  exact ⟨v, L, s, rfl, HO.out, hL, hs0, hs1, hb⟩

set_option maxRecDepth 100000 in
set_option maxHeartbeats 4000000 in
theorem drawTimeBetween_any (A : Option Addr) (n c : Nat) (w : World) (h : RB w A n) (hn : n ≤ 9223372036854775807) :
    Calls Try.prog 10 #[.slice A n c] w fun e w' => ∃ (v : Value) (L : List Nt2) (s t : Int), e = .returned (.tuple #[v, .int .i64 s, .int .i64 t]) ∧ Own2 w' w.heap.size 32 v L ∧ L.length ≤ 30 ∧ RowKit.Below w.heap.size w w' := by
  have HC0 := Lib.hid (Cur.new (c := c) h hn)
  have hzs : (w.alloc (.cells #[.slice A n c, .int .i64 0, .int .u64 0] 45)).heap.size = w.heap.size + 1 := by simp
  go_enter Try.func10, Try.ntmps10
  go_wp2_with fail
  refine (pieceStep_any _ 0 w.heap.size _ HC0.out (by omega) (by omega)).mono ?_
  rintro e w1 ⟨s, hs0, hs1, rfl, hC1, hg1⟩
  have hz1 := hg1.size
  rw [hzs] at hz1
  have HC1 := Lib.hid hC1
  have HG1 := Lib.hid hg1
  clear hC1 hg1
  have m1 : IntKind.i64.wrap (s + 1) = s + 1 := IntWalk.i64_in _ (by omega)
  go_wp2_with fail
  refine (anyTempos_any _ 8 w.heap.size _ (HC1.out.mono (by omega)) (by omega) (by omega)).mono ?_
  rintro e w2 ⟨v, L, rfl, hO2, hL, hC2, hg2⟩
  have hz2 := hg2.size
  have HO2 := Lib.hid (hO2.mono (show w.heap.size + 1 ≤ w1.heap.size from hz1))
  have HC2 := Lib.hid hC2
  have HG2 := Lib.hid (HG1.out.trans hg2)
  clear hC2 hg2 hO2
  go_wp2_with fail
  refine (pick_any _ 1018 w.heap.size 50 _ (HC2.out.mono (by omega)) (by omega) (by omega)).mono ?_
  rintro e w3 ⟨x, hx0, hx1, rfl, hC3, hg3⟩
  have hz3 := hg3.size
  have HO3 := Lib.hid (own_past HO2.out hg3)
  have HC3 := Lib.hid hC3
  have HG3 := Lib.hid (HG2.out.trans hg3)
  clear hC3 hg3
  have m2 : IntKind.i64.wrap (s + x) = s + x := IntWalk.i64_in _ (by omega)
  go_wp2_with fail
  refine (pieceStep_any _ 1020 w.heap.size _ (HC3.out.mono (by omega)) (by omega) (by omega)).mono ?_
  rintro e w4 ⟨y, hy0, hy1, rfl, hC4, hg4⟩
  have hz4 := hg4.size
  have hbl4 := hC4.lt
  have HO4 := Lib.hid (own_past HO3.out hg4)
  have HC4 := Lib.hid (fun o => cur_alloc hC4 (by omega) o)
  have HG4 := Lib.hid (HG3.out.trans hg4)
  clear hC4 hg4
  go_wp2_with fail
  refine (among_any _ 1028 w.heap.size _ 5 5 _ ((HC4.out _).mono (by omega)) (by omega) (by omega) (by omega) (fun _ => True) ?_).mono ?_
  · exact lit_at hbl4 (by
      intro j hj
      match j, hj with
      | 0, _ | 1, _ | 2, _ | 3, _ | 4, _ => exact ⟨_, rfl⟩)
  rintro e w5 ⟨z, _, rfl, hC5, hg5⟩
  have hg5 := alloc_un hg5
  go_wp2
  go_ret3
  exact ⟨_, L, s, z, rfl, (own_past HO4.out hg5).mono (by omega), hL, drawn_below (HG4.out.trans hg5)⟩

set_option maxRecDepth 100000 in
set_option maxHeartbeats 4000000 in
theorem drawStepAt_any (A : Option Addr) (n c : Nat) (w : World) (h : RB w A n) (hn : n ≤ 9223372036854775807) :
    Calls Try.prog 7 #[.slice A n c] w fun e w' => ∃ (v : Value) (L : List Nt2) (t : Int), e = .returned (.tuple #[v, .int .i64 t]) ∧ Own2 w' w.heap.size 32 v L ∧ L.length ≤ 30 ∧ RowKit.Below w.heap.size w w' := by
  have HC0 := Lib.hid (Cur.new (c := c) h hn)
  have hzs : (w.alloc (.cells #[.slice A n c, .int .i64 0, .int .u64 0] 45)).heap.size = w.heap.size + 1 := by simp
  go_enter Try.func7, Try.ntmps7
  go_wp2_with fail
  refine (anyTempos_any _ 0 w.heap.size _ HC0.out (by omega) (by omega)).mono ?_
  rintro e w1 ⟨v, L, rfl, hO1, hL, hC1, hg1⟩
  have hz1 := hg1.size
  rw [hzs] at hO1 hz1
  have HO1 := Lib.hid hO1
  have HC1 := Lib.hid hC1
  have HG1 := Lib.hid hg1
  clear hO1 hC1 hg1
  go_wp2_with fail
  refine (pick_any _ 1010 w.heap.size 30000 _ (HC1.out.mono (by omega)) (by omega) (by omega)).mono ?_
  rintro e w2 ⟨x, hx0, hx1, rfl, hC2, hg2⟩
  have hz2 := hg2.size
  have hbl2 := hC2.lt
  have HO2 := Lib.hid (own_past HO1.out hg2)
  have HC2 := Lib.hid (fun o => cur_alloc hC2 (by omega) o)
  have HG2 := Lib.hid (HG1.out.trans hg2)
  clear hC2 hg2
  have m2 : IntKind.i64.wrap (x * 1000) = x * 1000 := IntWalk.i64_in _ (by omega)
  go_wp2_with fail
  refine (among_any _ 1012 w.heap.size _ 6 6 _ ((HC2.out _).mono (by omega)) (by omega) (by omega) (by omega) (fun _ => True) ?_).mono ?_
  · exact lit_at hbl2 (by
      intro j hj
      match j, hj with
      | 0, _ | 1, _ | 2, _ | 3, _ | 4, _ | 5, _ => exact ⟨_, rfl⟩)
  rintro e w3 ⟨t, _, rfl, hC3, hg3⟩
  have hg3 := alloc_un hg3
  have hz3 := hg3.size
  have HO3 := Lib.hid (own_past HO2.out hg3)
  have HC3 := Lib.hid hC3
  have HG3 := Lib.hid (HG2.out.trans hg3)
  clear hC3 hg3
  obtain ⟨A3, c3, rfl, hR3⟩ := HO3.out.form
  have HGD := Lib.hid (fun W hA => teGood_any A3 L c3 W (by omega) hA)
  go_wp2_with fail
  refine (HGD.out _ hR3).mono ?_
  rintro e w4 ⟨rfl, hb4⟩
  have hz4 := hb4.size
  have HO4 := Lib.hid (HO3.out.below hb4 (Nat.le_refl _))
  have HC4 := Lib.hid (HC3.out.kept (by omega) hb4)
  have hR4 := hR3.below hb4
  have hB4 := Lib.hid ((drawn_below HG3.out).trans (hb4.mono (by omega)))
  clear hb4 hR3
  cases hg : goodT L with
  | false =>
    go_wp2
    go_ret2
    exact ⟨_, L, t, rfl, HO4.out.mono (by omega), hL, hB4.out⟩
  | true =>
    have hT := goodT.tmp hg
    have HTM := Lib.hid hT
    clear hg
    go_wp2_with fail
    refine (one_any _ 1014 w.heap.size 2 _ (HC4.out.mono (by omega)) (by omega) (by omega)).mono ?_
    rintro e w5 ⟨q, rfl, hC5, hg5⟩
    have hz5 := hg5.size
    have HO5 := Lib.hid (own_past HO4.out hg5)
    have HC5 := Lib.hid hC5
    have hB5 := Lib.hid (hB4.out.grown hg5 (by omega) (fun k hk => by have hk2 : some w.heap.size = some k := hk; obtain rfl : w.heap.size = k := (by simpa using hk2); exact Nat.le_refl _))
    clear hC5 hg5 hR4 hT
    cases q with
    | false =>
      go_wp2
      go_ret2
      exact ⟨_, L, t, rfl, HO5.out.mono (by omega), hL, hB5.out⟩
    | true =>
      go_wp2_with fail
      refine (pick_any _ 1016 w.heap.size 120 _ (HC5.out.mono (by omega)) (by omega) (by omega)).mono ?_
      rintro e w6 ⟨u, hu0, hu1, rfl, hC6, hg6⟩
      have hz6 := hg6.size
      have HO6 := Lib.hid (own_past HO5.out hg6)
      have HC6 := Lib.hid hC6
      have hB6 := Lib.hid (hB5.out.grown hg6 (by omega) (fun k hk => by have hk2 : some w.heap.size = some k := hk; obtain rfl : w.heap.size = k := (by simpa using hk2); exact Nat.le_refl _))
      clear hC6 hg6
      have hR6 := HO6.out.ra
      have hbn := timeT_bnd HTM.out hu0 (show u ≤ 2000 by omega)
      have HTT := Lib.hid (teTime_any A3 L c3 u w6 HTM.out hu0 (by omega) hR6)
      clear hR6
      generalize timeT L u = T at *
      go_wp2_with fail
      refine HTT.out.mono ?_
      rintro e w7 ⟨rfl, hb7⟩
      have hz7 := hb7.size
      have HO7 := Lib.hid (HO6.out.below hb7 (Nat.le_refl _))
      have HC7 := Lib.hid (HC6.out.kept (by omega) hb7)
      have hB7 := Lib.hid (hB6.out.trans (hb7.mono (by omega)))
      clear hb7
      go_wp2_with fail
      refine (pick_any _ 1018 w.heap.size 2 _ (HC7.out.mono (by omega)) (by omega) (by omega)).mono ?_
      rintro e w8 ⟨y, hy0, hy1, rfl, hC8, hg8⟩
      have HO8 := Lib.hid (own_past HO7.out hg8)
      have hB8 := Lib.hid (hB7.out.grown hg8 (by omega) (fun k hk => by have hk2 : some w.heap.size = some k := hk; obtain rfl : w.heap.size = k := (by simpa using hk2); exact Nat.le_refl _))
      clear hC8 hg8
      go_wp2
      go_ret2
      exact ⟨_, L, _, rfl, HO8.out.mono (by omega), hL, hB8.out⟩
end Go.Proofs.Ytakmlgkcinjecaa
