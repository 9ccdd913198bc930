/- Contracts: what is drawn for AddTempo. -/
import Derived.Test.YtakmlgkcinjecaaDrawsT
namespace Go.Proofs.Ytakmlgkcinjecaa
open Go.RowKit
set_option linter.unusedVariables false
set_option linter.unusedSimpArgs false

set_option maxRecDepth 100000 in
set_option maxHeartbeats 8000000 in
theorem drawAdd_any (A : Option Addr) (n c : Nat) (w : World) (h : RB w A n) (hn : n ≤ 9223372036854775807) :
    Calls Try.prog 13 #[.slice A n c] w fun e w' => ∃ (v : Value) (L : List Nt2) (s p : Int), e = .returned (.tuple #[v, .agg #[.int .i64 s, .int .i64 p]]) ∧ Own2 w' w.heap.size 32 v L ∧ L.length ≤ 30 ∧ RowKit.Below w.heap.size w w' := by
  have hB0 : RowKit.Below w.heap.size w (w.alloc (.cells #[.int .i64 0, .int .i64 0] 32)) := (RowKit.Below.refl _ w).alloc (Nat.le_refl _) _
  have r0 : (w.alloc (.cells #[.int .i64 0, .int .i64 0] 32)).cell? ⟨w.heap.size, 0, none⟩ = some (.int .i64 0) := by rw [World.cell?_alloc_new]; rfl
  have r1 : (w.alloc (.cells #[.int .i64 0, .int .i64 0] 32)).cell? ⟨w.heap.size, 1, none⟩ = some (.int .i64 0) := by rw [World.cell?_alloc_new]; rfl
  have q0 : (w.alloc (.cells #[.int .i64 0, .int .i64 0] 32)).frozen? ⟨w.heap.size, 0, none⟩ = false := by simp
  have q1 : (w.alloc (.cells #[.int .i64 0, .int .i64 0] 32)).frozen? ⟨w.heap.size, 1, none⟩ = false := by simp
  have hzw : (w.alloc (.cells #[.int .i64 0, .int .i64 0] 32)).heap.size = w.heap.size + 1 := by simp
  have h := h.below hB0
  go_enter Try.func13, Try.ntmps13
  go_wp2_with fail
  generalize w.alloc (.cells #[.int .i64 0, .int .i64 0] 32) = V at *
  rw [← hzw]
  have HC0 := Lib.hid (Cur.new (c := c) h hn)
  have hbc : RowKit.Below V.heap.size V (V.alloc (.cells #[.slice A n c, .int .i64 0, .int .u64 0] 45)) := (RowKit.Below.refl _ _).alloc (Nat.le_refl _) _
  have hzs : (V.alloc (.cells #[.slice A n c, .int .i64 0, .int .u64 0] 45)).heap.size = V.heap.size + 1 := by simp
  have hRV : w.heap.size < V.heap.size := by omega
  have r0 := (hbc.cell (p := ⟨w.heap.size, 0, none⟩) hRV).trans r0
  have r1 := (hbc.cell (p := ⟨w.heap.size, 1, none⟩) hRV).trans r1
  have q0 := (hbc.frozen (p := ⟨w.heap.size, 0, none⟩) hRV).trans q0
  have q1 := (hbc.frozen (p := ⟨w.heap.size, 1, none⟩) hRV).trans q1
  have hBk := hB0.trans (hbc.mono (by omega))
  generalize V.alloc (.cells #[.slice A n c, .int .i64 0, .int .u64 0] 45) = W at *
  clear h hbc hB0
  have hzW : V.heap.size + 1 ≤ W.heap.size := Nat.le_of_eq hzs.symm
  have hRb : w.heap.size ≠ V.heap.size := by omega
  have hR0 : w.heap.size < W.heap.size := by omega
  have hRs : w.heap.size ≤ W.heap.size := Nat.le_of_lt hR0
  have hRw : w.heap.size ≤ w.heap.size := Nat.le_refl _
  clear hzs hzw
  generalize V.heap.size = base at *
  refine (anyTempos_any base 0 base _ HC0.out (by omega) (by omega)).mono ?_
  rintro e w1 ⟨v, L, rfl, hO1, hL, hC1, hg1⟩
  have hz1 := hg1.size
  have HO1 := Lib.hid (hO1.mono hzW)
  have HC1 := Lib.hid hC1
  have HG1 := Lib.hid hg1
  clear hO1 hC1 hg1
  go_wp2_with fail
  refine (pieceStep_any _ 1010 base _ (HC1.out.mono (by omega)) (by omega) (by omega)).mono ?_
  rintro e w2 ⟨s, hs0, hs1, rfl, hC2, hg2⟩
  have hz2 := hg2.size
  have HO2 := Lib.hid (own_past HO1.out hg2)
  have HC2 := Lib.hid hC2
  have HG2 := Lib.hid (HG1.out.trans hg2)
  clear hC2 hg2
  obtain ⟨A3, c3, rfl, _⟩ := HO2.out.form
  by_cases hL0 : 0 < L.length
  · have hL1 : (0 : Int) < (L.length : Int) := by omega
    go_wp2_with fail
    refine (one_any _ 1018 base 4 _ (HC2.out.mono (by omega)) (by omega) (by omega)).mono ?_
    rintro e w3 ⟨q, rfl, hC3, hg3⟩
    have hz3 := hg3.size
    have HO3 := Lib.hid (own_past HO2.out hg3)
    have HC3 := Lib.hid hC3
    have HG3 := Lib.hid (HG2.out.trans hg3)
    clear hC3 hg3
    cases q with
    | false =>
      go_wp2_with fail
      refine (lasts_any _ 1030 base _ (HC3.out.mono (by omega)) (by omega) (by omega)).mono ?_
      rintro e w5 ⟨a, ha0, ha1, rfl, hC5, hg5⟩
      have hz5 := hg5.size
      have HO5 := Lib.hid (own_past HO3.out hg5)
      have HC5 := Lib.hid hC5
      have HG5 := Lib.hid (HG3.out.trans hg5)
      clear hC5 hg5
      go_wp2_with fail
      refine (lasts_any _ 1034 base _ (HC5.out.mono (by omega)) (by omega) (by omega)).mono ?_
      rintro e w6 ⟨b2, hb0, hb1, rfl, hC6, hg6⟩
      have hz6 := hg6.size
      have hbl6 := hC6.lt
      have HO6 := Lib.hid (own_past HO5.out hg6)
      have HC6 := Lib.hid (fun o => cur_alloc hC6 (by omega) o)
      have HG6 := Lib.hid (HG5.out.trans hg6)
      clear hC6 hg6
      go_wp2_with fail
      refine (among_any _ 1038 base _ 2 2 _ ((HC6.out _).mono (by omega)) (by omega) (by omega) (by omega) (fun _ => True) ?_).mono ?_
      · exact lit_at hbl6 (by
          intro j hj
          match j, hj with
          | 0, _ | 1, _ => exact ⟨_, rfl⟩)
      rintro e w7 ⟨z, _, rfl, hC7, hg7⟩
      have hg7 := alloc_un hg7
      have hz7 := hg7.size
      have hbl7 := hC7.lt
      have HO7 := Lib.hid (own_past HO6.out hg7)
      have HC7 := Lib.hid (fun o => cur_alloc hC7 (by omega) o)
      have HG7 := Lib.hid (HG6.out.trans hg7)
      clear hC7 hg7
      go_wp2_with fail
      refine (among_any _ 1040 base _ 3 3 _ ((HC7.out _).mono (by omega)) (by omega) (by omega) (by omega) (fun _ => True) ?_).mono ?_
      · exact lit_at hbl7 (by
          intro j hj
          match j, hj with
          | 0, _ | 1, _ | 2, _ => exact ⟨_, rfl⟩)
      rintro e w8 ⟨y, _, rfl, hC8, hg8⟩
      have hg8 := alloc_un hg8
      have HO8 := Lib.hid (own_past HO7.out hg8)
      have HG8 := Lib.hid (HG7.out.trans hg8)
      have c0 := (cell_grown HG8.out hR0 hRb 0).trans r0
      have c1 := (cell_grown HG8.out hR0 hRb 1).trans r1
      have f0 := (frozen_block (HG8.out.block w.heap.size hR0 (fun h => hRb (by simpa using h))) 0).trans q0
      have f1 := (frozen_block (HG8.out.block w.heap.size hR0 (fun h => hRb (by simpa using h))) 1).trans q1
      have HB8 := Lib.hid (((hBk.grown HG8.out hRs (fun k hk => by have hk2 : some base = some k := hk; obtain rfl : base = k := (by simpa using hk2); omega)).setCell (p := ⟨w.heap.size, 0, none⟩) hRw (.int .i64 s)).setCell (p := ⟨w.heap.size, 1, none⟩) hRw (.int .i64 y))
      have HO9 := Lib.hid (((HO8.out.grown (grown_setCellC w8 ⟨w.heap.size, 0, none⟩ (.int .i64 s)) (.inr fun h => by have h4 : base + 1 ≤ w.heap.size := (HO8.out.lt _ h).1; omega)).grown (grown_setCellC _ ⟨w.heap.size, 1, none⟩ (.int .i64 y)) (.inr fun h => by have h4 : base + 1 ≤ w.heap.size := (HO8.out.lt _ h).1; omega)))
      clear hC8 hg8
      go_wp2
      exact bodyPost_ret (v := .tuple #[.slice A3 L.length c3, .agg #[.int .i64 s, .int .i64 y]]) (by simp [results, Try.results13, go_sem, *]) rfl ⟨_, L, s, y, rfl, HO9.out.mono (by omega), hL, HB8.out⟩
    | true =>
      go_wp2_with fail
      refine (pick_any _ 1020 base (L.length : Int) _ (HC3.out.mono (by omega)) (by omega) (by omega)).mono ?_
      rintro e w4 ⟨j, hj0, hj1, rfl, hC4, hg4⟩
      have hz4 := hg4.size
      have HO4 := Lib.hid (own_past HO3.out hg4)
      have HC4 := Lib.hid hC4
      have HG4 := Lib.hid (HG3.out.trans hg4)
      clear hC4 hg4
      obtain ⟨j, rfl⟩ : ∃ k : Nat, j = k := ⟨j.toNat, by omega⟩
      have j1 : (j : Int) < (L.length : Int) := by omega
      have hjl : j < L.length := by omega
      have hx : L[j]? = some L[j] := List.getElem?_eq_getElem hjl
      generalize L[j] = x at hx
      obtain ⟨st, lx⟩ := x
      obtain ⟨g3, e3, _, z0, z1⟩ : ∃ g, A3 = some ⟨g, 0, none⟩ ∧ g < w4.heap.size ∧ w4.cell? ⟨g, j * 2, none⟩ = some (.int .i64 st) ∧ w4.cell? ⟨g, j * 2 + 1, none⟩ = some (.int .i64 lx) := by
        obtain ⟨g, c, e⟩ := HO4.out.some hL0
        injection e with e1 e2 e4
        subst e1
        have h := HO4.out.ra.at j _ hx
        simp only [Nat.zero_add] at h
        exact ⟨g, rfl, h⟩
      subst e3
      clear hx
      go_wp2_with fail
      refine (lasts_any _ 1030 base _ (HC4.out.mono (by omega)) (by omega) (by omega)).mono ?_
      rintro e w5 ⟨a, ha0, ha1, rfl, hC5, hg5⟩
      have hz5 := hg5.size
      have HO5 := Lib.hid (own_past HO4.out hg5)
      have HC5 := Lib.hid hC5
      have HG5 := Lib.hid (HG4.out.trans hg5)
      clear hC5 hg5
      go_wp2_with fail
      refine (lasts_any _ 1034 base _ (HC5.out.mono (by omega)) (by omega) (by omega)).mono ?_
      rintro e w6 ⟨b2, hb0, hb1, rfl, hC6, hg6⟩
      have hz6 := hg6.size
      have hbl6 := hC6.lt
      have HO6 := Lib.hid (own_past HO5.out hg6)
      have HC6 := Lib.hid (fun o => cur_alloc hC6 (by omega) o)
      have HG6 := Lib.hid (HG5.out.trans hg6)
      clear hC6 hg6
      go_wp2_with fail
      refine (among_any _ 1038 base _ 2 2 _ ((HC6.out _).mono (by omega)) (by omega) (by omega) (by omega) (fun _ => True) ?_).mono ?_
      · exact lit_at hbl6 (by
          intro j hj
          match j, hj with
          | 0, _ | 1, _ => exact ⟨_, rfl⟩)
      rintro e w7 ⟨z, _, rfl, hC7, hg7⟩
      have hg7 := alloc_un hg7
      have hz7 := hg7.size
      have hbl7 := hC7.lt
      have HO7 := Lib.hid (own_past HO6.out hg7)
      have HC7 := Lib.hid (fun o => cur_alloc hC7 (by omega) o)
      have HG7 := Lib.hid (HG6.out.trans hg7)
      clear hC7 hg7
      go_wp2_with fail
      refine (among_any _ 1040 base _ 3 3 _ ((HC7.out _).mono (by omega)) (by omega) (by omega) (by omega) (fun _ => True) ?_).mono ?_
      · exact lit_at hbl7 (by
          intro j hj
          match j, hj with
          | 0, _ | 1, _ | 2, _ => exact ⟨_, rfl⟩)
      rintro e w8 ⟨y, _, rfl, hC8, hg8⟩
      have hg8 := alloc_un hg8
      have HO8 := Lib.hid (own_past HO7.out hg8)
      have HG8 := Lib.hid (HG7.out.trans hg8)
      have c0 := (cell_grown HG8.out hR0 hRb 0).trans r0
      have c1 := (cell_grown HG8.out hR0 hRb 1).trans r1
      have f0 := (frozen_block (HG8.out.block w.heap.size hR0 (fun h => hRb (by simpa using h))) 0).trans q0
      have f1 := (frozen_block (HG8.out.block w.heap.size hR0 (fun h => hRb (by simpa using h))) 1).trans q1
      have HB8 := Lib.hid (((hBk.grown HG8.out hRs (fun k hk => by have hk2 : some base = some k := hk; obtain rfl : base = k := (by simpa using hk2); omega)).setCell (p := ⟨w.heap.size, 0, none⟩) hRw (.int .i64 st)).setCell (p := ⟨w.heap.size, 1, none⟩) hRw (.int .i64 y))
      have HO9 := Lib.hid (((HO8.out.grown (grown_setCellC w8 ⟨w.heap.size, 0, none⟩ (.int .i64 st)) (.inr fun h => by have h4 : base + 1 ≤ w.heap.size := (HO8.out.lt _ h).1; omega)).grown (grown_setCellC _ ⟨w.heap.size, 1, none⟩ (.int .i64 y)) (.inr fun h => by have h4 : base + 1 ≤ w.heap.size := (HO8.out.lt _ h).1; omega)))
      clear hC8 hg8
      go_wp2
      exact bodyPost_ret (v := .tuple #[.slice (some ⟨g3, 0, none⟩) L.length c3, .agg #[.int .i64 st, .int .i64 y]]) (by simp [results, Try.results13, go_sem, *]) rfl ⟨_, L, st, y, rfl, HO9.out.mono (by omega), hL, HB8.out⟩
  · have hL1 : ¬ (0 : Int) < (L.length : Int) := by omega
    go_wp2_with fail
    refine (lasts_any _ 1030 base _ (HC2.out.mono (by omega)) (by omega) (by omega)).mono ?_
    rintro e w5 ⟨a, ha0, ha1, rfl, hC5, hg5⟩
    have hz5 := hg5.size
    have HO5 := Lib.hid (own_past HO2.out hg5)
    have HC5 := Lib.hid hC5
    have HG5 := Lib.hid (HG2.out.trans hg5)
    clear hC5 hg5
    go_wp2_with fail
    refine (lasts_any _ 1034 base _ (HC5.out.mono (by omega)) (by omega) (by omega)).mono ?_
    rintro e w6 ⟨b2, hb0, hb1, rfl, hC6, hg6⟩
    have hz6 := hg6.size
    have hbl6 := hC6.lt
    have HO6 := Lib.hid (own_past HO5.out hg6)
    have HC6 := Lib.hid (fun o => cur_alloc hC6 (by omega) o)
    have HG6 := Lib.hid (HG5.out.trans hg6)
    clear hC6 hg6
    go_wp2_with fail
    refine (among_any _ 1038 base _ 2 2 _ ((HC6.out _).mono (by omega)) (by omega) (by omega) (by omega) (fun _ => True) ?_).mono ?_
    · exact lit_at hbl6 (by
        intro j hj
        match j, hj with
        | 0, _ | 1, _ => exact ⟨_, rfl⟩)
    rintro e w7 ⟨z, _, rfl, hC7, hg7⟩
    have hg7 := alloc_un hg7
    have hz7 := hg7.size
    have hbl7 := hC7.lt
    have HO7 := Lib.hid (own_past HO6.out hg7)
    have HC7 := Lib.hid (fun o => cur_alloc hC7 (by omega) o)
    have HG7 := Lib.hid (HG6.out.trans hg7)
    clear hC7 hg7
    go_wp2_with fail
    refine (among_any _ 1040 base _ 3 3 _ ((HC7.out _).mono (by omega)) (by omega) (by omega) (by omega) (fun _ => True) ?_).mono ?_
    · exact lit_at hbl7 (by
        intro j hj
        match j, hj with
        | 0, _ | 1, _ | 2, _ => exact ⟨_, rfl⟩)
    rintro e w8 ⟨y, _, rfl, hC8, hg8⟩
    have hg8 := alloc_un hg8
    have HO8 := Lib.hid (own_past HO7.out hg8)
    have HG8 := Lib.hid (HG7.out.trans hg8)
    have c0 := (cell_grown HG8.out hR0 hRb 0).trans r0
    have c1 := (cell_grown HG8.out hR0 hRb 1).trans r1
    have f0 := (frozen_block (HG8.out.block w.heap.size hR0 (fun h => hRb (by simpa using h))) 0).trans q0
    have f1 := (frozen_block (HG8.out.block w.heap.size hR0 (fun h => hRb (by simpa using h))) 1).trans q1
    have HB8 := Lib.hid (((hBk.grown HG8.out hRs (fun k hk => by have hk2 : some base = some k := hk; obtain rfl : base = k := (by simpa using hk2); omega)).setCell (p := ⟨w.heap.size, 0, none⟩) hRw (.int .i64 s)).setCell (p := ⟨w.heap.size, 1, none⟩) hRw (.int .i64 y))
    have HO9 := Lib.hid (((HO8.out.grown (grown_setCellC w8 ⟨w.heap.size, 0, none⟩ (.int .i64 s)) (.inr fun h => by have h4 : base + 1 ≤ w.heap.size := (HO8.out.lt _ h).1; omega)).grown (grown_setCellC _ ⟨w.heap.size, 1, none⟩ (.int .i64 y)) (.inr fun h => by have h4 : base + 1 ≤ w.heap.size := (HO8.out.lt _ h).1; omega)))
    clear hC8 hg8
    go_wp2
    exact bodyPost_ret (v := .tuple #[.slice A3 L.length c3, .agg #[.int .i64 s, .int .i64 y]]) (by simp [results, Try.results13, go_sem, *]) rfl ⟨_, L, s, y, rfl, HO9.out.mono (by omega), hL, HB8.out⟩
end Go.Proofs.Ytakmlgkcinjecaa
