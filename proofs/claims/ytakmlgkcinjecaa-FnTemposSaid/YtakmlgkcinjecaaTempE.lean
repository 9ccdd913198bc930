/- Contracts: tempos. -/
import Derived.Test.YtakmlgkcinjecaaTempD
import Derived.Deep.RegionLaw
namespace Go.Proofs.Ytakmlgkcinjecaa
open Go.RowKit
set_option linter.unusedVariables false
set_option linter.unusedSimpArgs false

/-- How long a slice is. -/
def lenV : Value → Nat
  | .slice _ n _ => n
  | _ => 0

set_option maxRecDepth 100000 in
set_option maxHeartbeats 4000000 in
theorem tempos_any (b k base : Nat) (w : World) (hC : Cur w base b k) (hk : k ≤ 700000000) (hbase : base ≤ w.heap.size) :
    Calls Try.prog 46 #[.pointer (some ⟨b, 0, none⟩)] w fun e w' => ∃ (v : Value) (L : List Nt2), e = .returned v ∧ Own2 w' w.heap.size 32 v L ∧ ChB L ∧ Cur w' base b (k + 1000) ∧ w.grownBy w' (some b) := by
  have HC := Lib.hid hC
  have hbw := hC.lt
  clear hC
  go_enter Try.func46, Try.ntmps46
  go_wp2_with fail
  refine (lasts_any b k base _ HC.out (by omega) hbase).mono ?_
  rintro e w1 ⟨x, hx0, hx1, rfl, hC1, hg1⟩
  have hC1 := hC1.kept (Nat.le_trans hbase hg1.size) ((RowKit.Below.refl _ w1).alloc (Nat.le_refl _) (.cells #[.int .i64 0, .int .i64 x] 32))
  have hg1' := grown_alloc hg1 (.cells #[.int .i64 0, .int .i64 x] 32)
  have hO : Own2 (w1.alloc (.cells #[.int .i64 0, .int .i64 x] 32)) w.heap.size 32 (.slice (some ⟨w1.heap.size, 0, none⟩) 1 1) [(0, x)] := by
    have h := World.ownsRow_lit (base := w.heap.size) (e := 32) (size := 2) w1 #[.int .i64 0, .int .i64 x] 1 hg1.size (by unfold maxLen; omega) rfl
    exact h
  have HCA := Lib.hid hC1
  have HGA := Lib.hid hg1'
  have HOA := Lib.hid hO
  clear hC1 hg1' hO hg1
  go_wp2_with fail
  generalize w1.alloc (.cells #[.int .i64 0, .int .i64 x] 32) = w2 at *
  generalize w1.heap.size = g1 at *
  refine (pick_any b (k + 4) base _ _ HCA.out (by omega) (by omega)).mono ?_
  rintro e w3 ⟨n, hn0, hn1, rfl, hC3, hg3⟩
  have HC3 := Lib.hid hC3
  have HO3 := Lib.hid (HOA.out.grown hg3 (.inr (fun h => by have := (HOA.out.lt _ h).1; omega)))
  have HG3 := Lib.hid (HGA.out.trans hg3)
  clear hC3 hg3
  have m1 : IntKind.i64.wrap (1 + n) = 1 + n := IntWalk.i64_in _ (by omega)
  go_wp2_with fail
  refine (one_any b (k + 6) base _ _ HC3.out (by omega) (by omega)).mono ?_
  rintro e w4 ⟨q, rfl, hC4, hg4⟩
  have HC4 := Lib.hid hC4
  have HO4 := Lib.hid (HO3.out.grown hg4 (.inr (fun h => by have := (HO3.out.lt _ h).1; omega)))
  have HG4 := Lib.hid (HG3.out.trans hg4)
  clear hC4 hg4
  have hB0 : ChB [(0, x)] := ⟨by simp, by simp, fun y hy => by
    obtain rfl : y = (0, x) := by simpa using hy
    simp only [List.length_cons, List.length_nil]
    omega⟩
  have HB0 := Lib.hid hB0
  clear hB0
  have hNb : 1 + n ≤ 20 := by omega
  cases q
  · go_wp2_with fail
    go_loopw [3] (fun v wr => ∃ L : List Nt2, Own2 wr w.heap.size 32 v L ∧ ChB L ∧ Cur wr base b (k + 8 + 30 * L.length) ∧ w.grownBy wr (some b))
      (fun v _ => 20 - lenV v)
    case atStart => exact ⟨[(0, x)], HO4.out, HB0.out, HC4.out.mono (by simp), HG4.out⟩
    case round =>
      obtain ⟨L, hO, hB, hCr, hGr⟩ := hrel
      have hL1 := hB.1
      have hL2 := hB.2.1
      obtain ⟨g, c, rfl⟩ := hO.some hL1
      have hbr := hCr.lt
      have hgb : w.heap.size ≤ g ∧ g < wr.heap.size := hO.lt g rfl
      have hbs : base ≤ wr.heap.size := Nat.le_trans hbase hGr.size
      by_cases hlt : (L.length : Int) < (1 + n)
      · have hy : L[L.length - 1]? = some L[L.length - 1] := List.getElem?_eq_getElem (by omega)
        have hyb := hB.2.2 _ (List.getElem_mem (show L.length - 1 < L.length from by omega))
        generalize L[L.length - 1] = y at hy hyb
        obtain ⟨p, z⟩ := y
        simp only at hyb
        obtain ⟨_, y0, y1⟩ := hO.ra.at (L.length - 1) _ hy
        simp only [Nat.zero_add] at y0 y1
        have i1 : (0 : Int) ≤ (L.length : Int) - 1 := by omega
        have i2 : (L.length : Int) - 1 < (L.length : Int) := by omega
        have HO := Lib.hid hO
        have HB := Lib.hid hB
        have HCr := Lib.hid hCr
        have HGr := Lib.hid hGr
        have ny := World.new_ne wr _ y0
        clear hO hB hCr hGr hy
        go_wp2_with fail
        have gN : g ≠ b := by omega
        have i3 : IntKind.i64.wrap ((L.length : Int) - 1) = (L.length : Int) - 1 := IntWalk.i64_in _ (by omega)
        have i4 : ((L.length : Int) - 1).toNat = L.length - 1 := by omega
        have i5 : (1 : Int) ≤ (L.length : Int) := by omega
        have i6 : ¬ ((L.length : Int) < 1) := by omega
        have m2 : IntKind.i64.wrap (p + 1) = p + 1 := IntWalk.i64_in _ (by omega)
        have gW := hgb.2
        go_region_held3 (fun w' => w'.cell? ⟨g, (L.length - 1) * 2, none⟩ = some (.int .i64 p))
          (first | go_keep | assumption)
          (first
            | (go_at_call 28; refine (pick_any b (k + 8 + 30 * L.length) base 40 _ (by first | exact HCr.out | exact HCr.out.drew | exact HCr.out.drew.drew) (by omega) (by omega)).mono ?_; rintro e w5 ⟨n5, h50, h51, rfl, hC5, hg5⟩; have y0 := (cell_grown hg5 gW gN _).trans y0; have HC5 := Lib.hid hC5; have HG5 := Lib.hid hg5; clear hC5 hg5))
        have m3 : IntKind.i64.wrap (p + 1 + n5) = p + 1 + n5 := IntWalk.i64_in _ (by omega)
        have hg5 : wr.grownBy w5 (some b) := by
          obtain ⟨a1, a2, a3, a4, a5⟩ := HG5.out
          exact ⟨a1, a2, a3, a4, a5⟩
        have HO5 := Lib.hid (HO.out.grown hg5 (.inr (fun h => by have := (HO.out.lt _ h).1; omega)))
        have HG6 := Lib.hid (HGr.out.trans hg5)
        have hz5 := hg5.size
        have y1 := (cell_grown hg5 gW gN _).trans y1
        have hb5 : base ≤ w5.heap.size := Nat.le_trans hbs hz5
        have gW5 : g < w5.heap.size := Nat.lt_of_lt_of_le gW hz5
        have w55 : w.heap.size ≤ w5.heap.size := HG6.out.size
        clear hg5 HG5
        rw [m3]
        go_wp2_with fail
        go_region_law (first
          | (go_simp; go_at_call 34; refine (lasts_any b (k + 8 + 30 * L.length + 2) base _ (by first | exact HC5.out | exact HC5.out.drew | exact HC5.out.drew.drew) (by omega) (by exact hb5)).mono ?_; rintro e w6 ⟨x6, x60, x61, rfl, hC6, hg6⟩; have hg6 : w5.grownBy w6 (some b) := (by first | exact hg6 | exact undrew hg6 | exact undrew (undrew hg6)); have y1 := (cell_grown hg6 gW5 gN _).trans y1; have HO6 := Lib.hid (HO5.out.grown hg6 (.inr (fun h => by have := (HO5.out.lt _ h).1; omega))); have HG7 := Lib.hid (HG6.out.trans hg6); have hb6 : base ≤ w6.heap.size := Nat.le_trans hb5 hg6.size; have w66 : w.heap.size ≤ w6.heap.size := HG7.out.size; have hbl6 := hC6.lt; have HC6 := Lib.hid hC6; clear hC6 hg6)
          | (go_simp; go_at_call 27; refine (among_any b (k + 8 + 30 * L.length + 6) base _ _ _ _ (by first | exact cur_alloc HC6.out hb6 _ | exact (cur_alloc HC6.out hb6 _).drew | exact cur_alloc HC6.out.drew hb6 _ | exact (cur_alloc HC6.out.drew hb6 _).drew) (by omega) (by omega) (by omega) (fun y => 0 ≤ y ∧ y ≤ 1000000) (by exact among_two hbl6 ⟨by omega, by omega⟩ ⟨by omega, by omega⟩)).mono ?_; rintro e w7 ⟨q, ⟨q0, q1⟩, rfl, hC7, hg7⟩; have hg7 : w6.grownBy w7 (some b) := (by first | exact alloc_un hg7 | exact alloc_un (undrew hg7) | exact undrew (alloc_un hg7) | exact undrew (alloc_un (undrew hg7))); have HO7 := Lib.hid (HO6.out.grown hg7 (.inr (fun h => by have := (HO6.out.lt _ h).1; omega))); have HG8 := Lib.hid (HG7.out.trans hg7); have hb7 : base ≤ w7.heap.size := Nat.le_trans hb6 hg7.size; have w77 : w.heap.size ≤ w7.heap.size := HG8.out.size; have HC7 := Lib.hid hC7; clear hC7 hg7)
          | (refine step_appChange rfl (.tmp 30) (.tmp 45) rfl w.heap.size _ _ rfl (by first | exact HO7.out.below ((RowKit.Below.refl _ _).alloc (Nat.le_refl _) _) (Nat.le_refl _) | exact (HO7.out.below ((RowKit.Below.refl _ _).alloc (Nat.le_refl _) _) (Nat.le_refl _) :)) _ 1 1 [(p + 1 + n5, q)] rfl rfl (fun h => by cases h) (RA2.one (heap_alloc_new _ _)) (by omega) (Nat.le_trans w77 (by simp)) ?_; intro v8 w8 ho8 hg8; obtain ⟨A8, c8, e8, _⟩ := ho8.form; subst e8; have HO8 := Lib.hid ho8; have HC8 := Lib.hid (cur_grown (cur_alloc HC7.out hb7 _) (Nat.le_trans hb7 (by simp)) hg8 (fun j hj => by have := (HO7.out.lt j hj).1; have := hgb.1; have hj2 : some g = some j := hj; obtain rfl : g = j := (by simpa using hj2); exact ⟨by omega, gN⟩)); have HG9 := Lib.hid (grown_own (grown_alloc HG8.out _) hg8 (fun j hj => (HO7.out.lt j hj).1)); clear ho8 hg8))
        all_goals
          have HE8 := Lib.hid (show (L ++ [(p + 1 + n5, q)]).length = L.length + 1 from by simp)
          go_simp
          go_wp2
          go_roundw
          case rel => exact ⟨L ++ [(p + 1 + n5, q)], (by have h := HO8.out; rw [HE8.out] at h; exact h), HB.out.snoc (by omega) (by omega) (by omega) q0 q1, HC8.out.mono (by have := HE8.out; omega), HG9.out⟩
          case measure => have := HE8.out; simp only [lenV, List.length_append, List.length_cons, List.length_nil] at *; omega
      · go_wp2
        go_ret
        (first | exact ⟨_, L, rfl, hO, hB, hCr.mono (by omega), hGr⟩ | exact ⟨_, rfl, L, hO, hB, hCr.mono (by omega), hGr⟩)
  · go_wp2_with fail
    go_loopw [3] (fun v wr => ∃ L : List Nt2, Own2 wr w.heap.size 32 v L ∧ ChB L ∧ Cur wr base b (k + 8 + 30 * L.length) ∧ w.grownBy wr (some b))
      (fun v _ => 20 - lenV v)
    case atStart => exact ⟨[(0, x)], HO4.out, HB0.out, HC4.out.mono (by simp), HG4.out⟩
    case round =>
      obtain ⟨L, hO, hB, hCr, hGr⟩ := hrel
      have hL1 := hB.1
      have hL2 := hB.2.1
      obtain ⟨g, c, rfl⟩ := hO.some hL1
      have hbr := hCr.lt
      have hgb : w.heap.size ≤ g ∧ g < wr.heap.size := hO.lt g rfl
      have hbs : base ≤ wr.heap.size := Nat.le_trans hbase hGr.size
      by_cases hlt : (L.length : Int) < (20 : Int)
      · have hy : L[L.length - 1]? = some L[L.length - 1] := List.getElem?_eq_getElem (by omega)
        have hyb := hB.2.2 _ (List.getElem_mem (show L.length - 1 < L.length from by omega))
        generalize L[L.length - 1] = y at hy hyb
        obtain ⟨p, z⟩ := y
        simp only at hyb
        obtain ⟨_, y0, y1⟩ := hO.ra.at (L.length - 1) _ hy
        simp only [Nat.zero_add] at y0 y1
        have i1 : (0 : Int) ≤ (L.length : Int) - 1 := by omega
        have i2 : (L.length : Int) - 1 < (L.length : Int) := by omega
        have HO := Lib.hid hO
        have HB := Lib.hid hB
        have HCr := Lib.hid hCr
        have HGr := Lib.hid hGr
        have ny := World.new_ne wr _ y0
        clear hO hB hCr hGr hy
        go_wp2_with fail
        have gN : g ≠ b := by omega
        have i3 : IntKind.i64.wrap ((L.length : Int) - 1) = (L.length : Int) - 1 := IntWalk.i64_in _ (by omega)
        have i4 : ((L.length : Int) - 1).toNat = L.length - 1 := by omega
        have i5 : (1 : Int) ≤ (L.length : Int) := by omega
        have i6 : ¬ ((L.length : Int) < 1) := by omega
        have m2 : IntKind.i64.wrap (p + 1) = p + 1 := IntWalk.i64_in _ (by omega)
        have gW := hgb.2
        go_region_held3 (fun w' => w'.cell? ⟨g, (L.length - 1) * 2, none⟩ = some (.int .i64 p))
          (first | go_keep | assumption)
          (first
            | (go_at_call 28; refine (pick_any b (k + 8 + 30 * L.length) base 40 _ (by first | exact HCr.out | exact HCr.out.drew | exact HCr.out.drew.drew) (by omega) (by omega)).mono ?_; rintro e w5 ⟨n5, h50, h51, rfl, hC5, hg5⟩; have y0 := (cell_grown hg5 gW gN _).trans y0; have HC5 := Lib.hid hC5; have HG5 := Lib.hid hg5; clear hC5 hg5))
        have m3 : IntKind.i64.wrap (p + 1 + n5) = p + 1 + n5 := IntWalk.i64_in _ (by omega)
        have hg5 : wr.grownBy w5 (some b) := by
          obtain ⟨a1, a2, a3, a4, a5⟩ := HG5.out
          exact ⟨a1, a2, a3, a4, a5⟩
        have HO5 := Lib.hid (HO.out.grown hg5 (.inr (fun h => by have := (HO.out.lt _ h).1; omega)))
        have HG6 := Lib.hid (HGr.out.trans hg5)
        have hz5 := hg5.size
        have y1 := (cell_grown hg5 gW gN _).trans y1
        have hb5 : base ≤ w5.heap.size := Nat.le_trans hbs hz5
        have gW5 : g < w5.heap.size := Nat.lt_of_lt_of_le gW hz5
        have w55 : w.heap.size ≤ w5.heap.size := HG6.out.size
        clear hg5 HG5
        rw [m3]
        go_wp2_with fail
        go_region_law (first
          | (go_simp; go_at_call 34; refine (lasts_any b (k + 8 + 30 * L.length + 2) base _ (by first | exact HC5.out | exact HC5.out.drew | exact HC5.out.drew.drew) (by omega) (by exact hb5)).mono ?_; rintro e w6 ⟨x6, x60, x61, rfl, hC6, hg6⟩; have hg6 : w5.grownBy w6 (some b) := (by first | exact hg6 | exact undrew hg6 | exact undrew (undrew hg6)); have y1 := (cell_grown hg6 gW5 gN _).trans y1; have HO6 := Lib.hid (HO5.out.grown hg6 (.inr (fun h => by have := (HO5.out.lt _ h).1; omega))); have HG7 := Lib.hid (HG6.out.trans hg6); have hb6 : base ≤ w6.heap.size := Nat.le_trans hb5 hg6.size; have w66 : w.heap.size ≤ w6.heap.size := HG7.out.size; have hbl6 := hC6.lt; have HC6 := Lib.hid hC6; clear hC6 hg6)
          | (go_simp; go_at_call 27; refine (among_any b (k + 8 + 30 * L.length + 6) base _ _ _ _ (by first | exact cur_alloc HC6.out hb6 _ | exact (cur_alloc HC6.out hb6 _).drew | exact cur_alloc HC6.out.drew hb6 _ | exact (cur_alloc HC6.out.drew hb6 _).drew) (by omega) (by omega) (by omega) (fun y => 0 ≤ y ∧ y ≤ 1000000) (by exact among_two hbl6 ⟨by omega, by omega⟩ ⟨by omega, by omega⟩)).mono ?_; rintro e w7 ⟨q, ⟨q0, q1⟩, rfl, hC7, hg7⟩; have hg7 : w6.grownBy w7 (some b) := (by first | exact alloc_un hg7 | exact alloc_un (undrew hg7) | exact undrew (alloc_un hg7) | exact undrew (alloc_un (undrew hg7))); have HO7 := Lib.hid (HO6.out.grown hg7 (.inr (fun h => by have := (HO6.out.lt _ h).1; omega))); have HG8 := Lib.hid (HG7.out.trans hg7); have hb7 : base ≤ w7.heap.size := Nat.le_trans hb6 hg7.size; have w77 : w.heap.size ≤ w7.heap.size := HG8.out.size; have HC7 := Lib.hid hC7; clear hC7 hg7)
          | (refine step_appChange rfl (.tmp 30) (.tmp 45) rfl w.heap.size _ _ rfl (by first | exact HO7.out.below ((RowKit.Below.refl _ _).alloc (Nat.le_refl _) _) (Nat.le_refl _) | exact (HO7.out.below ((RowKit.Below.refl _ _).alloc (Nat.le_refl _) _) (Nat.le_refl _) :)) _ 1 1 [(p + 1 + n5, q)] rfl rfl (fun h => by cases h) (RA2.one (heap_alloc_new _ _)) (by omega) (Nat.le_trans w77 (by simp)) ?_; intro v8 w8 ho8 hg8; obtain ⟨A8, c8, e8, _⟩ := ho8.form; subst e8; have HO8 := Lib.hid ho8; have HC8 := Lib.hid (cur_grown (cur_alloc HC7.out hb7 _) (Nat.le_trans hb7 (by simp)) hg8 (fun j hj => by have := (HO7.out.lt j hj).1; have := hgb.1; have hj2 : some g = some j := hj; obtain rfl : g = j := (by simpa using hj2); exact ⟨by omega, gN⟩)); have HG9 := Lib.hid (grown_own (grown_alloc HG8.out _) hg8 (fun j hj => (HO7.out.lt j hj).1)); clear ho8 hg8))
        all_goals
          have HE8 := Lib.hid (show (L ++ [(p + 1 + n5, q)]).length = L.length + 1 from by simp)
          go_simp
          go_wp2
          go_roundw
          case rel => exact ⟨L ++ [(p + 1 + n5, q)], (by have h := HO8.out; rw [HE8.out] at h; exact h), HB.out.snoc (by omega) (by omega) (by omega) q0 q1, HC8.out.mono (by have := HE8.out; omega), HG9.out⟩
          case measure => have := HE8.out; simp only [lenV, List.length_append, List.length_cons, List.length_nil] at *; omega
      · go_wp2
        go_ret
        (first | exact ⟨_, L, rfl, hO, hB, hCr.mono (by omega), hGr⟩ | exact ⟨_, rfl, L, hO, hB, hCr.mono (by omega), hGr⟩)
end Go.Proofs.Ytakmlgkcinjecaa
