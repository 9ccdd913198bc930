/- NearestPitch and FoldPitch: the model's and the program's functions have one answer. -/
import Derived.Test.YtbdffmacpajebaaDoorNear
namespace Go.Proofs.YtbdffmacpajebaaDoor
open Go.RowKit
set_option linter.unusedVariables false
set_option linter.unusedSimpArgs false

theorem nearR_form (l : List Int) (r p n : Int) : ∃ a b, nearR l r p n = #[.int .i64 a, .bool b] := by unfold nearR; split <;> exact ⟨_, _, rfl⟩
def near1R (l : List Int) (r p : Int) : Array Value := nearR l r p 1
def near12R (l : List Int) (r p : Int) : Array Value := nearR l r p 12
theorem near1R_form (l : List Int) (r p : Int) : ∃ a b, near1R l r p = #[.int .i64 a, .bool b] := nearR_form l r p 1
theorem near12R_form (l : List Int) (r p : Int) : ∃ a b, near12R l r p = #[.int .i64 a, .bool b] := nearR_form l r p 12
theorem near_some (p : Int) (l : List Int) (h : l ≠ []) : ∃ y, nearL p 1 l = some y := by
  have key : ∀ (l : List Int) (s : Option Int), (∃ y, s = some y) → ∃ y, l.foldl (nearS p 1) s = some y := by
    intro l
    induction l with
    | nil => intro s h; exact h
    | cons x l ih =>
      intro s h
      rw [List.foldl_cons]
      apply ih
      obtain ⟨y, rfl⟩ := h
      unfold nearS
      rw [if_pos (Int.tmod_one _)]
      simp only
      split <;> exact ⟨_, rfl⟩
  cases l with
  | nil => exact absurd rfl h
  | cons x l =>
    unfold nearL
    rw [List.foldl_cons]
    exact key l _ ⟨x, nearS_new (Int.tmod_one _)⟩

set_option maxRecDepth 100000 in
set_option maxHeartbeats 2000000 in
theorem implNearest_any (A : Option Addr) (l : List Int) (c : Nat) (r p : Int) (w : World) (hn : l.length ≤ 1048576) (hA : RI w A l) (hL : Lim w) :
    Calls Tryd.prog 13 #[.agg #[.slice A l.length c, .int .i64 r], .int .i64 p] w fun e w' => e = .returned (.tuple (near1R l r p)) ∧ Below w.heap.size w w' := by
  obtain ⟨va, vb, hR⟩ := nearR_form l r p 1
  have hb0 : Below w.heap.size w (w.alloc (.cells #[.slice A l.length c, .int .i64 r] 28)) := (Below.refl w.heap.size w).alloc (Nat.le_refl _) _
  have HN := Lib.hid (fun W (hA : RI W A l) (hL : Lim W) => nearest_any A l c r p 1 W hn hA hL (by omega) (by omega))
  rw [hR] at HN
  have HR := Lib.hid (show near1R l r p = #[.int .i64 va, .bool vb] from hR)
  clear hR
  go_enter Tryd.func13, Tryd.ntmps13
  go_wp2_with fail
  refine (HN.out _ (hA.below hb0) (hL.below hb0)).mono ?_
  rintro e w1 ⟨rfl, hb1⟩
  go_wp2
  go_ret2
  exact ⟨(by first | (rw [HR.out]; done) | (rw [HR.out]; rfl)), hb0.trans (hb1.mono hb0.size)⟩

set_option maxRecDepth 100000 in
set_option maxHeartbeats 2000000 in
theorem implFold_any (A : Option Addr) (l : List Int) (c : Nat) (r p : Int) (w : World) (hn : l.length ≤ 1048576) (hA : RI w A l) (hL : Lim w) :
    Calls Tryd.prog 16 #[.agg #[.slice A l.length c, .int .i64 r], .int .i64 p] w fun e w' => e = .returned (.tuple (near12R l r p)) ∧ Below w.heap.size w w' := by
  obtain ⟨va, vb, hR⟩ := nearR_form l r p 12
  have hb0 : Below w.heap.size w (w.alloc (.cells #[.slice A l.length c, .int .i64 r] 28)) := (Below.refl w.heap.size w).alloc (Nat.le_refl _) _
  have HN := Lib.hid (fun W (hA : RI W A l) (hL : Lim W) => nearest_any A l c r p 12 W hn hA hL (by omega) (by omega))
  rw [hR] at HN
  have HR := Lib.hid (show near12R l r p = #[.int .i64 va, .bool vb] from hR)
  clear hR
  go_enter Tryd.func16, Tryd.ntmps16
  go_wp2_with fail
  refine (HN.out _ (hA.below hb0) (hL.below hb0)).mono ?_
  rintro e w1 ⟨rfl, hb1⟩
  go_wp2
  go_ret2
  exact ⟨(by first | (rw [HR.out]; done) | (rw [HR.out]; rfl)), hb0.trans (hb1.mono hb0.size)⟩

set_option maxRecDepth 100000 in
set_option maxHeartbeats 2000000 in
theorem specNearest_any (A : Option Addr) (l : List Int) (c : Nat) (r p : Int) (w : World) (hn : l.length ≤ 1048576) (hA : RI w A l) :
    Calls Tryd.prog 11 #[.agg #[.slice A l.length c, .int .i64 r], .int .i64 p] w fun e w' => e = .returned (.tuple (near1R l r p)) ∧ Below w.heap.size w w' := by
  have hb0 : Below w.heap.size w (w.alloc (.cells #[.slice A l.length c, .int .i64 r] 28)) := (Below.refl w.heap.size w).alloc (Nat.le_refl _) _
  obtain ⟨x0, x1, hz⟩ := Box.new w A l.length c r 28
  have hA := hA.below hb0
  have HI := Lib.hid (fun W (hA : RI W A l) => inGood_any A l c r W hn hA)
  cases hg : gdI l r with
  | false =>
    rw [hg] at HI
    have HR := Lib.hid (show near1R l r p = #[.int .i64 0, .bool false] by unfold near1R nearR; rw [hg]; rfl)
    clear hg
    go_enter Tryd.func11, Tryd.ntmps11
    go_wp2_with fail
    refine (HI.out _ hA).mono ?_
    rintro e w1 ⟨rfl, hb1⟩
    go_wp2
    go_ret2
    exact ⟨(by first | (rw [HR.out]; done) | (rw [HR.out]; rfl)), hb0.trans (hb1.mono hb0.size)⟩
  | true =>
    have hl : ∀ x ∈ l, 24 ≤ x ∧ x ≤ 96 := fun x hx => ((gdI_iff l r).1 hg).2.1.range hx
    have hne : l ≠ [] := by rintro rfl; have := ((gdI_iff [] r).1 hg).1; simp at this
    rw [hg] at HI
    cases hp : inR p 24 96 with
    | false =>
      have HR := Lib.hid (show near1R l r p = #[.int .i64 0, .bool false] by unfold near1R nearR; rw [hg, hp]; rfl)
      clear hg
      go_enter Tryd.func11, Tryd.ntmps11
      go_wp2_with fail
      refine (HI.out _ hA).mono ?_
      rintro e w1 ⟨rfl, hb1⟩
      go_wp2_with (go_at_call 37; refine (ntPitch_any _ _).mono ?_; rintro e w2 ⟨rfl, rfl⟩)
      go_ret2
      exact ⟨(by first | (rw [HR.out]; done) | (rw [HR.out]; rfl)), hb0.trans (hb1.mono hb0.size)⟩
    | true =>
      have hpb : 24 ≤ p ∧ p ≤ 96 := by simpa [inR] using hp
      obtain ⟨y, hy⟩ := near_some p l hne
      have HR := Lib.hid (show near1R l r p = #[.int .i64 y, .bool true] by unfold near1R nearR; rw [hg, hp, hy]; rfl)
      have HT := Lib.hid (fun W (hA : RI W A l) => trNearest_any A l c r p 1 W hn hA hl (by omega) (by omega) (by omega) (by omega))
      rw [hy] at HT
      have HP := Lib.hid hp
      clear hg hp hy
      go_enter Tryd.func11, Tryd.ntmps11
      go_wp2_with fail
      generalize w.alloc (.cells #[.slice A l.length c, .int .i64 r] 28) = W at *
      refine (HI.out _ hA).mono ?_
      rintro e w1 ⟨rfl, hb1⟩
      have hA := hA.below hb1
      have hB := hb0.trans (hb1.mono hb0.size)
      have y0 := (hb1.cell (p := ⟨w.heap.size, 0, none⟩) hz).trans x0
      have y1 := (hb1.cell (p := ⟨w.heap.size, 1, none⟩) hz).trans x1
      go_wp2_with (first
        | (go_at_call 37; refine (ntPitch_any _ _).mono ?_; rw [HP.out]; rintro e w2 ⟨rfl, rfl⟩)
        | (go_at_call 38; refine (HT.out _ hA).mono ?_; rintro e w3 ⟨rfl, hb3⟩))
      go_ret2
      exact ⟨(by first | (rw [HR.out]; done) | (rw [HR.out]; rfl)), hB.trans (hb3.mono hB.size)⟩

set_option maxRecDepth 100000 in
set_option maxHeartbeats 2000000 in
theorem specFold_any (A : Option Addr) (l : List Int) (c : Nat) (r p : Int) (w : World) (hn : l.length ≤ 1048576) (hA : RI w A l) :
    Calls Tryd.prog 15 #[.agg #[.slice A l.length c, .int .i64 r], .int .i64 p] w fun e w' => e = .returned (.tuple (near12R l r p)) ∧ Below w.heap.size w w' := by
  have hb0 : Below w.heap.size w (w.alloc (.cells #[.slice A l.length c, .int .i64 r] 28)) := (Below.refl w.heap.size w).alloc (Nat.le_refl _) _
  obtain ⟨x0, x1, hz⟩ := Box.new w A l.length c r 28
  have hA := hA.below hb0
  have HI := Lib.hid (fun W (hA : RI W A l) => inGood_any A l c r W hn hA)
  cases hg : gdI l r with
  | false =>
    rw [hg] at HI
    have HR := Lib.hid (show near12R l r p = #[.int .i64 0, .bool false] by unfold near12R nearR; rw [hg]; rfl)
    clear hg
    go_enter Tryd.func15, Tryd.ntmps15
    go_wp2_with fail
    refine (HI.out _ hA).mono ?_
    rintro e w1 ⟨rfl, hb1⟩
    go_wp2
    go_ret2
    exact ⟨(by first | (rw [HR.out]; done) | (rw [HR.out]; rfl)), hb0.trans (hb1.mono hb0.size)⟩
  | true =>
    have hl : ∀ x ∈ l, 24 ≤ x ∧ x ≤ 96 := fun x hx => ((gdI_iff l r).1 hg).2.1.range hx
    rw [hg] at HI
    cases hp : inR p 24 96 with
    | false =>
      have HR := Lib.hid (show near12R l r p = #[.int .i64 0, .bool false] by unfold near12R nearR; rw [hg, hp]; rfl)
      clear hg
      go_enter Tryd.func15, Tryd.ntmps15
      go_wp2_with fail
      refine (HI.out _ hA).mono ?_
      rintro e w1 ⟨rfl, hb1⟩
      go_wp2_with (go_at_call 37; refine (ntPitch_any _ _).mono ?_; rintro e w2 ⟨rfl, rfl⟩)
      go_ret2
      exact ⟨(by first | (rw [HR.out]; done) | (rw [HR.out]; rfl)), hb0.trans (hb1.mono hb0.size)⟩
    | true =>
      have hpb : 24 ≤ p ∧ p ≤ 96 := by simpa [inR] using hp
      have HT := Lib.hid (fun W (hA : RI W A l) => trNearest_any A l c r p 12 W hn hA hl (by omega) (by omega) (by omega) (by omega))
      have HP := Lib.hid hp
      cases hy : nearL p 12 l with
      | none =>
        have HR := Lib.hid (show near12R l r p = #[.int .i64 0, .bool false] by unfold near12R nearR; rw [hg, hp, hy]; rfl)
        rw [hy] at HT
        clear hg hp hy
        go_enter Tryd.func15, Tryd.ntmps15
        go_wp2_with fail
        generalize w.alloc (.cells #[.slice A l.length c, .int .i64 r] 28) = W at *
        refine (HI.out _ hA).mono ?_
        rintro e w1 ⟨rfl, hb1⟩
        have hA := hA.below hb1
        have hB := hb0.trans (hb1.mono hb0.size)
        have y0 := (hb1.cell (p := ⟨w.heap.size, 0, none⟩) hz).trans x0
        have y1 := (hb1.cell (p := ⟨w.heap.size, 1, none⟩) hz).trans x1
        go_wp2_with (first
          | (go_at_call 37; refine (ntPitch_any _ _).mono ?_; rw [HP.out]; rintro e w2 ⟨rfl, rfl⟩)
          | (go_at_call 38; refine (HT.out _ hA).mono ?_; rintro e w3 ⟨rfl, hb3⟩))
        go_ret2
        exact ⟨(by first | (rw [HR.out]; done) | (rw [HR.out]; rfl)), hB.trans (hb3.mono hB.size)⟩
      | some y =>
        have hyb := hl y (nearL_mem p 12 l y hy)
        have HR := Lib.hid (show near12R l r p = #[.int .i64 y, .bool true] by unfold near12R nearR; rw [hg, hp, hy]; rfl)
        rw [hy, show (some y).getD (-1 : Int) = y from rfl] at HT
        clear hg hp hy
        go_enter Tryd.func15, Tryd.ntmps15
        go_wp2_with fail
        generalize w.alloc (.cells #[.slice A l.length c, .int .i64 r] 28) = W at *
        refine (HI.out _ hA).mono ?_
        rintro e w1 ⟨rfl, hb1⟩
        have hA1 := hA.below hb1
        have hB := hb0.trans (hb1.mono hb0.size)
        have y0 := (hb1.cell (p := ⟨w.heap.size, 0, none⟩) hz).trans x0
        have y1 := (hb1.cell (p := ⟨w.heap.size, 1, none⟩) hz).trans x1
        have hz1 := Nat.lt_of_lt_of_le hz hb1.size
        go_wp2_with (first
          | (go_at_call 37; refine (ntPitch_any _ _).mono ?_; rw [HP.out]; rintro e w2 ⟨rfl, rfl⟩)
          | (go_at_call 38; refine (HT.out _ hA1).mono ?_; rintro e w3 ⟨rfl, hb3⟩; have hA3 := hA1.below hb3; have v0 := (hb3.cell (p := ⟨w.heap.size, 0, none⟩) hz1).trans y0; have v1 := (hb3.cell (p := ⟨w.heap.size, 1, none⟩) hz1).trans y1)
          | (go_at_call 38; refine (HT.out _ hA3).mono ?_; rintro e w4 ⟨rfl, hb4⟩))
        go_ret2
        exact ⟨(by first | (rw [HR.out]; done) | (rw [HR.out]; rfl)), (hB.trans (hb3.mono hB.size)).trans (hb4.mono (Nat.le_trans hB.size hb3.size))⟩
end Go.Proofs.YtbdffmacpajebaaDoor
