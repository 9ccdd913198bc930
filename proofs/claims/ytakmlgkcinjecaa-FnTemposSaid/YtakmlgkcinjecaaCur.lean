/- Contracts: the cursor over drawn bytes: next, pick, one. Of what it draws nothing is said but its bounds. -/
import Derived.Test.YtakmlgkcinjecaaProg
import Derived.WalkKit
import Derived.WalkSpells
import Derived.WalkLawsBesides
import Derived.WalkSmall
import Derived.Lib.Hide
import Derived.Deep.QuietTactic
import Derived.BigQuiet
import Derived.OwnWalk
import Derived.Below
import Derived.StillTailTactics
import Derived.Handy
import Derived.Laws.BitsLemmas
import Derived.Lib.EndianBits
import Derived.Deep.RegionWith
namespace Go.Proofs.Ytakmlgkcinjecaa
open Go.RowKit
set_option linter.unusedVariables false
set_option linter.unusedSimpArgs false

/-- A cursor in block b, made behind base, that has moved at most k times; its bytes lie below base. -/
structure Cur (w : World) (base b k : Nat) : Prop where
  above : base ≤ b
  here : ∃ (A : Option Addr) (n c : Nat) (i seed : Int), w.cell? ⟨b, 0, none⟩ = some (.slice A n c) ∧ w.cell? ⟨b, 1, none⟩ = some (.int .i64 i) ∧ w.cell? ⟨b, 2, none⟩ = some (.int .u64 seed) ∧ 0 ≤ i ∧ i ≤ k ∧ n ≤ 9223372036854775807 ∧ 0 ≤ seed ∧ seed < 18446744073709551616 ∧
    (∀ j, j < n → ∃ g o x, A = some ⟨g, o, none⟩ ∧ g < base ∧ w.cell? ⟨g, o + j, none⟩ = some (.int .u8 x) ∧ 0 ≤ x ∧ x ≤ 255)
  free : ∀ j, w.frozen? ⟨b, j, none⟩ = false

theorem Cur.drew {w : World} {base b k : Nat} (h : Cur w base b k) : Cur w.drew base b k := ⟨h.above, h.here, h.free⟩
theorem cur_drew {w w' : World} {base b k : Nat} (h : Cur w' base b k ∧ w.grownBy w' (some b)) : Cur w'.drew base b k ∧ w.grownBy w'.drew (some b) := by
  obtain ⟨hC, h1, h2, h3, h4, h5⟩ := h
  exact ⟨hC.drew, h1, h2, h3, h4, h5⟩
theorem low_byte (z : Int) (h : 0 ≤ z) (h2 : z < 18446744073709551616) : 0 ≤ wrap64 (bits .and .u64 (z / 1099511627776) 255) ∧ wrap64 (bits .and .u64 (z / 1099511627776) 255) ≤ 255 := by
  have e := bits_mask .u64 63 (by decide) (fun n h0 h1 => by rw [IntKind.wrap_u64]; omega) 8 (by decide) (z / 1099511627776) (by omega) (by omega)
  rw [show (255 : Int) = 2 ^ 8 - 1 from rfl, e]
  unfold wrap64
  omega
theorem u64_wrap (z : Int) : 0 ≤ IntKind.u64.wrap z ∧ IntKind.u64.wrap z < 18446744073709551616 := by
  simp only [IntKind.wrap, IntKind.bits, IntKind.signed]
  refine ⟨?_, ?_⟩ <;> simp <;> omega
theorem grown_setCellC (w : World) (a : Addr) (u : Value) : w.grownBy (w.setCell a u) (some a.block) :=
  ⟨rfl, rfl, rfl, by simp, fun k _ hk => Below.heap_setCell _ _ _ k (fun e => hk (by rw [e]))⟩
theorem cur_moved {w : World} {base b k : Nat} {A : Option Addr} {n c : Nat} {i s0 : Int} (hab : base ≤ b) (c0 : w.cell? ⟨b, 0, none⟩ = some (.slice A n c)) (c1 : w.cell? ⟨b, 1, none⟩ = some (.int .i64 i)) (c2 : w.cell? ⟨b, 2, none⟩ = some (.int .u64 s0))
    (hi : 0 ≤ i) (hik : i ≤ k) (hn : n ≤ 9223372036854775807) (HA : ∀ j, j < n → ∃ g o x, A = some ⟨g, o, none⟩ ∧ g < base ∧ w.cell? ⟨g, o + j, none⟩ = some (.int .u8 x) ∧ 0 ≤ x ∧ x ≤ 255) (HF : ∀ j, w.frozen? ⟨b, j, none⟩ = false)
    (S : Int) (h0 : 0 ≤ S) (h1 : S < 18446744073709551616) :
    Cur ((w.setCell ⟨b, 1, none⟩ (.int .i64 (i + 1))).setCell ⟨b, 2, none⟩ (.int .u64 S)) base b (k + 1) ∧ w.grownBy ((w.setCell ⟨b, 1, none⟩ (.int .i64 (i + 1))).setCell ⟨b, 2, none⟩ (.int .u64 S)) (some b) := by
  have n01 : (⟨b, 1, none⟩ : Addr) ≠ ⟨b, 0, none⟩ := fun h => by cases h
  have n02 : (⟨b, 2, none⟩ : Addr) ≠ ⟨b, 0, none⟩ := fun h => by cases h
  have n12 : (⟨b, 1, none⟩ : Addr) ≠ ⟨b, 2, none⟩ := fun h => by cases h
  have n21 : (⟨b, 2, none⟩ : Addr) ≠ ⟨b, 1, none⟩ := fun h => by cases h
  refine ⟨⟨hab, ⟨A, n, c, i + 1, S, ?_, ?_, ?_, by omega, by omega, hn, h0, h1, ?_⟩, fun j => ?_⟩, (grown_setCellC w ⟨b, 1, none⟩ _).trans (grown_setCellC _ ⟨b, 2, none⟩ _)⟩
  · rw [World.cell?_setCell_other _ _ _ _ n02, World.cell?_setCell_other _ _ _ _ n01]; exact c0
  · rw [World.cell?_setCell_other _ _ _ _ n21]; exact World.cell?_setCell_same w _ _ c1
  · exact World.cell?_setCell_same _ _ _ ((World.cell?_setCell_other _ _ _ _ n12).trans c2)
  · intro j hj
    obtain ⟨g, o, x, e, hg, hx, hb⟩ := HA j hj
    refine ⟨g, o, x, e, hg, ?_, hb⟩
    have ne : ∀ q : Nat, (⟨b, q, none⟩ : Addr) ≠ ⟨g, o + j, none⟩ := fun q h => by cases h; omega
    rw [World.cell?_setCell_other _ _ _ _ (ne 2), World.cell?_setCell_other _ _ _ _ (ne 1)]
    exact hx
  · rw [World.frozen?_setCell, World.frozen?_setCell]
    exact HF j

set_option maxRecDepth 100000 in
set_option maxHeartbeats 1000000 in
theorem next_any (b k base : Nat) (w : World) (hC : Cur w base b k) (hk : k ≤ 1000000000) :
    Calls Try.prog 47 #[.pointer (some ⟨b, 0, none⟩)] w fun e w' => ∃ x : Int, 0 ≤ x ∧ x ≤ 255 ∧ e = .returned (.int .i64 x) ∧ Cur w' base b (k + 1) ∧ w.grownBy w' (some b) := by
  obtain ⟨hab, ⟨A, n, c, i, seed, c0, c1, c2, hi, hik, hn, hs0, hs1, hA⟩, hf⟩ := hC
  have f1 := hf 1
  have f2 := hf 2
  have HA := Lib.hid hA
  have HF := Lib.hid hf
  clear hf hA
  by_cases hlt : i < n
  · obtain ⟨g, o, x, rfl, hg, hx, hx0, hx1⟩ := HA.out i.toNat (by omega)
    obtain ⟨j, rfl⟩ : ∃ j : Nat, i = j := ⟨i.toNat, by omega⟩
    rw [Int.toNat_natCast] at hx
    go_enter Try.func47, Try.ntmps47
    go_wp2
    go_region
    go_wp2
    go_region
    go_wp2
    try go_region
    try go_wp2
    try go_region
    try go_wp2
    go_ret
    have hM := fun (S : Int) (h : 0 ≤ S ∧ S < 18446744073709551616) => cur_moved hab c0 c1 c2 hi hik hn HA.out HF.out S h.1 h.2
    exact ⟨x, hx0, hx1, rfl, cur_drew (cur_drew (cur_drew (hM _ (u64_wrap _))))⟩
  · have i0 : ¬ (i < (n : Int)) := hlt
    have i1 : ¬ (i + 1 ≤ (n : Int)) := by omega
    go_enter Try.func47, Try.ntmps47
    go_wp2
    go_region
    go_wp2
    try go_region
    try go_wp2
    try go_region
    try go_wp2
    go_ret
    have hM := fun (S : Int) (h : 0 ≤ S ∧ S < 18446744073709551616) => cur_moved hab c0 c1 c2 hi hik hn HA.out HF.out S h.1 h.2
    exact ⟨_, (low_byte _ (u64_wrap _).1 (u64_wrap _).2).1, (low_byte _ (u64_wrap _).1 (u64_wrap _).2).2, rfl, cur_drew (cur_drew (hM _ (u64_wrap _)))⟩
end Go.Proofs.Ytakmlgkcinjecaa
