/- Contracts: the cursor's pick and one. -/
import Derived.Test.YtakmlgkcinjecaaCur
namespace Go.Proofs.Ytakmlgkcinjecaa
open Go.RowKit
set_option linter.unusedVariables false
set_option linter.unusedSimpArgs false

theorem Cur.mono {w : World} {base b k k' : Nat} (h : Cur w base b k) (hk : k ≤ k') : Cur w base b k' := by
  obtain ⟨h1, ⟨A, n, c, i, s, a0, a1, a2, a3, a4, a5, a6, a7, a8⟩, h3⟩ := h
  exact ⟨h1, ⟨A, n, c, i, s, a0, a1, a2, a3, by omega, a5, a6, a7, a8⟩, h3⟩

set_option maxRecDepth 100000 in
set_option maxHeartbeats 1000000 in
theorem pick_any (b k base : Nat) (n : Int) (w : World) (hC : Cur w base b k) (hk : k ≤ 900000000) (hn : n ≤ 1048576) :
    Calls Try.prog 28 #[.pointer (some ⟨b, 0, none⟩), .int .i64 n] w fun e w' => ∃ x : Int, 0 ≤ x ∧ (x < n ∨ x = 0) ∧ e = .returned (.int .i64 x) ∧ Cur w' base b (k + 2) ∧ w.grownBy w' (some b) := by
  by_cases h1 : n ≤ 1
  · go_enter Try.func28, Try.ntmps28
    go_wp2
    go_ret
    exact ⟨0, by omega, .inr rfl, rfl, hC.mono (by omega), World.grownBy.refl _ _⟩
  · by_cases h2 : 200 < n
    · have HC := Lib.hid hC
      clear hC
      go_enter Try.func28, Try.ntmps28
      go_wp2_with fail
      refine (next_any b k base w HC.out (by omega)).mono ?_
      rintro e w1 ⟨x, hx0, hx1, rfl, hC1, hg1⟩
      have HC1 := Lib.hid hC1
      have HG1 := Lib.hid hg1
      clear hC1 hg1
      go_wp2_with fail
      refine (next_any b (k + 1) base _ HC1.out (by omega)).mono ?_
      rintro e w2 ⟨y, hy0, hy1, rfl, hC2, hg2⟩
      have HC2 := Lib.hid hC2
      have HG2 := Lib.hid hg2
      clear hC2 hg2
      go_wp2
      go_ret
      exact ⟨_, Int.emod_nonneg _ (by omega), .inl (Int.emod_lt_of_pos _ (by omega)), rfl, HC2.out, HG1.out.trans HG2.out⟩
    · have HC := Lib.hid hC
      clear hC
      go_enter Try.func28, Try.ntmps28
      go_wp2_with fail
      refine (next_any b k base w HC.out (by omega)).mono ?_
      rintro e w1 ⟨x, hx0, hx1, rfl, hC1, hg1⟩
      have HC1 := Lib.hid hC1
      have HG1 := Lib.hid hg1
      clear hC1 hg1
      go_wp2
      go_ret
      exact ⟨_, Int.emod_nonneg _ (by omega), .inl (Int.emod_lt_of_pos _ (by omega)), rfl, HC1.out.mono (by omega), HG1.out⟩

set_option maxHeartbeats 1000000 in
theorem one_any (b k base : Nat) (n : Int) (w : World) (hC : Cur w base b k) (hk : k ≤ 900000000) (hn : n ≤ 1048576) :
    Calls Try.prog 29 #[.pointer (some ⟨b, 0, none⟩), .int .i64 n] w fun e w' => ∃ x : Bool, e = .returned (.bool x) ∧ Cur w' base b (k + 2) ∧ w.grownBy w' (some b) := by
  have HC := Lib.hid hC
  clear hC
  go_enter Try.func29, Try.ntmps29
  go_wp2_with fail
  refine (pick_any b k base n w HC.out hk hn).mono ?_
  rintro e w1 ⟨x, hx0, hx1, rfl, hC1, hg1⟩
  have HC1 := Lib.hid hC1
  have HG1 := Lib.hid hg1
  clear hC1 hg1
  go_wp2
  go_ret
  exact ⟨_, rfl, HC1.out, HG1.out⟩

set_option maxHeartbeats 1000000 in
theorem among_any (b k base : Nat) (A : Option Addr) (n c : Nat) (w : World) (hC : Cur w base b k) (hk : k ≤ 900000000) (hn : n ≤ 1048576) (hn0 : 0 < n) (P : Int → Prop)
    (hA : ∀ j, j < n → ∃ g o x, A = some ⟨g, o, none⟩ ∧ g < w.heap.size ∧ g ≠ b ∧ w.cell? ⟨g, o + j, none⟩ = some (.int .i64 x) ∧ P x) :
    Calls Try.prog 27 #[.pointer (some ⟨b, 0, none⟩), .slice A n c] w fun e w' => ∃ x : Int, P x ∧ e = .returned (.int .i64 x) ∧ Cur w' base b (k + 2) ∧ w.grownBy w' (some b) := by
  have HC := Lib.hid hC
  have HA := Lib.hid hA
  clear hC hA
  go_enter Try.func27, Try.ntmps27
  go_wp2_with fail
  refine (pick_any b k base n w HC.out hk (by omega)).mono ?_
  rintro e w1 ⟨y, hy0, hy1, rfl, hC1, hg1⟩
  obtain ⟨j, rfl⟩ : ∃ j : Nat, y = j := ⟨y.toNat, by omega⟩
  obtain ⟨g, o, x, rfl, hg, hgb, hx, hP⟩ := HA.out j (by omega)
  have hx1 : w1.cell? ⟨g, o + j, none⟩ = some (.int .i64 x) := (World.cell?_of_block (a := ⟨g, o + j, none⟩) (hg1.block g hg (fun h => hgb (Option.some.inj h)))).trans hx
  have hjn : (j : Int) < n := by omega
  have HC1 := Lib.hid hC1
  have HG1 := Lib.hid hg1
  have HP := Lib.hid hP
  clear hC1 hg1 hx hP
  go_wp2
  go_ret
  exact ⟨x, HP.out, rfl, HC1.out, HG1.out⟩
end Go.Proofs.Ytakmlgkcinjecaa
