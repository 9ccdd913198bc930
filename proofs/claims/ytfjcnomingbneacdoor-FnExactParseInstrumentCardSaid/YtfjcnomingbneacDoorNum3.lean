/- Decimal numerals of more than one digit. -/
import Derived.Test.YtfjcnomingbneacDoorNum
import Derived.IntWalk
namespace Go.Proofs.YtfjcnomingbneacDoor
open Go.RowKit Go.Sort
set_option linter.unusedVariables false
set_option linter.unusedSimpArgs false

theorem decDigits_qr (q r : Nat) (hr : r < 10) (hq : 0 < q) : Lib.decDigits (10 * q + r) = Lib.decDigits q ++ [UInt8.ofNat (48 + r)] := by
  rw [decDigits_big (by omega)]
  have e1 : (10 * q + r) / 10 = q := by omega
  have e2 : (10 * q + r) % 10 = r := by omega
  rw [e1, e2]
theorem decDigits_len3 (n : Nat) (h : n < 1000) : (Lib.decDigits n).length ≤ 3 := by
  by_cases h1 : n < 10
  · rw [decDigits_small h1]; simp
  · rw [decDigits_big h1]
    by_cases h2 : n / 10 < 10
    · rw [decDigits_small h2]; simp
    · rw [decDigits_big h2, decDigits_small (by omega)]; simp

theorem cell_after {w w1 : World} {x : Value} {t : TypeId} (hb : Below (w.drew.alloc (.cells #[x] t)).heap.size (w.drew.alloc (.cells #[x] t)) w1) : w1.cell? ⟨w.heap.size, 0, none⟩ = some x :=
  (hb.cell (p := ⟨w.heap.size, 0, none⟩) (by show w.drew.heap.size < _; simp)).trans ((World.cell?_alloc_new w.drew _ _ 0).trans rfl)

set_option maxRecDepth 100000 in
set_option maxHeartbeats 1000000 in
theorem l1Num_qr (p : Int) (q r : Nat) (w : World) (hp : p = 10 * q + r) (hr : r < 10) (hq : 0 < q) (hq9 : q < 1000) (HL : Hid (∀ w : World, Calls Tryd.prog 35 #[.int .i64 (q : Int)] w fun e w' => e = .returned (.string ⟨(Lib.decDigits q).toArray⟩) ∧ Below w.heap.size w w')) :
    Calls Tryd.prog 35 #[.int .i64 p] w fun e w' => e = .returned (.string ⟨(Lib.decDigits q ++ [UInt8.ofNat (48 + r)]).toArray⟩) ∧ Below w.heap.size w w' := by
  have b0 : (0 : Int) ≤ p := by omega
  have b9 : p < 10000 := by omega
  have b10 : ¬ p < 10 := by omega
  have e1 : p % 10 = (r : Int) := by omega
  have e2 : p / 10 = (q : Int) := by omega
  have m1 : p.tmod 10 = (r : Int) := by rw [Int.tmod_eq_emod_of_nonneg b0]; exact e1
  have m2 : p.tdiv 10 = (q : Int) := by rw [Int.tdiv_eq_ediv_of_nonneg b0]; exact e2
  have m3 : IntKind.i64.wrap (q : Int) = (q : Int) := IntWalk.i64_in _ (by omega)
  have m4 : IntKind.i64.wrap (48 + (r : Int)) = 48 + (r : Int) := IntWalk.i64_in _ (by omega)
  have m5 : IntKind.u8.wrap (48 + (r : Int)) = 48 + (r : Int) := IntWalk.u8_in _ (by omega)
  have b1 : (0 : Int) ≤ (r : Int) := by omega
  have b2 : (r : Int) < 10 := by omega
  have hs : ¬ 9223372036854775807 < (Lib.decDigits q).length + 1 := by
    have := decDigits_len3 q hq9
    omega
  have hcv : ∀ (W : World) (b : Nat), W.cell? ⟨b, 0, none⟩ = some (.int .u8 (48 + (r : Int))) → (convert 41 9 (.slice (some ⟨b, 0, none⟩) 1 1)).run Tryd.prog W = .ok (.string ⟨[UInt8.ofNat (48 + r)].toArray⟩) W := by
    intro W b hc
    exact conv_one (48 + r) W b (by rw [hc]; simp)
  have HAP := Lib.hid (bytes_append (Lib.decDigits q) [UInt8.ofNat (48 + r)])
  clear hp
  go_enter Tryd.func35, Tryd.ntmps35
  go_wp2_with fail
  go_region_with (go_at_call 35; refine (HL.out _).mono ?_; rintro e w1 ⟨rfl, hb1⟩; try have hc1 := cell_after hb1)
  all_goals
    go_wp2
    go_ret
    refine ⟨?_, ?_⟩
    · have h := HAP.out
      simp only [UInt8.ofNat_add] at h ⊢
      first
        | exact congrArg (fun s => Ending.returned (.string s)) h
        | (rw [← h]; rfl)
    · first
        | exact ((Below.refl w.heap.size w).drew.trans hb1).alloc (by have := hb1.size; exact this) _
        | exact ((Below.refl w.heap.size w).drew.alloc (Nat.le_refl _) _).trans (hb1.mono (by simp))

/-- The numeral of a number of at most three digits. -/
theorem l1Num_n (p : Int) (w : World) (h0 : 0 ≤ p) (h9 : p ≤ 999) :
    Calls Tryd.prog 35 #[.int .i64 p] w fun e w' => e = .returned (.string ⟨(Lib.decDigits p.toNat).toArray⟩) ∧ Below w.heap.size w w' := by
  have small : ∀ q : Nat, q < 10 → ∀ w : World, Calls Tryd.prog 35 #[.int .i64 (q : Int)] w fun e w' => e = .returned (.string ⟨(Lib.decDigits q).toArray⟩) ∧ Below w.heap.size w w' := fun q hq w => l1Num_small q hq w
  have two : ∀ q : Nat, q < 100 → ∀ w : World, Calls Tryd.prog 35 #[.int .i64 (q : Int)] w fun e w' => e = .returned (.string ⟨(Lib.decDigits q).toArray⟩) ∧ Below w.heap.size w w' := by
    intro q hq w
    by_cases h : q < 10
    · exact small q h w
    · have := l1Num_qr (q : Int) (q / 10) (q % 10) w (by omega) (by omega) (by omega) (by omega) (Lib.hid (small (q / 10) (by omega)))
      rw [← decDigits_qr (q / 10) (q % 10) (by omega) (by omega), Nat.div_add_mod] at this
      exact this
  obtain ⟨n, rfl⟩ := Int.eq_ofNat_of_zero_le h0
  rw [Int.toNat_natCast]
  by_cases h : n < 100
  · exact two n h w
  · have := l1Num_qr (n : Int) (n / 10) (n % 10) w (by omega) (by omega) (by omega) (by omega) (Lib.hid (two (n / 10) (by omega)))
    rw [← decDigits_qr (n / 10) (n % 10) (by omega) (by omega), Nat.div_add_mod] at this
    exact this
end Go.Proofs.YtfjcnomingbneacDoor
