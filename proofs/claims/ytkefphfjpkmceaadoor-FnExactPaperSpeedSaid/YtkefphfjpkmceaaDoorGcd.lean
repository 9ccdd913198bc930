/- Contracts: fractions in lowest terms, of the model and of the program. -/
import Derived.Test.YtkefphfjpkmceaaDoorSmall
import Derived.LoopTactic
import Derived.Lib.QuietBelow
import Derived.IntWalk
namespace Go.Proofs.YtkefphfjpkmceaaDoor
open Go.RowKit Go.Sort
set_option linter.unusedVariables false
set_option linter.unusedSimpArgs false

theorem tmod_nat (n m : Nat) : ((n : Int)).tmod (m : Int) = ((n % m : Nat) : Int) := by rw [Int.tmod_eq_emod_of_nonneg (by omega)]; rfl
theorem tdiv_nat (n m : Nat) : ((n : Int)).tdiv (m : Int) = ((n / m : Nat) : Int) := by rw [Int.tdiv_eq_ediv_of_nonneg (by omega)]; rfl

set_option maxRecDepth 100000 in
set_option maxHeartbeats 1000000 in
theorem greatest_any (a b : Nat) (w : World) (ha : a ≤ 1000000000) (hb : b ≤ 1000000000) :
    Calls Tryd.prog 23 #[.int .i64 a, .int .i64 b] w fun e w' => e = .returned (.int .i64 (Nat.gcd a b)) ∧ w = w' := by
  go_enter Tryd.func23, Tryd.ntmps23
  go_wp2
  go_loopw [0, 1] (fun x y wr => ∃ m n : Nat, x = .int .i64 m ∧ y = .int .i64 n ∧ Nat.gcd m n = Nat.gcd a b ∧ m ≤ 1000000000 ∧ n ≤ 1000000000 ∧ w = wr)
    (fun x _ _ => (intOf x).toNat)
  case atStart => exact ⟨a, b, rfl, rfl, rfl, ha, hb, rfl⟩
  case round =>
    obtain ⟨m, n, rfl, rfl, hg, hm, hn, rfl⟩ := hrel
    have HG := Lib.hid hg
    clear hg
    by_cases h0 : m = 0
    · subst h0
      go_wp2
      go_ret
      exact ⟨ret_int (by rw [← HG.out]; simp), rfl⟩
    · have h1 : (m : Int) ≠ 0 := by omega
      have h2 := tmod_nat n m
      have h3 : n % m < m := Nat.mod_lt _ (by omega)
      have hr : Nat.gcd (n % m) m = Nat.gcd m n := (Nat.gcd_rec m n).symm
      have HR := Lib.hid hr
      clear hr
      go_wp2
      go_roundw
      case rel => exact ⟨n % m, m, by first | rfl | (simp; done) | go_num, rfl, HR.out.trans HG.out, by omega, hm, by first | rfl | trivial⟩
      case measure => simp [intOf]; omega

set_option maxRecDepth 100000 in
set_option maxHeartbeats 1000000 in
theorem lowest_any (a b G : Nat) (w : World) (hG : Nat.gcd a b = G) (ha : a ≤ 1000000000) (hb : b ≤ 1000000000) (hb0 : 0 < b) :
    Calls Tryd.prog 17 #[.int .i64 a, .int .i64 b] w fun e w' => e = .returned (.tuple #[.int .i64 ((a : Int) / (G : Int)), .int .i64 ((b : Int) / (G : Int))]) ∧ Below w.heap.size w w' := by
  have hg : 0 < G := by rw [← hG]; exact Nat.gcd_pos_of_pos_right _ hb0
  have hgl : G ≤ b := by rw [← hG]; exact Nat.gcd_le_right _ hb0
  have c1 : (a : Int) / (G : Int) = ((a / G : Nat) : Int) := rfl
  have c2 : (b : Int) / (G : Int) = ((b / G : Nat) : Int) := rfl
  have d1 : a / G ≤ a := Nat.div_le_self _ _
  have d2 : b / G ≤ b := Nat.div_le_self _ _
  have r1 : 0 ≤ (a : Int) / (G : Int) := by rw [c1]; first | exact Int.natCast_nonneg _ | omega
  have r2 : (a : Int) / (G : Int) ≤ 1000000000 := by rw [c1]; first | exact Int.natCast_nonneg _ | omega
  have r3 : 0 ≤ (b : Int) / (G : Int) := by rw [c2]; first | exact Int.natCast_nonneg _ | omega
  have r4 : (b : Int) / (G : Int) ≤ 1000000000 := by rw [c2]; first | exact Int.natCast_nonneg _ | omega
  have h1 : (G : Int) ≠ 0 := by omega
  have h2 : (G : Int) ≠ -1 := by omega
  clear c1 c2 d1 d2
  go_enter Tryd.func17, Tryd.ntmps17
  go_wp2_with fail
  refine (greatest_any a b _ ha hb).mono ?_
  rintro e w1 ⟨rfl, rfl⟩
  rw [hG]
  go_wp2_with fail
  go_region
  go_wp2
  go_ret2
  exact ⟨by first | rfl | simp, by first | exact (Below.refl _ _).drew | exact Below.refl _ _⟩

set_option maxRecDepth 100000 in
set_option maxHeartbeats 1000000 in
theorem tePart_any (a b G : Nat) (w : World) (hG : Nat.gcd a b = G) (ha : a ≤ 1000000000) (hb : b ≤ 1000000000) (hb0 : 0 < b) :
    Calls Tryd.prog 12 #[.int .i64 a, .int .i64 b] w fun e w' => e = .returned (.tuple #[.int .i64 ((a : Int) / (G : Int)), .int .i64 ((b : Int) / (G : Int))]) ∧ Below w.heap.size w w' := by
  have hgp : 0 < G := by rw [← hG]; exact Nat.gcd_pos_of_pos_right _ hb0
  have hgl : G ≤ b := by rw [← hG]; exact Nat.gcd_le_right _ hb0
  have c1 : (a : Int) / (G : Int) = ((a / G : Nat) : Int) := rfl
  have c2 : (b : Int) / (G : Int) = ((b / G : Nat) : Int) := rfl
  have d1 : a / G ≤ a := Nat.div_le_self _ _
  have d2 : b / G ≤ b := Nat.div_le_self _ _
  have r1 : 0 ≤ (a : Int) / (G : Int) := by rw [c1]; first | exact Int.natCast_nonneg _ | omega
  have r2 : (a : Int) / (G : Int) ≤ 1000000000 := by rw [c1]; first | exact Int.natCast_nonneg _ | omega
  have r3 : 0 ≤ (b : Int) / (G : Int) := by rw [c2]; first | exact Int.natCast_nonneg _ | omega
  have r4 : (b : Int) / (G : Int) ≤ 1000000000 := by rw [c2]; first | exact Int.natCast_nonneg _ | omega
  have h1 : (G : Int) ≠ 0 := by omega
  have h2 : (G : Int) ≠ -1 := by omega
  clear c1 c2 d1 d2
  go_enter Tryd.func12, Tryd.ntmps12
  go_wp2
  go_loopw [6, 7] (fun x y wr => ∃ m n : Nat, x = .int .i64 m ∧ y = .int .i64 n ∧ Nat.gcd m n = G ∧ m ≤ 1000000000 ∧ n ≤ 1000000000 ∧ w = wr)
    (fun _ y _ => (intOf y).toNat)
  case atStart => exact ⟨a, b, rfl, rfl, hG, ha, hb, rfl⟩
  case round =>
    obtain ⟨m, n, rfl, rfl, hg, hm, hn, rfl⟩ := hrel
    have HG := Lib.hid hg
    clear hg
    by_cases h0 : n = 0
    · subst h0
      obtain rfl : m = G := by rw [← HG.out]; simp
      go_wp2_with fail
      go_region
      go_wp2
      go_ret2
      exact ⟨by first | rfl | simp, by first | exact (Below.refl _ _).drew | exact Below.refl _ _⟩
    · have k1 : (n : Int) ≠ 0 := by omega
      have k0 : (0 : Int) < (n : Int) := by omega
      have k2 := tmod_nat m n
      have k3 : m % n < n := Nat.mod_lt _ (by omega)
      have hr : Nat.gcd n (m % n) = Nat.gcd m n := by rw [Nat.gcd_comm n, ← Nat.gcd_rec, Nat.gcd_comm]
      have HR := Lib.hid hr
      clear hr
      go_wp2
      go_roundw
      case rel => exact ⟨n, m % n, rfl, by first | rfl | (simp; done) | go_num, HR.out.trans HG.out, hn, by omega, by first | rfl | trivial⟩
      case measure => simp [intOf]; omega
end Go.Proofs.YtkefphfjpkmceaaDoor
