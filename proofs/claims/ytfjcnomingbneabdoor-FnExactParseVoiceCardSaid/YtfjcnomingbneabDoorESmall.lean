/- Contracts of chapter 3's small functions: divisors, lowest terms, validity of an event, ticks. -/
import Derived.Test.YtfjcnomingbneabDoorEvP
import Derived.Test.YtfjcnomingbneabDoorETwo
import Derived.LoopTactic
import Derived.IntWalk
namespace Go.Proofs.YtfjcnomingbneabDoor
open Go.RowKit
set_option linter.unusedVariables false
set_option linter.unusedSimpArgs false

/-- An event is valid. -/
def evB (p n d : Int) : Bool := (decide (p = 0) || inR p 24 96) && (inR n 1 99 && (inR d 1 16 && decide (gI n d = 1)))

theorem ret_tup2 {a b a' b' : Int} (h : a = a') (k : b = b') : Ending.returned (.tuple #[.int .i64 a, .int .i64 b]) = .returned (.tuple #[.int .i64 a', .int .i64 b']) := by rw [h, k]

set_option maxHeartbeats 1000000 in
theorem greatestDivisor_any (a b : Int) (w : World) (ha : 0 ≤ a) (hb : 0 ≤ b) (ha' : a ≤ 9223372036854775807) (hb' : b ≤ 9223372036854775807) :
    Calls Tryd.prog 89 #[.int .i64 a, .int .i64 b] w fun e w' => e = .returned (.int .i64 (gI a b)) ∧ w = w' := by
  go_enter Tryd.func89, Tryd.ntmps89
  go_wp2
  go_loop [0, 1] (fun x y => ∃ p q : Int, x = .int .i64 p ∧ y = .int .i64 q ∧ 0 ≤ p ∧ 0 ≤ q ∧ p ≤ 9223372036854775807 ∧ q ≤ 9223372036854775807 ∧ gI p q = gI a b) (fun x _ => (intOf x).toNat)
  case atStart => exact ⟨a, b, rfl, rfl, ha, hb, ha', hb', rfl⟩
  case round =>
    obtain ⟨p, q, rfl, rfl, hp, hq, hp', hq', hg⟩ := hrel
    have HG := Lib.hid hg
    clear hg
    by_cases h0 : p = 0
    · subst h0
      go_wp2
      go_ret
      exact ⟨ret_int (by rw [← HG.out, gI_zero hq]), rfl⟩
    · have hne : (p != 0) = true := by simp [h0]
      have hz : (p == 0) = false := by simp [h0]
      have hm : q.tmod p = q % p := Int.tmod_eq_emod_of_nonneg hq
      have h1 : 0 ≤ q % p := Int.emod_nonneg _ h0
      have h2 : q % p < p := Int.emod_lt_of_pos _ (by omega)
      go_wp2
      go_round
      case rel => exact ⟨q % p, p, by first | rfl | rw [hm], rfl, h1, hp, by omega, hp', by rw [gI_step (by omega) hq]; exact HG.out⟩
      case measure => simp [intOf]; omega

set_option maxHeartbeats 400000 in
theorem isRest_any (p n d : Int) (w : World) :
    Calls Tryd.prog 74 #[.agg #[.int .i64 p, .int .i64 n, .int .i64 d]] w fun e w' => e = .returned (.bool (decide (p = 0))) ∧ Below w.heap.size w w' := by
  go_enter Tryd.func74, Tryd.ntmps74
  go_wp2
  go_ret
  exact ⟨ret_bool (by first | rfl | (rw [Bool.eq_iff_iff]; simp)), (Below.refl _ _).alloc (Nat.le_refl _) _⟩

set_option maxHeartbeats 1000000 in
theorem isEventLength_any (n d : Int) (w : World) :
    Calls Tryd.prog 75 #[.int .i64 n, .int .i64 d] w fun e w' => e = .returned (.bool (inR n 1 99 && (inR d 1 16 && decide (gI n d = 1)))) ∧ w = w' := by
  cases h1 : inR n 1 99 with
  | false =>
    go_enter Tryd.func75, Tryd.ntmps75
    go_wp2_with (go_at_call 63; refine (inRange_any _ _ _ _).mono ?_; rintro e w' ⟨rfl, rfl⟩)
    go_ret
    exact ⟨ret_bool (by simp), rfl⟩
  | true =>
    cases h2 : inR d 1 16 with
    | false =>
      go_enter Tryd.func75, Tryd.ntmps75
      go_wp2_with (go_at_call 63; refine (inRange_any _ _ _ _).mono ?_; rintro e w' ⟨rfl, rfl⟩)
      go_ret
      exact ⟨ret_bool (by simp), rfl⟩
    | true =>
      have k1 : 1 ≤ n ∧ n ≤ 99 := by simpa [inR] using h1
      have k2 : 1 ≤ d ∧ d ≤ 16 := by simpa [inR] using h2
      go_enter Tryd.func75, Tryd.ntmps75
      go_wp2_with (first
        | (go_at_call 63; refine (inRange_any _ _ _ _).mono ?_; rintro e w' ⟨rfl, rfl⟩)
        | (go_at_call 89; refine (greatestDivisor_any _ _ _ (by omega) (by omega) (by omega) (by omega)).mono ?_; rintro e w' ⟨rfl, rfl⟩))
      go_ret
      exact ⟨ret_bool (by first | rfl | (rw [Bool.eq_iff_iff]; simp) | simp), rfl⟩

set_option maxHeartbeats 1000000 in
theorem isEvent_any (p n d : Int) (w : World) :
    Calls Tryd.prog 61 #[.agg #[.int .i64 p, .int .i64 n, .int .i64 d]] w fun e w' => e = .returned (.bool (evB p n d)) ∧ Below w.heap.size w w' := by
  unfold evB
  generalize hE : (inR n 1 99 && (inR d 1 16 && decide (gI n d = 1))) = E
  have HE := Lib.hid (fun w => hE ▸ isEventLength_any n d w)
  clear hE
  go_enter Tryd.func61, Tryd.ntmps61
  go_wp2_with fail
  refine (isRest_any _ _ _ _).mono ?_
  rintro e w1 ⟨rfl, hb1⟩
  have hc := fun j => (hb1.cell (p := ⟨w.heap.size, j, none⟩) (by simp)).trans (World.cell?_alloc_new w _ _ j)
  have c0 := (hc 0).trans rfl
  have c1 := (hc 1).trans rfl
  have c2 := (hc 2).trans rfl
  have hB : Below w.heap.size w w1 := ((Below.refl _ _).alloc (Nat.le_refl _) _).trans (hb1.mono (by simp))
  have hlt : w.heap.size < w1.heap.size := Nat.lt_of_lt_of_le (by simp) hb1.size
  clear hc
  by_cases h0 : p = 0
  · have hd : decide (p = 0) = true := by simp [h0]
    go_wp2_with (first
      | (go_at_call 75; refine (HE.out _).mono ?_; rintro e w2 ⟨rfl, rfl⟩))
    go_ret
    exact ⟨ret_bool (by simp [hd, *]), hB⟩
  · have hd : decide (p = 0) = false := by simp [h0]
    cases hp : inR p 24 96 with
    | false =>
      go_wp2_with (first
        | (go_at_call 48; refine (isPitch_any _ _).mono ?_; rintro e w2 ⟨rfl, rfl⟩))
      go_ret
      exact ⟨ret_bool (by simp [hd, *]), hB⟩
    | true =>
      go_wp2_with (first
        | (go_at_call 48; refine (isPitch_any _ _).mono ?_; rintro e w2 ⟨rfl, rfl⟩)
        | (go_at_call 75; refine (HE.out _).mono ?_; rintro e w2 ⟨rfl, rfl⟩))
      go_ret
      exact ⟨ret_bool (by simp [hp]), hB⟩

set_option maxHeartbeats 400000 in
theorem l1Most_any (x y : Int) (w : World) :
    Calls Tryd.prog 83 #[.int .i64 x, .int .i64 y] w fun e w' => e = .returned (.int .i64 (if y < x then x else y)) ∧ w = w' := by
  go_enter Tryd.func83, Tryd.ntmps83
  go_wp2
  all_goals (go_ret; exact ⟨ret_int (by first | rfl | omega | (split <;> omega)), rfl⟩)

set_option maxHeartbeats 400000 in
theorem l1Abs_any (x : Int) (w : World) (h : -9223372036854775807 ≤ x) (h' : x ≤ 9223372036854775807) :
    Calls Tryd.prog 69 #[.int .i64 x] w fun e w' => e = .returned (.int .i64 (x.natAbs : Int)) ∧ w = w' := by
  go_enter Tryd.func69, Tryd.ntmps69
  go_wp2_with (go_at_call 83; refine (l1Most_any _ _ _).mono ?_; rintro e w' ⟨rfl, rfl⟩)
  all_goals (go_ret; exact ⟨ret_int (by first | omega | (split <;> omega)), rfl⟩)

set_option maxHeartbeats 1000000 in
theorem noPart_any (a b : Int) (w : World) (ha : 0 ≤ a) (hb : 0 < b) (ha' : a ≤ 9223372036854775807) (hb' : b ≤ 9223372036854775807) :
    Calls Tryd.prog 55 #[.int .i64 a, .int .i64 b] w fun e w' => e = .returned (.tuple #[.int .i64 (low a b).1, .int .i64 (low a b).2]) ∧ Below w.heap.size w w' := by
  have hs := low_spec ha hb
  have hg0 : 0 < gI a b := hs.1
  have hq1 : a.tdiv (gI a b) = (low a b).1 := Int.tdiv_eq_ediv_of_nonneg ha
  have hq2 : b.tdiv (gI a b) = (low a b).2 := Int.tdiv_eq_ediv_of_nonneg (Int.le_of_lt hb)
  have b1 : 0 ≤ (low a b).1 ∧ (low a b).1 ≤ 9223372036854775807 := ⟨hs.2.2.2.1, Int.le_trans hs.2.2.2.2.2.1 ha'⟩
  have b2 : 0 < (low a b).2 ∧ (low a b).2 ≤ 9223372036854775807 := ⟨hs.2.2.2.2.1, Int.le_trans hs.2.2.2.2.2.2.1 hb'⟩
  have HG0 := Lib.hid hg0
  have HQ1 := Lib.hid hq1
  have HQ2 := Lib.hid hq2
  clear hs hg0 hq1 hq2
  generalize (low a b).1 = x at *
  generalize (low a b).2 = y at *
  have habs : ((a.natAbs : Nat) : Int) = a := by omega
  go_enter Tryd.func55, Tryd.ntmps55
  go_wp2_with (go_at_call 69; refine (l1Abs_any _ _ (by omega) (by omega)).mono ?_; rintro e w' ⟨rfl, rfl⟩; rw [habs])
  go_loop [6, 7] (fun u v => ∃ p q : Int, u = .int .i64 p ∧ v = .int .i64 q ∧ 0 ≤ p ∧ 0 ≤ q ∧ p ≤ 9223372036854775807 ∧ q ≤ 9223372036854775807 ∧ gI q p = gI a b) (fun _ v => (intOf v).toNat)
  case atStart => exact ⟨a, b, rfl, rfl, ha, by omega, ha', hb', gI_comm _ _⟩
  case round =>
    obtain ⟨p, q, rfl, rfl, hp, hq, hp', hq', hg⟩ := hrel
    have HG := Lib.hid hg
    clear hg
    by_cases h0 : q = 0
    · subst h0
      have hpg : p = gI a b := by rw [← HG.out, gI_zero hp]
      have hg0 := HG0.out
      have hq1 := HQ1.out
      have hq2 := HQ2.out
      rw [← hpg] at hg0 hq1 hq2
      have hgne : (p == 0) = false := by simp; omega
      clear hpg
      go_wp2_with fail
      go_region
      all_goals
        go_wp2
        go_ret2
        exact ⟨rfl, by first | exact Below.refl _ _ | exact (Below.refl _ _).drew⟩
    · have hpos : 0 < q := by omega
      have hz : (q == 0) = false := by simp [h0]
      have hm : p.tmod q = p % q := Int.tmod_eq_emod_of_nonneg hp
      have h1 : 0 ≤ p % q := Int.emod_nonneg _ h0
      have h2 : p % q < q := Int.emod_lt_of_pos _ (by omega)
      go_wp2
      go_round
      case rel => exact ⟨q, p % q, rfl, by first | rfl | rw [hm], hq, h1, hq', by omega, by rw [gI_step (by omega) hp]; exact HG.out⟩
      case measure => simp [intOf]; omega

theorem evB_gcd {n d : Int} (hn : 0 ≤ n) (hd : 0 < d) : decide ((low n d).2 = d) = decide (gI n d = 1) := by
  rw [Bool.eq_iff_iff]; simp only [decide_eq_true_eq]; exact low_gcd_iff hn hd

end Go.Proofs.YtfjcnomingbneabDoor
