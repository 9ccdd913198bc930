/- Plain: fractions in lowest terms, and the lengths of events counted in ticks of 1/720720. Nothing of the program. -/
import Derived.Test.YtfjcnomingbneabDoorSmall
import Derived.Test.YtfjcnomingbneabDoorPlain
namespace Go.Proofs.YtfjcnomingbneabDoor
open Go.RowKit
set_option linter.unusedVariables false

/-- The greatest common divisor of two numbers that are not negative. -/
def gI (a b : Int) : Int := ((Nat.gcd a.toNat b.toNat : Nat) : Int)
/-- A fraction in lowest terms. -/
def low (a b : Int) : Int × Int := (a / gI a b, b / gI a b)

theorem low_uniq {x y x' y' : Nat} (hy : 0 < y) (hy' : 0 < y') (h : x * y' = x' * y) : x / x.gcd y = x' / x'.gcd y' ∧ y / x.gcd y = y' / x'.gcd y' := by
  have hg : 0 < x.gcd y := Nat.gcd_pos_of_pos_right _ hy
  have hg' : 0 < x'.gcd y' := Nat.gcd_pos_of_pos_right _ hy'
  have c := Nat.coprime_div_gcd_div_gcd hg
  have c' := Nat.coprime_div_gcd_div_gcd hg'
  have e1 := Nat.div_mul_cancel (Nat.gcd_dvd_left x y)
  have e2 := Nat.div_mul_cancel (Nat.gcd_dvd_right x y)
  have e3 := Nat.div_mul_cancel (Nat.gcd_dvd_left x' y')
  have e4 := Nat.div_mul_cancel (Nat.gcd_dvd_right x' y')
  generalize x.gcd y = g at *
  generalize x'.gcd y' = g' at *
  generalize x / g = a at *
  generalize y / g = b at *
  generalize x' / g' = a' at *
  generalize y' / g' = b' at *
  subst e1 e2 e3 e4
  have hb : 0 < b := Nat.pos_of_ne_zero (fun h => by subst h; simp at hy)
  have hk : a * b' = a' * b := by
    have : (g * g') * (a * b') = (g * g') * (a' * b) := by
      calc (g * g') * (a * b') = a * g * (b' * g') := by ac_rfl
        _ = a' * g' * (b * g) := h
        _ = (g * g') * (a' * b) := by ac_rfl
    exact Nat.eq_of_mul_eq_mul_left (Nat.mul_pos hg hg') this
  have d1 : b ∣ b' := Nat.Coprime.dvd_of_dvd_mul_left (Nat.Coprime.symm c) (by rw [hk]; exact Nat.dvd_mul_left b a')
  have d2 : b' ∣ b := Nat.Coprime.dvd_of_dvd_mul_left (Nat.Coprime.symm c') (by rw [← hk]; exact Nat.dvd_mul_left b' a)
  have hbb : b = b' := Nat.dvd_antisymm d1 d2
  subst hbb
  exact ⟨Nat.eq_of_mul_eq_mul_right hb hk, rfl⟩

theorem low_nat (a b : Nat) : low (a : Int) (b : Int) = (((a / a.gcd b : Nat) : Int), ((b / a.gcd b : Nat) : Int)) := by
  simp [low, gI]

theorem nat_of {a : Int} (h : 0 ≤ a) : ∃ n : Nat, a = n := ⟨a.toNat, by omega⟩

theorem low_cross {x y x' y' : Int} (hx : 0 ≤ x) (hy : 0 < y) (hx' : 0 ≤ x') (hy' : 0 < y') (h : x * y' = x' * y) : low x y = low x' y' := by
  obtain ⟨a, rfl⟩ := nat_of hx
  obtain ⟨b, rfl⟩ := nat_of (Int.le_of_lt hy)
  obtain ⟨a', rfl⟩ := nat_of hx'
  obtain ⟨b', rfl⟩ := nat_of (Int.le_of_lt hy')
  have h' : a * b' = a' * b := by exact_mod_cast h
  obtain ⟨e1, e2⟩ := low_uniq (by omega) (by omega) h'
  rw [low_nat, low_nat, e1, e2]

/-- What the lowest terms of a fraction are: some h with a = x h, b = y h, without common divisors. -/
theorem low_spec {a b : Int} (ha : 0 ≤ a) (hb : 0 < b) : 0 < gI a b ∧ a = (low a b).1 * gI a b ∧ b = (low a b).2 * gI a b ∧ 0 ≤ (low a b).1 ∧ 0 < (low a b).2 ∧ (low a b).1 ≤ a ∧ (low a b).2 ≤ b ∧ gI (low a b).1 (low a b).2 = 1 := by
  obtain ⟨a, rfl⟩ := nat_of ha
  obtain ⟨b, rfl⟩ := nat_of (Int.le_of_lt hb)
  have hb' : 0 < b := by omega
  have hg : 0 < a.gcd b := Nat.gcd_pos_of_pos_right _ hb'
  have e1 := Nat.div_mul_cancel (Nat.gcd_dvd_left a b)
  have e2 := Nat.div_mul_cancel (Nat.gcd_dvd_right a b)
  have c : (a / a.gcd b).gcd (b / a.gcd b) = 1 := Nat.coprime_div_gcd_div_gcd hg
  have hq : 0 < b / a.gcd b := Nat.pos_of_ne_zero (fun h => by rw [h] at e2; omega)
  rw [low_nat]
  have hgI : gI (a : Int) (b : Int) = ((a.gcd b : Nat) : Int) := by simp [gI]
  rw [hgI]
  dsimp only
  refine ⟨by omega, by exact_mod_cast e1.symm, by exact_mod_cast e2.symm, Int.natCast_nonneg _, by exact_mod_cast hq, by exact_mod_cast Nat.div_le_self _ _, by exact_mod_cast Nat.div_le_self _ _, ?_⟩
  simp only [gI, Int.toNat_natCast]
  rw [c]
  rfl

theorem low_id {a b : Int} (h : gI a b = 1) : low a b = (a, b) := by simp [low, h]
theorem low_zero {b : Int} (hb : 0 < b) : low 0 b = (0, 1) := by
  have : low 0 b = low 0 1 := low_cross (by omega) hb (by omega) (by omega) (by omega)
  rw [this]; rfl
theorem low_gcd_iff {a b : Int} (ha : 0 ≤ a) (hb : 0 < b) : (low a b).2 = b ↔ gI a b = 1 := by
  obtain ⟨hg, e1, e2, _, hp, _⟩ := low_spec ha hb
  constructor
  · intro h
    rw [h] at e2
    have : b * gI a b = b * 1 := by omega
    exact Int.eq_of_mul_eq_mul_left (by omega) this
  · intro h; rw [low_id h]
/-- The order of fractions is that of their lowest terms. -/
theorem low_lt {p q x y : Int} (hp : 0 ≤ p) (hq : 0 < q) (hx : 0 ≤ x) (hy : 0 < y) : (low x y).1 * (low p q).2 < (low p q).1 * (low x y).2 ↔ x * q < p * y := by
  obtain ⟨hg, e1, e2, _⟩ := low_spec hp hq
  obtain ⟨hg', e1', e2', _⟩ := low_spec hx hy
  generalize (low p q).1 = a at *
  generalize (low p q).2 = b at *
  generalize (low x y).1 = a' at *
  generalize (low x y).2 = b' at *
  generalize gI p q = g at *
  generalize gI x y = g' at *
  subst e1 e2 e1' e2'
  have k1 : a' * g' * (b * g) = (a' * b) * (g' * g) := by ac_rfl
  have k2 : a * g * (b' * g') = (a * b') * (g' * g) := by ac_rfl
  rw [k1, k2]
  exact (Int.mul_lt_mul_right (Int.mul_pos hg' hg)).symm

/-- One round of the greatest common divisor. -/
theorem gI_step {a b : Int} (ha : 0 < a) (hb : 0 ≤ b) : gI (b % a) a = gI a b := by
  obtain ⟨a, rfl⟩ := nat_of (Int.le_of_lt ha)
  obtain ⟨b, rfl⟩ := nat_of hb
  have e : ((b : Int) % (a : Int)) = ((b % a : Nat) : Int) := by simp
  rw [e]
  simp only [gI, Int.toNat_natCast]
  rw [Nat.gcd_rec a b]
theorem gI_zero {b : Int} (hb : 0 ≤ b) : gI 0 b = b := by
  obtain ⟨b, rfl⟩ := nat_of hb
  simp [gI]
theorem gI_comm (a b : Int) : gI a b = gI b a := by simp [gI, Nat.gcd_comm]

/-- The ticks of an event: 720720 of them are the length 1. -/
def tk (x : Nt) : Int := x.2.1 * (720720 / x.2.2)
def tks : List Nt → Int
  | [] => 0
  | x :: r => tk x + tks r
theorem tks_append (l m : List Nt) : tks (l ++ m) = tks l + tks m := by
  induction l with
  | nil => simp [tks]
  | cons x l ih => simp [tks, ih]; omega
theorem tks_take {l : List Nt} {k : Nat} {x : Nt} (h : l[k]? = some x) : tks (l.take (k + 1)) = tks (l.take k) + tk x := by
  rw [List.take_add_one, h, tks_append]
  simp [tks]

/-- An event whose length is a whole number of ticks, and not too many. -/
def okT (x : Nt) : Prop := 0 ≤ x.2.1 ∧ 0 < x.2.2 ∧ x.2.2 ∣ 720720 ∧ tk x ≤ 1500000000
theorem okT.tk_eq {x : Nt} (h : okT x) : tk x * x.2.2 = x.2.1 * 720720 := by
  obtain ⟨h1, h2, h3, h4⟩ := h
  have := Int.ediv_mul_cancel h3
  unfold tk
  rw [Int.mul_assoc, this]
theorem okT.bounds {x : Nt} (h : okT x) : 0 ≤ tk x ∧ x.2.1 ≤ tk x ∧ x.2.2 ≤ 720720 := by
  obtain ⟨h1, h2, h3, h4⟩ := h
  have e := Int.ediv_mul_cancel h3
  have hq : 0 < 720720 / x.2.2 := by
    rcases Int.lt_or_le 0 (720720 / x.2.2) with h | h
    · exact h
    · have := Int.mul_le_mul_of_nonneg_right h (Int.le_of_lt h2)
      omega
  refine ⟨Int.mul_nonneg h1 (Int.le_of_lt hq), ?_, Int.le_of_dvd (by omega) h3⟩
  unfold tk
  have := Int.mul_le_mul_of_nonneg_left (show (1 : Int) ≤ 720720 / x.2.2 from hq) h1
  omega
theorem tks_bounds {l : List Nt} (h : ∀ x ∈ l, okT x) : 0 ≤ tks l ∧ tks l ≤ l.length * 1500000000 := by
  induction l with
  | nil => simp [tks]
  | cons x l ih =>
    have h1 := ih (fun y hy => h y (by simp [hy]))
    have h2 := (h x (by simp)).bounds
    have h3 := (h x (by simp)).2.2.2
    simp only [tks, List.length_cons]
    omega

/-- The sum of a fraction in lowest terms and an event's length, in lowest terms again. -/
theorem low_add {T : Int} {x : Nt} (hT : 0 ≤ T) (hx : okT x) : low ((low T 720720).1 * x.2.2 + x.2.1 * (low T 720720).2) ((low T 720720).2 * x.2.2) = low (T + tk x) 720720 := by
  obtain ⟨hg, e1, e2, h0, h1, _⟩ := low_spec hT (show (0 : Int) < 720720 by omega)
  have hb := hx.bounds
  have ht := hx.tk_eq
  obtain ⟨i1, i2, i3, i4⟩ := hx
  refine low_cross (Int.add_nonneg (Int.mul_nonneg h0 (by omega)) (Int.mul_nonneg i1 (by omega))) (Int.mul_pos h1 i2) (by omega) (by omega) ?_
  generalize (low T 720720).1 = a at *
  generalize (low T 720720).2 = b at *
  generalize gI T 720720 = g at *
  obtain ⟨p, n, d⟩ := x
  simp only at *
  generalize tk (p, n, d) = t at *
  subst e1
  have k1 : (a * d + n * b) * 720720 = a * d * 720720 + n * 720720 * b := by
    rw [Int.add_mul]; congr 1; ac_rfl
  rw [k1, ← ht]
  have k2 : (a * g + t) * (b * d) = a * d * (b * g) + t * d * b := by
    rw [Int.add_mul]; congr 1 <;> ac_rfl
  rw [k2, ← e2]

/-- Rounding on a grid is the same for all forms of a fraction. -/
theorem round_low {T g : Int} (hT : 0 ≤ T) : (2 * (low T 720720).1 * g + (low T 720720).2) / (2 * (low T 720720).2) = (2 * T * g + 720720) / (2 * 720720) := by
  obtain ⟨hg, e1, e2, h0, h1, _⟩ := low_spec hT (show (0 : Int) < 720720 by omega)
  generalize (low T 720720).1 = a at *
  generalize (low T 720720).2 = b at *
  generalize gI T 720720 = h at *
  have k : (2 * T * g + 720720) / (2 * 720720) = (h * (2 * a * g + b)) / (h * (2 * b)) := by
    have n1 : 2 * T * g + 720720 = h * (2 * a * g + b) := by
      rw [Int.mul_add, e1]
      conv => lhs; rhs; rw [e2]
      congr 1 <;> ac_rfl
    have n2 : (2 : Int) * 720720 = h * (2 * b) := by
      rw [show h * (2 * b) = 2 * (b * h) by ac_rfl, ← e2]
    rw [n1, n2]
  rw [k, Int.mul_ediv_mul_of_pos _ _ hg]
/-- A time is a whole step of a grid in all forms of it. -/
theorem whole_low {T g : Int} (hT : 0 ≤ T) : (low T 720720).1 * g % (low T 720720).2 = 0 ↔ T * g % 720720 = 0 := by
  obtain ⟨hg, e1, e2, h0, h1, _⟩ := low_spec hT (show (0 : Int) < 720720 by omega)
  generalize (low T 720720).1 = a at *
  generalize (low T 720720).2 = b at *
  generalize gI T 720720 = h at *
  have k : T * g % 720720 = h * (a * g % b) := by
    have n1 : T * g = h * (a * g) := by rw [e1]; ac_rfl
    have n2 : (720720 : Int) = h * b := by rw [Int.mul_comm h b]; exact e2
    rw [n1]
    conv => lhs; rhs; rw [n2]
    exact Int.mul_emod_mul_of_pos _ _ hg
  rw [k]
  constructor
  · intro h'; rw [h']; simp
  · intro h'
    rcases Int.mul_eq_zero.1 h' with h' | h'
    · omega
    · exact h'
/-- The distance from the rounded step, in ticks. -/
def stepOf (T g : Int) : Int := (2 * T * g + 720720) / (2 * 720720)
def offT (T g : Int) : Int := T * g - stepOf T g * 720720
theorem off_bounds (T g : Int) : -360360 ≤ offT T g ∧ offT T g ≤ 360360 := by
  unfold offT stepOf
  have : 2 * T * g = 2 * (T * g) := by rw [Int.mul_assoc]
  rw [this]
  generalize T * g = t
  omega
theorem off_zero (T g : Int) : offT T g = 0 ↔ T * g % 720720 = 0 := by
  unfold offT stepOf
  have : 2 * T * g = 2 * (T * g) := by rw [Int.mul_assoc]
  rw [this]
  generalize T * g = t
  omega
/-- The model's distance, over the denominator of the time. -/
theorem off_low {T g : Int} (hT : 0 ≤ T) : ((low T 720720).1 * g - (low T 720720).2 * stepOf T g) * gI T 720720 = offT T g := by
  obtain ⟨hg, e1, e2, h0, h1, _⟩ := low_spec hT (show (0 : Int) < 720720 by omega)
  unfold offT
  generalize stepOf T g = s
  generalize (low T 720720).1 = a at *
  generalize (low T 720720).2 = b at *
  generalize gI T 720720 = h at *
  rw [Int.sub_mul]
  congr 1
  · rw [e1]; ac_rfl
  · conv => rhs; rhs; rw [e2]
    ac_rfl

end Go.Proofs.YtfjcnomingbneabDoor
