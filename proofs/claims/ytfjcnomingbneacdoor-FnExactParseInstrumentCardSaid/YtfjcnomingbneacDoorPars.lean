/- Plain facts for the parsers: digits and their value, cuts and splits of byte lists, names of pitches. Nothing of the program's code. -/
import Derived.Test.YtfjcnomingbneacDoorText
import Derived.Lib.Join
namespace Go.Proofs.YtfjcnomingbneacDoor
set_option linter.unusedVariables false
set_option linter.unusedSimpArgs false

def isDig (c : UInt8) : Bool := decide (48 ≤ c.toNat) && decide (c.toNat ≤ 57)
def valL (s : List UInt8) : Nat := s.foldl (fun a c => 10 * a + (c.toNat - 48)) 0
theorem valL_snoc (s : List UInt8) (c : UInt8) : valL (s ++ [c]) = 10 * valL s + (c.toNat - 48) := by simp [valL]
theorem dig_toNat (r : Nat) (h : r < 10) : (UInt8.ofNat (48 + r)).toNat = 48 + r := by
  rw [UInt8.toNat_ofNat']; omega
theorem isDig_of (r : Nat) (h : r < 10) : isDig (UInt8.ofNat (48 + r)) = true := by simp [isDig, dig_toNat r h]; omega
theorem dec_ind {P : Nat → Prop} (h0 : ∀ n, n < 10 → P n) (h1 : ∀ n, ¬ n < 10 → P (n / 10) → P n) : ∀ n, P n := by
  intro n
  induction n using Nat.strongRecOn with
  | _ n ih =>
    by_cases h : n < 10
    · exact h0 n h
    · exact h1 n h (ih (n / 10) (by omega))
theorem dec_digs (n : Nat) : ∀ c ∈ Lib.decDigits n, isDig c = true := by
  refine dec_ind (P := fun n => ∀ c ∈ Lib.decDigits n, isDig c = true) ?_ ?_ n
  · intro n h c hc
    rw [decDigits_small h] at hc
    simp only [List.mem_singleton] at hc
    subst hc
    exact isDig_of n h
  · intro n h ih c hc
    rw [decDigits_big h, List.mem_append] at hc
    rcases hc with hc | hc
    · exact ih c hc
    · simp only [List.mem_singleton] at hc
      subst hc
      exact isDig_of _ (by omega)
theorem dec_val (n : Nat) : valL (Lib.decDigits n) = n := by
  refine dec_ind (P := fun n => valL (Lib.decDigits n) = n) ?_ ?_ n
  · intro n h
    rw [decDigits_small h]
    simp only [valL, List.foldl_cons, List.foldl_nil, dig_toNat n h]
    omega
  · intro n h ih
    rw [decDigits_big h, valL_snoc, ih, dig_toNat _ (by omega)]
    omega
theorem dec_inj {a b : Nat} (h : Lib.decDigits a = Lib.decDigits b) : a = b := by
  rw [← dec_val a, h, dec_val]
theorem dec_ne (n : Nat) : Lib.decDigits n ≠ [] := by
  by_cases h : n < 10
  · rw [decDigits_small h]; simp
  · rw [decDigits_big h]; simp
/-- A row of digits without a leading zero (or one digit) is the numeral of its value. -/
def plainNum (s : List UInt8) : Bool := s.all isDig && decide (s ≠ []) && (decide (s.head? ≠ some 48) || decide (s.length = 1))
theorem valL_pos (s : List UInt8) (hd : s.all isDig = true) (hn : s ≠ []) (h0 : s.head? ≠ some 48) : 0 < valL s := by
  have mono : ∀ (s : List UInt8) (a : Nat), a ≤ s.foldl (fun a c => 10 * a + (c.toNat - 48)) a := by
    intro s
    induction s with
    | nil => intro a; exact Nat.le_refl _
    | cons c s ih =>
      intro a
      have := ih (10 * a + (c.toNat - 48))
      simp only [List.foldl_cons]
      omega
  cases s with
  | nil => exact absurd rfl hn
  | cons c s =>
    have hc : isDig c = true := by simp at hd; exact hd.1
    have hne : c.toNat ≠ 48 := by
      intro e
      apply h0
      simp only [List.head?_cons, Option.some.injEq]
      exact UInt8.toNat_inj.1 (by rw [e]; rfl)
    simp only [isDig, Bool.and_eq_true, decide_eq_true_eq] at hc
    have := mono s (10 * 0 + (c.toNat - 48))
    simp only [valL, List.foldl_cons]
    omega
theorem ofNat_dig (c : UInt8) (h : isDig c = true) : UInt8.ofNat (48 + (c.toNat - 48)) = c := by
  simp only [isDig, Bool.and_eq_true, decide_eq_true_eq] at h
  apply UInt8.toNat_inj.1
  rw [dig_toNat _ (by omega)]
  omega
theorem dec_of_plain : ∀ (n : Nat) (s : List UInt8), s.length = n → plainNum s = true → Lib.decDigits (valL s) = s := by
  intro n
  induction n with
  | zero =>
    intro s hl h
    have : s = [] := List.length_eq_zero_iff.1 hl
    subst this
    simp [plainNum] at h
  | succ n ih =>
    intro s hl h
    simp only [plainNum, Bool.and_eq_true, Bool.or_eq_true, decide_eq_true_eq] at h
    obtain ⟨⟨hd, hne⟩, h0⟩ := h
    obtain ⟨t, c, rfl⟩ : ∃ t c, s = t ++ [c] := ⟨s.dropLast, s.getLast hne, (List.dropLast_concat_getLast hne).symm⟩
    have hlt : t.length = n := by simpa using hl
    have hdt : t.all isDig = true ∧ isDig c = true := by
      rw [List.all_append, Bool.and_eq_true] at hd
      exact ⟨hd.1, by simpa using hd.2⟩
    have hc := hdt.2
    simp only [isDig, Bool.and_eq_true, decide_eq_true_eq] at hc
    rw [valL_snoc]
    by_cases ht : t = []
    · subst ht
      rw [decDigits_small (by simp [valL]; omega)]
      simp only [valL, List.foldl_nil, List.nil_append, Nat.mul_zero, Nat.zero_add]
      rw [ofNat_dig c hdt.2]
    · have hh : t.head? ≠ some 48 := by
        rcases h0 with h0 | h0
        · intro e
          apply h0
          cases t with
          | nil => exact absurd rfl ht
          | cons x t => simpa using e
        · simp only [List.length_append, List.length_cons, List.length_nil] at h0
          have := List.length_pos_iff.2 ht
          omega
      have hp := valL_pos t hdt.1 ht hh
      have hpl : plainNum t = true := by simp [plainNum, hh, ht]; simpa using hdt.1
      rw [decDigits_big (by omega)]
      have e1 : (10 * valL t + (c.toNat - 48)) / 10 = valL t := by omega
      have e2 : (10 * valL t + (c.toNat - 48)) % 10 = c.toNat - 48 := by omega
      rw [e1, e2, ih t hlt hpl, ofNat_dig c hdt.2]
theorem plain_dec (n : Nat) : plainNum (Lib.decDigits n) = true := by
  have hd : (Lib.decDigits n).all isDig = true := List.all_eq_true.2 (dec_digs n)
  have h0 : (Lib.decDigits n).head? ≠ some 48 ∨ (Lib.decDigits n).length = 1 := by
    refine dec_ind (P := fun n => (Lib.decDigits n).head? ≠ some 48 ∨ (Lib.decDigits n).length = 1) ?_ ?_ n
    · intro n h; right; rw [decDigits_small h]; rfl
    · intro n h ih
      left
      rw [decDigits_big h]
      rcases ih with ih | ih
      · cases hc : Lib.decDigits (n / 10) with
        | nil => exact absurd hc (dec_ne _)
        | cons x t => rw [hc] at ih; simpa using ih
      · by_cases h10 : n / 10 < 10
        · rw [decDigits_small h10]
          simp only [List.singleton_append, List.head?_cons, ne_eq, Option.some.injEq]
          intro e
          have := congrArg UInt8.toNat e
          rw [dig_toNat _ h10] at this
          have h48 : (48 : UInt8).toNat = 48 := rfl
          omega
        · rw [decDigits_big h10] at ih
          simp only [List.length_append, List.length_cons, List.length_nil] at ih
          have := List.length_pos_iff.2 (dec_ne (n / 10 / 10))
          omega
  simp only [plainNum, Bool.and_eq_true, Bool.or_eq_true, decide_eq_true_eq]
  exact ⟨⟨hd, dec_ne n⟩, h0⟩
theorem valL_lt (s : List UInt8) (hd : s.all isDig = true) : valL s < 10 ^ s.length := by
  have key : ∀ (n : Nat) (s : List UInt8), s.length = n → s.all isDig = true → valL s < 10 ^ s.length := by
    intro n
    induction n with
    | zero =>
      intro s hl _
      have : s = [] := List.length_eq_zero_iff.1 hl
      subst this
      simp [valL]
    | succ n ih =>
      intro s hl hd
      have hne : s ≠ [] := by intro e; subst e; simp at hl
      obtain ⟨t, c, rfl⟩ : ∃ t c, s = t ++ [c] := ⟨s.dropLast, s.getLast hne, (List.dropLast_concat_getLast hne).symm⟩
      have hlt : t.length = n := by simpa using hl
      rw [List.all_append, Bool.and_eq_true] at hd
      have hc : isDig c = true := by simpa using hd.2
      simp only [isDig, Bool.and_eq_true, decide_eq_true_eq] at hc
      have := ih t hlt hd.1
      rw [valL_snoc, List.length_append, List.length_singleton, Nat.pow_succ]
      omega
  exact key s.length s rfl hd
/-- What the model reads of a word: its value, or -1. -/
def readL (s : List UInt8) : Int := if plainNum s = true ∧ s.length ≤ 6 then (valL s : Int) else -1
theorem readL_dec (n : Nat) (h : n < 1000) : readL (Lib.decDigits n) = n := by
  have := decDigits_len3 n h
  rw [readL, if_pos ⟨plain_dec n, by omega⟩, dec_val]
theorem readL_some {s : List UInt8} {z : Int} (h : readL s = z) (h0 : 0 ≤ z) : dec z = s := by
  unfold readL at h
  split at h
  · rename_i hp
    subst h
    simpa [dec] using dec_of_plain s.length s rfl hp.1
  · omega

/-- The first b parts a list. -/
def cutB (b : UInt8) : List UInt8 → List UInt8 × List UInt8 × Bool
  | [] => ([], [], false)
  | x :: r => if x = b then ([], r, true) else (x :: (cutB b r).1, (cutB b r).2.1, (cutB b r).2.2)
theorem cutB_at (b : UInt8) (u v : List UInt8) (h : b ∉ u) : cutB b (u ++ b :: v) = (u, v, true) := by
  induction u with
  | nil => simp [cutB]
  | cons x u ih =>
    have hx : x ≠ b := fun e => h (by simp [e])
    rw [List.cons_append, cutB, if_neg hx, ih (fun e => h (by simp [e]))]
theorem cutB_no (b : UInt8) (u : List UInt8) (h : b ∉ u) : cutB b u = (u, [], false) := by
  induction u with
  | nil => rfl
  | cons x u ih =>
    have hx : x ≠ b := fun e => h (by simp [e])
    rw [cutB, if_neg hx, ih (fun e => h (by simp [e]))]
theorem cutB_spec (b : UInt8) (s : List UInt8) : b ∉ (cutB b s).1 ∧ ((cutB b s).2.2 = true → s = (cutB b s).1 ++ b :: (cutB b s).2.1) ∧ ((cutB b s).2.2 = false → (cutB b s).1 = s ∧ (cutB b s).2.1 = []) := by
  induction s with
  | nil => simp [cutB]
  | cons x s ih =>
    by_cases hx : x = b
    · subst hx; simp [cutB]
    · rw [cutB, if_neg hx]
      refine ⟨?_, ?_, ?_⟩
      · simp only [List.mem_cons, not_or]
        exact ⟨fun e => hx e.symm, ih.1⟩
      · intro h; rw [List.cons_append, ← ih.2.1 h]
      · intro h; exact ⟨by rw [(ih.2.2 h).1], (ih.2.2 h).2⟩
/-- All pieces between the b's. -/
def splitB (b : UInt8) : List UInt8 → List (List UInt8)
  | [] => [[]]
  | x :: r => if x = b then [] :: splitB b r else
    match splitB b r with
    | [] => [[x]]
    | h :: t => (x :: h) :: t
theorem splitB_ne (b : UInt8) (s : List UInt8) : splitB b s ≠ [] := by
  cases s with
  | nil => simp [splitB]
  | cons x s =>
    unfold splitB
    split
    · simp
    · split <;> simp
theorem splitB_at (b : UInt8) (u v : List UInt8) (h : b ∉ u) : splitB b (u ++ b :: v) = u :: splitB b v := by
  induction u with
  | nil => simp [splitB]
  | cons x u ih =>
    have hx : x ≠ b := fun e => h (by simp [e])
    rw [List.cons_append, splitB, if_neg hx, ih (fun e => h (by simp [e]))]
theorem splitB_no (b : UInt8) (u : List UInt8) (h : b ∉ u) : splitB b u = [u] := by
  induction u with
  | nil => rfl
  | cons x u ih =>
    have hx : x ≠ b := fun e => h (by simp [e])
    rw [splitB, if_neg hx, ih (fun e => h (by simp [e]))]
theorem splitB_join (b : UInt8) (s : List UInt8) : Lib.join (splitB b s) [b] = s := by
  induction s with
  | nil => rfl
  | cons x s ih =>
    by_cases hx : x = b
    · subst hx
      rw [splitB, if_pos rfl]
      cases hc : splitB x s with
      | nil => exact absurd hc (splitB_ne _ _)
      | cons y r =>
        rw [hc, Lib.join_cons] at ih
        rw [Lib.join_cons, Lib.joinTail]
        simp only [List.map_cons, List.flatten_cons, List.nil_append]
        rw [← ih]
        simp [Lib.joinTail]
    · rw [splitB, if_neg hx]
      cases hc : splitB b s with
      | nil => exact absurd hc (splitB_ne _ _)
      | cons y r =>
        rw [hc, Lib.join_cons] at ih
        simp only
        rw [Lib.join_cons, List.cons_append, ih]
end Go.Proofs.YtfjcnomingbneacDoor
