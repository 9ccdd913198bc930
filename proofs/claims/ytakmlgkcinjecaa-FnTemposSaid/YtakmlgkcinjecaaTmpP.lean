/- Plain: tempos, the change of a step, the times of steps. Nothing of the program. -/
import Derived.Test.YtakmlgkcinjecaaPlain2
import Derived.Test.YtakmlgkcinjecaaSmall
namespace Go.Proofs.Ytakmlgkcinjecaa
open Go.RowKit
set_option linter.unusedVariables false

/-- A change's step and how long a step lasts. -/
def chB (x : Nt2) : Bool := inR x.1 0 2000 && inR x.2 1000 1000000
theorem chB_iff (x : Nt2) : chB x = true ↔ (0 ≤ x.1 ∧ x.1 ≤ 2000) ∧ (1000 ≤ x.2 ∧ x.2 ≤ 1000000) := by simp [chB, inR]
def stp (l : List Nt2) (i : Nat) : Int := (l[i]?.getD (0, 0)).1
def lst (l : List Nt2) (i : Nat) : Int := (l[i]?.getD (0, 0)).2
theorem stp_of {l : List Nt2} {i : Nat} {x : Nt2} (h : l[i]? = some x) : stp l i = x.1 := by simp [stp, h]
theorem lst_of {l : List Nt2} {i : Nat} {x : Nt2} (h : l[i]? = some x) : lst l i = x.2 := by simp [lst, h]

/-- Change i is valid and stands behind the one before; the first one is at 0. -/
def okAt (l : List Nt2) (i : Nat) : Bool := chB (stp l i, lst l i) && (if i = 0 then decide (stp l i = 0) else decide (stp l (i - 1) < stp l i))
def goodT (l : List Nt2) : Bool := (decide (1 ≤ l.length) && decide (l.length ≤ 20)) && (List.range l.length).all (okAt l)
theorem goodT_iff (l : List Nt2) : goodT l = true ↔ (1 ≤ l.length ∧ l.length ≤ 20) ∧ ∀ i, i < l.length → okAt l i = true := by
  simp [goodT]
theorem goodT_false {l : List Nt2} {i : Nat} (h : i < l.length) (hx : okAt l i = false) : goodT l = false := by
  cases hg : goodT l with
  | false => rfl
  | true => have := ((goodT_iff l).1 hg).2 i h; rw [hx] at this; cases this
theorem goodT_len {l : List Nt2} (h : l.length < 1 ∨ 20 < l.length) : goodT l = false := by
  cases hg : goodT l with
  | false => rfl
  | true => have := ((goodT_iff l).1 hg).1; omega
theorem goodT_true {l : List Nt2} (h : 1 ≤ l.length) (h' : l.length ≤ 20) (hg : ∀ i, i < l.length → okAt l i = true) : goodT l = true :=
  (goodT_iff l).2 ⟨⟨h, h'⟩, hg⟩
theorem okAt_iff (l : List Nt2) (i : Nat) : okAt l i = true ↔ ((0 ≤ stp l i ∧ stp l i ≤ 2000) ∧ (1000 ≤ lst l i ∧ lst l i ≤ 1000000)) ∧ (if i = 0 then stp l i = 0 else stp l (i - 1) < stp l i) := by
  unfold okAt
  rw [Bool.and_eq_true, chB_iff]
  by_cases h : i = 0 <;> simp [h]

/-- What valid tempos are, in numbers. -/
structure Tmp (l : List Nt2) : Prop where
  pos : 1 ≤ l.length
  few : l.length ≤ 20
  zero : stp l 0 = 0
  step : ∀ i, i < l.length → 0 ≤ stp l i ∧ stp l i ≤ 2000
  last : ∀ i, i < l.length → 1000 ≤ lst l i ∧ lst l i ≤ 1000000
  up : ∀ i, i + 1 < l.length → stp l i < stp l (i + 1)
theorem goodT.tmp {l : List Nt2} (h : goodT l = true) : Tmp l := by
  obtain ⟨⟨h1, h2⟩, h3⟩ := (goodT_iff l).1 h
  have h4 := fun i hi => (okAt_iff l i).1 (h3 i hi)
  refine ⟨h1, h2, ?_, fun i hi => (h4 i hi).1.1, fun i hi => (h4 i hi).1.2, fun i hi => ?_⟩
  · have := (h4 0 (by omega)).2; simpa using this
  · have := (h4 (i + 1) hi).2; simpa using this
theorem Tmp.good {l : List Nt2} (h : Tmp l) : goodT l = true := by
  refine goodT_true h.pos h.few fun i hi => (okAt_iff l i).2 ⟨⟨h.step i hi, h.last i hi⟩, ?_⟩
  by_cases hi0 : i = 0
  · rw [if_pos hi0, hi0]; exact h.zero
  · rw [if_neg hi0]
    have := h.up (i - 1) (by omega)
    rwa [show i - 1 + 1 = i from by omega] at this
theorem Tmp.mono {l : List Nt2} (h : Tmp l) {i j : Nat} (hij : i < j) (hj : j < l.length) : stp l i < stp l j := by
  induction j with
  | zero => omega
  | succ j ih =>
    have hu := h.up j hj
    rcases Nat.lt_or_ge i j with hi | hi
    · have := ih hi (by omega); omega
    · obtain rfl : i = j := by omega
      exact hu

/-- The last one of the first k changes that is not behind a step, as the program looks for it. -/
def lastUp (l : List Nt2) (s : Int) : Nat → Nat
  | 0 => 0
  | k + 1 => if stp l k ≤ s then k else lastUp l s k
/-- The change of a step. -/
def atT (l : List Nt2) (s : Int) : Nat := lastUp l s l.length
theorem lastUp_lt (l : List Nt2) (s : Int) (k : Nat) (h : 0 < k) : lastUp l s k < k := by
  induction k with
  | zero => omega
  | succ k ih =>
    unfold lastUp
    split
    · omega
    · rcases Nat.eq_zero_or_pos k with h | h
      · subst h; simp [lastUp]
      · have := ih h; omega
theorem lastUp_le {l : List Nt2} {s : Int} (h0 : stp l 0 ≤ s) (k : Nat) : stp l (lastUp l s k) ≤ s := by
  induction k with
  | zero => exact h0
  | succ k ih =>
    unfold lastUp
    split
    · assumption
    · exact ih
theorem lastUp_gt {l : List Nt2} {s : Int} (k i : Nat) (h : lastUp l s k < i) (hi : i < k) : s < stp l i := by
  induction k with
  | zero => omega
  | succ k ih =>
    unfold lastUp at h
    split at h
    · omega
    · rcases Nat.lt_or_ge i k with h' | h'
      · exact ih h h'
      · obtain rfl : i = k := by omega
        omega
theorem atT_lt {l : List Nt2} (h : 1 ≤ l.length) (s : Int) : atT l s < l.length := lastUp_lt l s _ h
theorem atT_le {l : List Nt2} (h : Tmp l) {s : Int} (h0 : 0 ≤ s) : stp l (atT l s) ≤ s := lastUp_le (by rw [h.zero]; exact h0) _
theorem atT_gt {l : List Nt2} {s : Int} {i : Nat} (h : atT l s < i) (hi : i < l.length) : s < stp l i := lastUp_gt _ _ h hi
/-- The change of a step is the only one that is not behind it while the next one is. -/
theorem atT_uniq {l : List Nt2} (h : Tmp l) {s : Int} (h0 : 0 ≤ s) {j : Nat} (hj : j < l.length) (hle : stp l j ≤ s) (hgt : ∀ i, j < i → i < l.length → s < stp l i) : atT l s = j := by
  rcases Nat.lt_trichotomy (atT l s) j with hlt | heq | hgt'
  · have := atT_gt hlt hj; omega
  · exact heq
  · have := hgt _ hgt' (atT_lt h.pos s); have := atT_le h h0; omega

/-- The time of the first m changes up to step s, of which the last is change j. -/
def tmT (l : List Nt2) (s : Int) (j : Nat) : Nat → Int
  | 0 => 0
  | m + 1 => tmT l s j m + ((if m < j then stp l (m + 1) else s) - stp l m) * lst l m
/-- The time at which a step begins. -/
def timeT (l : List Nt2) (s : Int) : Int := tmT l s (atT l s) (atT l s + 1)

theorem mul_bnd {a b A B : Int} (h0 : 0 ≤ a) (h1 : a ≤ A) (h2 : 0 ≤ b) (h3 : b ≤ B) : 0 ≤ a * b ∧ a * b ≤ A * B :=
  ⟨Int.mul_nonneg h0 h2, Int.mul_le_mul h1 h3 h2 (by omega)⟩
theorem tmT_part {l : List Nt2} (h : Tmp l) {s : Int} (h0 : 0 ≤ s) (hs : s ≤ 2000) {m : Nat} (hm : m ≤ atT l s) :
    0 ≤ ((if m < atT l s then stp l (m + 1) else s) - stp l m) ∧ ((if m < atT l s then stp l (m + 1) else s) - stp l m) ≤ 2000 ∧ 0 ≤ ((if m < atT l s then stp l (m + 1) else s) - stp l m) * lst l m ∧ ((if m < atT l s then stp l (m + 1) else s) - stp l m) * lst l m ≤ 2000000000 := by
  have hj := atT_lt h.pos s
  have hx := h.step m (by omega)
  have hl := h.last m (by omega)
  have hd : 0 ≤ ((if m < atT l s then stp l (m + 1) else s) - stp l m) ∧ ((if m < atT l s then stp l (m + 1) else s) - stp l m) ≤ 2000 := by
    split
    · have := h.step (m + 1) (by omega); have := h.up m (by omega); omega
    · obtain rfl : m = atT l s := by omega
      have := atT_le h h0; omega
  have := mul_bnd hd.1 hd.2 (show 0 ≤ lst l m by omega) hl.2
  exact ⟨hd.1, hd.2, this.1, by omega⟩
theorem tmT_bnd {l : List Nt2} (h : Tmp l) {s : Int} (h0 : 0 ≤ s) (hs : s ≤ 2000) {m : Nat} (hm : m ≤ atT l s + 1) : 0 ≤ tmT l s (atT l s) m ∧ tmT l s (atT l s) m ≤ 2000000000 * m := by
  induction m with
  | zero => simp [tmT]
  | succ m ih =>
    have a := ih (by omega)
    have b := tmT_part h h0 hs (m := m) (by omega)
    simp only [tmT]
    omega
theorem timeT_bnd {l : List Nt2} (h : Tmp l) {s : Int} (h0 : 0 ≤ s) (hs : s ≤ 2000) : 0 ≤ timeT l s ∧ timeT l s ≤ 40000000000 := by
  have a := tmT_bnd h h0 hs (m := atT l s + 1) (Nat.le_refl _)
  have b := atT_lt h.pos s
  have c := h.few
  unfold timeT
  omega

/-- The time at which a change begins does not depend on the step that is asked for. -/
theorem tmT_same {l : List Nt2} (s s' : Int) (j j' m : Nat) (hj : m ≤ j) (hj' : m ≤ j') : tmT l s j m = tmT l s' j' m := by
  induction m with
  | zero => rfl
  | succ m ih =>
    simp only [tmT]
    rw [ih (by omega) (by omega), if_pos (by omega), if_pos (by omega)]
/-- A step later is one step's length later. -/
theorem timeT_succ {l : List Nt2} (h : Tmp l) {s : Int} (h0 : 0 ≤ s) : timeT l (s + 1) = timeT l s + lst l (atT l s) := by
  have hj := atT_lt h.pos s
  have hle := atT_le h h0
  by_cases hn : atT l s + 1 < l.length ∧ stp l (atT l s + 1) = s + 1
  · obtain ⟨hn, hs⟩ := hn
    have e : atT l (s + 1) = atT l s + 1 := by
      refine atT_uniq h (by omega) hn (by omega) fun i hi hl => ?_
      have := h.mono hi hl; omega
    unfold timeT
    rw [e]
    have e1 : tmT l (s + 1) (atT l s + 1) (atT l s + 1) = tmT l s (atT l s) (atT l s + 1) + lst l (atT l s) := by
      simp only [tmT]
      rw [tmT_same (s + 1) s (atT l s + 1) (atT l s) (atT l s) (by omega) (Nat.le_refl _), if_pos (by omega), if_neg (by omega), hs]
      have : (s + 1 - stp l (atT l s)) * lst l (atT l s) = (s - stp l (atT l s)) * lst l (atT l s) + lst l (atT l s) := by
        rw [show s + 1 - stp l (atT l s) = (s - stp l (atT l s)) + 1 by omega, Int.add_mul, Int.one_mul]
      omega
    show tmT l (s + 1) (atT l s + 1) (atT l s + 1) + ((if atT l s + 1 < atT l s + 1 then stp l (atT l s + 1 + 1) else s + 1) - stp l (atT l s + 1)) * lst l (atT l s + 1) = _
    rw [e1, if_neg (by omega), hs]
    simp
  · have e : atT l (s + 1) = atT l s := by
      refine atT_uniq h (by omega) hj (by omega) fun i hi hl => ?_
      have h1 := atT_gt hi hl
      rcases Nat.lt_or_ge (atT l s + 1) i with h2 | h2
      · have h3 := h.mono h2 hl
        have h4 := atT_gt (show atT l s < atT l s + 1 by omega) (show atT l s + 1 < l.length by omega)
        omega
      · obtain rfl : i = atT l s + 1 := by omega
        have : stp l (atT l s + 1) ≠ s + 1 := fun e => hn ⟨hl, e⟩
        omega
    unfold timeT
    rw [e]
    simp only [tmT]
    rw [tmT_same (s + 1) s (atT l s) (atT l s) (atT l s) (Nat.le_refl _) (Nat.le_refl _), if_neg (by omega), if_neg (by omega)]
    have : (s + 1 - stp l (atT l s)) * lst l (atT l s) = (s - stp l (atT l s)) * lst l (atT l s) + lst l (atT l s) := by
      rw [show s + 1 - stp l (atT l s) = (s - stp l (atT l s)) + 1 by omega, Int.add_mul, Int.one_mul]
    omega
theorem timeT_up {l : List Nt2} (h : Tmp l) (a b : Nat) (hab : a < b) : timeT l a < timeT l b := by
  induction b with
  | zero => omega
  | succ b ih =>
    have e := timeT_succ h (show (0 : Int) ≤ (b : Int) by omega)
    have := h.last _ (atT_lt h.pos (b : Int))
    have e' : timeT l ((b + 1 : Nat) : Int) = timeT l ((b : Int) + 1) := by congr 1
    rcases Nat.lt_or_ge a b with h' | h'
    · have := ih h'; omega
    · obtain rfl : a = b := by omega
      omega

end Go.Proofs.Ytakmlgkcinjecaa
