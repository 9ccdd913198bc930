/- Plain: rests that follow each other as one, step by step and by the numbers of notes before them. Nothing of the program. -/
import Derived.Test.YtecbeicppfcofaaVoice
namespace Go.Proofs.Ytecbeicppfcofaa
open Go.RowKit
set_option linter.unusedVariables false

/-- A rest of so many ticks. -/
def restE (t : Int) : Nt := (0, (low t 720720).1, (low t 720720).2)
/-- What is merged for good, and the ticks of the rests that are still going on. -/
abbrev MS := List Nt × Option Int
def flush (s : MS) : List Nt := s.1 ++ (match s.2 with | some t => [restE t] | none => [])
def stepS (s : MS) (x : Nt) : MS := if x.1 = 0 then (s.1, some (s.2.getD 0 + tk x)) else (flush s ++ [x], none)
def stM (l : List Nt) : MS := l.foldl stepS ([], none)
def mrgL (l : List Nt) : List Nt := flush (stM l)
theorem stM_take {l : List Nt} {k : Nat} {x : Nt} (h : l[k]? = some x) : stM (l.take (k + 1)) = stepS (stM (l.take k)) x := by
  rw [List.take_add_one, h]
  simp [stM]

/-- The number of notes, the ticks of the rests behind so many notes, and whether there are any. -/
abbrev RS := Nat × (Nat → Int) × (Nat → Bool)
def stepR (s : RS) (x : Nt) : RS := if x.1 = 0 then (s.1, (fun c => s.2.1 c + if c = s.1 then tk x else 0), (fun c => s.2.2 c || decide (c = s.1))) else (s.1 + 1, s.2.1, s.2.2)
def rsM (l : List Nt) : RS := l.foldl stepR (0, (fun _ => 0), (fun _ => false))
theorem rsM_take {l : List Nt} {k : Nat} {x : Nt} (h : l[k]? = some x) : rsM (l.take (k + 1)) = stepR (rsM (l.take k)) x := by
  rw [List.take_add_one, h]
  simp [rsM]
theorem rsM_nil : rsM [] = (0, (fun _ => 0), (fun _ => false)) := rfl

/-- Behind some notes there are rests just if they are still going on. -/
theorem rs_open (l : List Nt) : (rsM l).2.2 (rsM l).1 = (stM l).2.isSome ∧ (rsM l).2.1 (rsM l).1 = (stM l).2.getD 0 ∧ ∀ c, (rsM l).1 < c → (rsM l).2.1 c = 0 ∧ (rsM l).2.2 c = false := by
  have gen : ∀ (m : List Nt) (s : MS) (r : RS), (r.2.2 r.1 = s.2.isSome ∧ r.2.1 r.1 = s.2.getD 0 ∧ ∀ c, r.1 < c → r.2.1 c = 0 ∧ r.2.2 c = false) →
      ((m.foldl stepR r).2.2 (m.foldl stepR r).1 = (m.foldl stepS s).2.isSome ∧ (m.foldl stepR r).2.1 (m.foldl stepR r).1 = (m.foldl stepS s).2.getD 0 ∧ ∀ c, (m.foldl stepR r).1 < c → (m.foldl stepR r).2.1 c = 0 ∧ (m.foldl stepR r).2.2 c = false) := by
    intro m
    induction m with
    | nil => exact fun s r h => h
    | cons x m ih =>
      intro s r h
      refine ih _ _ ?_
      unfold stepR stepS
      by_cases hx : x.1 = 0
      · simp only [hx, if_pos]
        refine ⟨by simp, by simp [h.2.1], fun c hc => ?_⟩
        have hne : c ≠ r.1 := by omega
        simp [h.2.2 c hc, hne]
      · simp only [if_neg hx]
        refine ⟨by simpa using (h.2.2 (r.1 + 1) (by omega)).2, by simpa using (h.2.2 (r.1 + 1) (by omega)).1, fun c hc => h.2.2 c (by omega)⟩
  exact gen l ([], none) (0, (fun _ => 0), (fun _ => false)) ⟨rfl, rfl, fun c _ => ⟨rfl, rfl⟩⟩
theorem rs_mono (l : List Nt) (k j : Nat) (h : k ≤ j) (hj : j ≤ l.length) : (rsM (l.take k)).1 ≤ (rsM (l.take j)).1 := by
  induction j with
  | zero => have : k = 0 := by omega
            subst this; exact Nat.le_refl _
  | succ j ih =>
    rcases Nat.lt_or_ge k (j + 1) with h' | h'
    · have hx : l[j]? = some l[j] := List.getElem?_eq_getElem (by omega)
      rw [rsM_take hx]
      have := ih (by omega) (by omega)
      unfold stepR
      split
      · exact this
      · simp only; omega
    · have : k = j + 1 := by omega
      subst this; exact Nat.le_refl _
/-- Behind fewer notes than there are, nothing is added any more. -/
theorem rs_closed (l : List Nt) (k j c : Nat) (h : k ≤ j) (hj : j ≤ l.length) (hc : c < (rsM (l.take k)).1) : (rsM (l.take j)).2.1 c = (rsM (l.take k)).2.1 c := by
  induction j with
  | zero => have : k = 0 := by omega
            subst this; rfl
  | succ j ih =>
    rcases Nat.lt_or_ge k (j + 1) with h' | h'
    · have hx : l[j]? = some l[j] := List.getElem?_eq_getElem (by omega)
      rw [rsM_take hx]
      have hm := rs_mono l k j (by omega) (by omega)
      have := ih (by omega) (by omega)
      unfold stepR
      split
      · simp only
        rw [if_neg (by omega), this]
        omega
      · exact this
    · have : k = j + 1 := by omega
      subst this; rfl
theorem rs_has (l : List Nt) (k j c : Nat) (h : k ≤ j) (hj : j ≤ l.length) (hh : (rsM (l.take k)).2.2 c = true) : (rsM (l.take j)).2.2 c = true := by
  induction j with
  | zero => have : k = 0 := by omega
            subst this; exact hh
  | succ j ih =>
    rcases Nat.lt_or_ge k (j + 1) with h' | h'
    · have hx : l[j]? = some l[j] := List.getElem?_eq_getElem (by omega)
      rw [rsM_take hx]
      have := ih (by omega) (by omega)
      unfold stepR
      split
      · simp [this]
      · exact this
    · have : k = j + 1 := by omega
      subst this; exact hh

/-- What the program has merged of the first k events: the rests that go on stand there with all their ticks. -/
def impM (l : List Nt) (k : Nat) : List Nt := (stM (l.take k)).1 ++ (match (stM (l.take k)).2 with | some _ => [restE ((rsM l).2.1 (rsM (l.take k)).1)] | none => [])
theorem impM_zero (l : List Nt) : impM l 0 = [] := rfl
theorem impM_note {l : List Nt} {k : Nat} {x : Nt} (h : l[k]? = some x) (hx : x.1 ≠ 0) : impM l (k + 1) = impM l k ++ [x] := by
  have hk := (List.getElem?_eq_some_iff.1 h).1
  unfold impM
  rw [stM_take h]
  unfold stepS
  rw [if_neg hx]
  simp only [List.append_nil]
  unfold flush
  have ho := rs_open (l.take k)
  have hr := rsM_take h
  have hcl := rs_closed l (k + 1) l.length (rsM (l.take k)).1 (by omega) (Nat.le_refl _) (by rw [hr]; unfold stepR; rw [if_neg hx]; simp)
  rw [List.take_length] at hcl
  have hsame : (rsM (l.take (k + 1))).2.1 (rsM (l.take k)).1 = (rsM (l.take k)).2.1 (rsM (l.take k)).1 := by rw [hr]; unfold stepR; rw [if_neg hx]
  cases hs : (stM (l.take k)).2 with
  | none => simp
  | some t =>
    simp only
    rw [hcl, hsame, ho.2.1, hs]
    rfl
theorem impM_first {l : List Nt} {k : Nat} {x : Nt} (h : l[k]? = some x) (hx : x.1 = 0) (hs : (stM (l.take k)).2 = none) : impM l (k + 1) = impM l k ++ [restE ((rsM l).2.1 (rsM (l.take k)).1)] := by
  unfold impM
  rw [stM_take h, rsM_take h]
  unfold stepS stepR
  rw [if_pos hx, if_pos hx, hs]
  simp
theorem impM_more {l : List Nt} {k : Nat} {x : Nt} {t : Int} (h : l[k]? = some x) (hx : x.1 = 0) (hs : (stM (l.take k)).2 = some t) : impM l (k + 1) = impM l k := by
  unfold impM
  rw [stM_take h, rsM_take h]
  unfold stepS stepR
  rw [if_pos hx, if_pos hx, hs]
theorem impM_all (l : List Nt) : impM l l.length = mrgL l := by
  unfold impM mrgL flush
  rw [List.take_length]
  have ho := rs_open l
  cases hs : (stM l).2 with
  | none => rfl
  | some t =>
    simp only
    rw [ho.2.1, hs]
    rfl

/-- Along a voice: what is merged for good ends in a note, the rests that go on have ticks. -/
def okM (s : MS) : Prop := (∀ x, s.1.getLast? = some x → 0 < x.1) ∧ ∀ t, s.2 = some t → 0 ≤ t
theorem stM_ok {l : List Nt} (h : goodV l = true) (k : Nat) : okM (stM (l.take k)) ∧ (flush (stM (l.take k))).length ≤ k ∧ (stM (l.take k)).2.getD 0 ≤ tks (l.take k) := by
  induction k with
  | zero => exact ⟨⟨fun x hx => by simp [stM] at hx, fun t ht => by simp [stM] at ht⟩, by simp [stM, flush], by simp [stM, tks]⟩
  | succ k ih =>
    rcases Nat.lt_or_ge k l.length with hk | hk
    · have hx : l[k]? = some l[k] := List.getElem?_eq_getElem hk
      generalize l[k] = x at hx
      rw [stM_take hx, tks_take hx]
      have hev := ((goodV_iff l).1 h).1 x (List.mem_of_getElem? hx)
      have hb := (evN.okT hev).1.bounds
      have he := (evN_iff x).1 hev
      have ht := tks_of h k
      obtain ⟨⟨h1, h2⟩, h3, h4⟩ := ih
      generalize stM (l.take k) = s at *
      have hs0 : 0 ≤ s.2.getD 0 := by
        cases hs : s.2 with
        | none => simp
        | some t => simpa using h2 t hs
      unfold stepS
      by_cases h0 : x.1 = 0
      · rw [if_pos h0]
        refine ⟨⟨h1, fun t ht => ?_⟩, ?_, ?_⟩
        · simp only [Option.some.injEq] at ht; omega
        · have h3' : s.1.length + (match s.2 with | some t => [restE t] | none => []).length ≤ k := by
            unfold flush at h3
            rw [List.length_append] at h3
            exact h3
          simp only [flush, List.length_append, List.length_singleton]
          omega
        · simp only [Option.getD_some]; omega
      · rw [if_neg h0]
        refine ⟨⟨fun y hy => ?_, fun t ht => by cases ht⟩, ?_, ?_⟩
        · simp at hy; subst hy; omega
        · simp only [flush, List.append_nil, List.length_append, List.length_singleton]
          unfold flush at h3
          simp only [List.length_append] at h3
          omega
        · simp only [Option.getD_none]; omega
    · have e : l.take (k + 1) = l.take k := by rw [List.take_of_length_le (by omega), List.take_of_length_le (by omega)]
      rw [e]
      exact ⟨ih.1, by omega, ih.2.2⟩

theorem restE_tk {t : Int} (ht : 0 ≤ t) : tk (restE t) = t := by
  obtain ⟨hg, e1, e2, h0, h1, _⟩ := low_spec ht (show (0 : Int) < 720720 by omega)
  unfold tk restE
  simp only
  generalize (low t 720720).1 = a at *
  generalize (low t 720720).2 = b at *
  generalize gI t 720720 = g at *
  have : (720720 : Int) / b = g := by
    have e : (720720 : Int) = g * b := by rw [Int.mul_comm]; exact e2
    rw [e, Int.mul_ediv_cancel _ (by omega)]
  rw [this]
  exact e1.symm
theorem restE_ok {t : Int} (ht : 0 ≤ t) (h : t ≤ 1500000000) : okT (restE t) := by
  obtain ⟨hg, e1, e2, h0, h1, _⟩ := low_spec ht (show (0 : Int) < 720720 by omega)
  refine ⟨h0, h1, ⟨gI t 720720, e2⟩, ?_⟩
  rw [restE_tk ht]
  exact h
/-- An event's rest is a rest of its ticks. -/
theorem restE_self {x : Nt} (h : evN x = true) (h0 : x.1 = 0) : restE (tk x) = x := by
  have hok := (evN.okT h).1
  have he := (evN_iff x).1 h
  have hb := hok.bounds
  have hte := hok.tk_eq
  have : low (tk x) 720720 = low x.2.1 x.2.2 := low_cross hb.1 (by omega) (by omega) (by omega) hte
  unfold restE
  rw [this, low_id he.2.2.2]
  obtain ⟨p, n, d⟩ := x
  simp only at h0
  subst h0
  rfl

end Go.Proofs.Ytecbeicppfcofaa
