/- Chapter 4's functions at slices of any address, as values; facts on plain lists that the law on tempos asks for. -/
import Derived.Test.YtakmlgkcinjecaaStepAt
import Derived.Test.YtakmlgkcinjecaaAddS
namespace Go.Proofs.Ytakmlgkcinjecaa
open Go.RowKit
set_option linter.unusedVariables false
set_option linter.unusedSimpArgs false

/-- A slice that is not empty begins its block. -/
def AdOk (A : Option Addr) (l : List Nt2) : Prop := l ≠ [] → ∃ g, A = some ⟨g, 0, none⟩
theorem goodT_ne {l : List Nt2} (h : goodT l = true) : l ≠ [] := by
  rintro rfl
  have := ((goodT_iff []).1 h).1.1
  simp at this
def tempoV (l : List Nt2) (s : Int) : Int × Bool := if (goodT l && inR s 0 2000) = true then (lst l (atT l s), true) else (0, false)
def timeV (l : List Nt2) (s : Int) : Int × Bool := if (goodT l && inR s 0 2000) = true then (timeT l s, true) else (0, false)
def betwV (l : List Nt2) (f t : Int) : Int × Bool := if twoB l f t = true then (timeT l t - timeT l f, true) else (0, false)
theorem tempoV_yes {l : List Nt2} {s : Int} (h : goodT l = true) (h0 : 0 ≤ s) (h1 : s ≤ 2000) : tempoV l s = (lst l (atT l s), true) := by
  unfold tempoV; rw [h, show inR s 0 2000 = true from inR_iff.2 ⟨h0, h1⟩]; rfl
theorem timeV_yes {l : List Nt2} {s : Int} (h : goodT l = true) (h0 : 0 ≤ s) (h1 : s ≤ 2000) : timeV l s = (timeT l s, true) := by
  unfold timeV; rw [h, show inR s 0 2000 = true from inR_iff.2 ⟨h0, h1⟩]; rfl
section
variable (A : Option Addr) (l : List Nt2) (c : Nat) (w : World) (hn : l.length ≤ 1048576) (hA : RA2 w A l) (ha : AdOk A l)
include hn hA ha
theorem specTempoV (s : Int) : Calls Try.prog 19 #[.slice A l.length c, .int .i64 s] w fun e w' => e = .returned (.tuple #[.int .i64 (tempoV l s).1, .bool (tempoV l s).2]) ∧ Below w.heap.size w w' := by
  cases hc : (goodT l && inR s 0 2000) with
  | false => unfold tempoV; rw [hc]; exact specTempoAt_no A l c s w hn hA hc
  | true =>
    obtain ⟨h1, h2⟩ := Bool.and_eq_true_iff.1 hc
    obtain ⟨g, rfl⟩ := ha (goodT_ne h1)
    unfold tempoV; rw [hc]; exact specTempoAt_yes g l c s w hn hA h1 h2
theorem implTempoV (s : Int) : Calls Try.prog 17 #[.slice A l.length c, .int .i64 s] w fun e w' => e = .returned (.tuple #[.int .i64 (tempoV l s).1, .bool (tempoV l s).2]) ∧ Below w.heap.size w w' := by
  cases hc : (goodT l && inR s 0 2000) with
  | false => unfold tempoV; rw [hc]; exact implTempoAt_no A l c s w hn hA hc
  | true =>
    obtain ⟨h1, h2⟩ := Bool.and_eq_true_iff.1 hc
    obtain ⟨g, rfl⟩ := ha (goodT_ne h1)
    unfold tempoV; rw [hc]; exact implTempoAt_yes g l c s w hn hA h1 h2
theorem specTimeV (s : Int) : Calls Try.prog 6 #[.slice A l.length c, .int .i64 s] w fun e w' => e = .returned (.tuple #[.int .i64 (timeV l s).1, .bool (timeV l s).2]) ∧ Below w.heap.size w w' := by
  cases hc : (goodT l && inR s 0 2000) with
  | false => unfold timeV; rw [hc]; exact specTimeOf_no A l c s w hn hA hc
  | true =>
    obtain ⟨h1, h2⟩ := Bool.and_eq_true_iff.1 hc
    obtain ⟨g, rfl⟩ := ha (goodT_ne h1)
    unfold timeV; rw [hc]; exact specTimeOf_yes g l c s w hn hA h1 h2
theorem implTimeV (s : Int) : Calls Try.prog 5 #[.slice A l.length c, .int .i64 s] w fun e w' => e = .returned (.tuple #[.int .i64 (timeV l s).1, .bool (timeV l s).2]) ∧ Below w.heap.size w w' := by
  cases hc : (goodT l && inR s 0 2000) with
  | false => unfold timeV; rw [hc]; exact implTimeOf_no A l c s w hn hA hc
  | true =>
    obtain ⟨h1, h2⟩ := Bool.and_eq_true_iff.1 hc
    obtain ⟨g, rfl⟩ := ha (goodT_ne h1)
    unfold timeV; rw [hc]; exact implTimeOf_yes g l c s w hn hA h1 h2
theorem specBetwV (f t : Int) : Calls Try.prog 12 #[.slice A l.length c, .int .i64 f, .int .i64 t] w fun e w' => e = .returned (.tuple #[.int .i64 (betwV l f t).1, .bool (betwV l f t).2]) ∧ Below w.heap.size w w' := by
  cases hc : twoB l f t with
  | false => unfold betwV; rw [hc]; exact specTimeBetween_no A l c f t w hn hA hc
  | true =>
    have h1 : goodT l = true := by unfold twoB at hc; exact (Bool.and_eq_true_iff.1 hc).1
    obtain ⟨g, rfl⟩ := ha (goodT_ne h1)
    unfold betwV; rw [hc]; exact specTimeBetween_yes g l c f t w hn hA hc
theorem implBetwV (f t : Int) : Calls Try.prog 11 #[.slice A l.length c, .int .i64 f, .int .i64 t] w fun e w' => e = .returned (.tuple #[.int .i64 (betwV l f t).1, .bool (betwV l f t).2]) ∧ Below w.heap.size w w' := by
  cases hc : twoB l f t with
  | false => unfold betwV; rw [hc]; exact implTimeBetween_no A l c f t w hn hA hc
  | true =>
    have h1 : goodT l = true := by unfold twoB at hc; exact (Bool.and_eq_true_iff.1 hc).1
    obtain ⟨g, rfl⟩ := ha (goodT_ne h1)
    unfold betwV; rw [hc]; exact implTimeBetween_yes g l c f t w hn hA hc
end
/-- The step at a time: both sides have one answer. -/
theorem stepV (l : List Nt2) (t : Int) (hn : l.length ≤ 1048576) : ∃ (j : Nat) (ok : Bool), ok = (goodT l && decide (0 ≤ t)) ∧ (ok = true → StepIs l t j) ∧
    (∀ (A : Option Addr) (c : Nat) (w : World), RA2 w A l → AdOk A l → Calls Try.prog 9 #[.slice A l.length c, .int .i64 t] w fun e w' => e = .returned (.tuple #[.int .i64 j, .bool ok]) ∧ Below w.heap.size w w') ∧
    (∀ (A : Option Addr) (c : Nat) (w : World), RA2 w A l → AdOk A l → Calls Try.prog 8 #[.slice A l.length c, .int .i64 t] w fun e w' => e = .returned (.tuple #[.int .i64 j, .bool ok]) ∧ Below w.heap.size w w') := by
  cases hc : (goodT l && decide (0 ≤ t)) with
  | false => exact ⟨0, false, rfl, fun h => (by cases h), fun A c w hA _ => specStepAtTime_no A l c t w hn hA hc, fun A c w hA _ => implStepAtTime_no A l c t w hn hA hc⟩
  | true =>
    obtain ⟨h1, h2⟩ := Bool.and_eq_true_iff.1 hc
    obtain ⟨j, hJ⟩ := stepIs l t
    refine ⟨j, true, rfl, fun _ => hJ, fun A c w hA ha => ?_, fun A c w hA ha => ?_⟩
    · obtain ⟨g, rfl⟩ := ha (goodT_ne h1)
      exact specStepAtTime_yes g l c t j w hn hA h1 (by simpa using h2) hJ
    · obtain ⟨g, rfl⟩ := ha (goodT_ne h1)
      exact implStepAtTime_yes g l c t j w hn hA h1 (by simpa using h2) hJ
theorem addV (l : List Nt2) (s p : Int) (hn : l.length ≤ 1000000) : ∃ (G : List Nt2) (ok : Bool), G.length ≤ 2 * l.length + 1 ∧ (ok = true → goodT l = true ∧ chB (s, p) = true ∧ G = outT l (s, p) ∧ goodT (outT l (s, p)) = true) ∧
    (∀ (A : Option Addr) (c : Nat) (w : World), c ≤ 9223372036854775807 → RA2 w A l → AdOk A l → Calls Try.prog 15 #[.slice A l.length c, .agg #[.int .i64 s, .int .i64 p]] w fun e w' => ∃ v, e = .returned (.tuple #[v, .bool ok]) ∧ Own2 w' w.heap.size 32 v G ∧ Below w.heap.size w w') ∧
    (∀ (A : Option Addr) (c : Nat) (w : World), c ≤ 9223372036854775807 → RA2 w A l → AdOk A l → Calls Try.prog 14 #[.slice A l.length c, .agg #[.int .i64 s, .int .i64 p]] w fun e w' => ∃ v, e = .returned (.tuple #[v, .bool ok]) ∧ Own2 w' w.heap.size 32 v G ∧ Below w.heap.size w w') := by
  cases hc : (goodT l && chB (s, p)) with
  | false => exact ⟨[], false, by simp, fun h => (by cases h), fun A c w _ hA _ => specAddTempo_no A l c s p w (by omega) hA hc, fun A c w _ hA _ => implAddTempo_no A l c s p w (by omega) hA hc⟩
  | true =>
    obtain ⟨hg, hx⟩ := Bool.and_eq_true_iff.1 hc
    refine ⟨onlyT (outT l (s, p)), goodT (outT l (s, p)), by have a := onlyT_len (outT l (s, p)); have b := outT_len l (s, p); omega, fun h => ⟨hg, hx, onlyT_true h, h⟩, fun A c w h hA ha => ?_, fun A c w h hA ha => ?_⟩
    · obtain ⟨g, rfl⟩ := ha (goodT_ne hg)
      exact specAddTempo_yes g l c s p w hn hA hg hx
    · obtain ⟨g, rfl⟩ := ha (goodT_ne hg)
      exact implAddTempo_yes g l c s p w (by omega) h hA hg hx

/-- Facts on plain lists. -/
theorem time_le {l : List Nt2} {t : Int} {j : Nat} (hT : Tmp l) (h : StepIs l t j) (h0 : 0 ≤ t) : timeT l (j : Int) ≤ t := by
  cases j with
  | zero =>
    have hz : timeT l ((0 : Nat) : Int) = 0 := by
      have ha : atT l 0 = 0 := atT_uniq hT (Int.le_refl 0) (by have := hT.pos; omega) (by rw [hT.zero]; exact Int.le_refl 0) (fun i hi hl => by have := hT.mono hi hl; rw [hT.zero] at this; exact this)
      unfold timeT
      rw [show ((0 : Nat) : Int) = 0 from rfl, ha]
      simp [tmT, hT.zero]
    rw [hz]; exact h0
  | succ j =>
    have := h.lo j (by omega)
    simpa using this
theorem step_back {l : List Nt2} {s j : Nat} (hT : Tmp l) (hs : s < 2000) (h : StepIs l (timeT l (s : Int)) j) : j = s := by
  have h1 : j ≤ s := by
    rcases Nat.lt_or_ge s j with hlt | hge
    · have h2 := h.lo (j - 1) (by omega)
      have h3 := timeT_up hT s ((j - 1) + 1) (by omega)
      have e : (((j - 1 : Nat) : Int) + 1) = (((j - 1) + 1 : Nat) : Int) := by omega
      rw [e] at h2
      omega
    · exact hge
  have h2 : s ≤ j := by
    rcases Nat.lt_or_ge j s with hlt | hge
    · have h3 := h.hi (by omega)
      have h4 := timeT_le hT (a := ((j : Int) + 1)) (b := (s : Int)) (by omega) (by omega)
      omega
    · exact hge
  omega
theorem add_at {l : List Nt2} {s p : Int} (hg : goodT (outT l (s, p)) = true) (h0 : 0 ≤ s) : lst (outT l (s, p)) (atT (outT l (s, p)) s) = p := by
  have hT := goodT.tmp hg
  have hj : (outT l (s, p))[(l.filter (befT s)).length]? = some (s, p) := by
    unfold outT
    rw [List.append_assoc, List.getElem?_append_right (Nat.le_refl _), Nat.sub_self]
    rfl
  have hjl := (List.getElem?_eq_some_iff.1 hj).1
  have e := atT_uniq hT h0 hjl (by rw [stp_of hj]; exact Int.le_refl s) (fun i hi hl => by have := hT.mono hi hl; rw [stp_of hj] at this; exact this)
  rw [e, lst_of hj]
end Go.Proofs.Ytakmlgkcinjecaa
