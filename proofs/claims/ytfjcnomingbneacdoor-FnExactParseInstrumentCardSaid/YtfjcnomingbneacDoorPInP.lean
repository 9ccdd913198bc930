/- Texts of instruments and what is read of them: plain lists. -/
import Derived.Test.YtfjcnomingbneacDoorRdP
import Derived.Test.YtfjcnomingbneacDoorIText
namespace Go.Proofs.YtfjcnomingbneacDoor
open Go.RowKit Go.Sort
set_option linter.unusedVariables false
set_option linter.unusedSimpArgs false

theorem nodig_of {c : UInt8} (h : isDig c = true) : c ≠ 32 ∧ c ≠ 10 := by
  simp only [isDig, Bool.and_eq_true, decide_eq_true_eq] at h
  refine ⟨fun e => ?_, fun e => ?_⟩ <;> subst e <;> exact absurd h.1 (by decide)
theorem nameOf_plain : ∀ r, r < 12 → ∀ c ∈ nameOf r, c ≠ 32 ∧ c ≠ 10 := by decide
theorem nm_plain (p : Int) (h : 24 ≤ p) (h' : p ≤ 96) : ∀ c ∈ nm p, c ≠ 32 ∧ c ≠ 10 := by
  intro c hc
  unfold nm at hc
  rcases List.mem_append.1 hc with hc | hc
  · exact nameOf_plain _ (by omega) c hc
  · exact nodig_of (dec_digs _ c hc)
theorem dec_plain (z : Int) : ∀ c ∈ dec z, c ≠ 32 ∧ c ≠ 10 := fun c hc => nodig_of (dec_digs _ c hc)
/-- The words of an instrument's line. -/
theorem split_pre (l : List Int) (r : Int) (hl : okP l) : splitB 32 (preI l ++ dec r) = l.map nm ++ [dec r] := by
  induction l with
  | nil =>
    simp only [preI, List.flatMap_nil, List.nil_append, List.map_nil]
    exact splitB_no 32 _ (fun h => (dec_plain r _ h).1 rfl)
  | cons p l ih =>
    have hp := hl p (by simp)
    have : preI (p :: l) ++ dec r = nm p ++ 32 :: (preI l ++ dec r) := by simp [preI]
    rw [this, splitB_at 32 _ _ (fun h => (nm_plain p hp.1 hp.2 _ h).1 rfl), ih (fun q hq => hl q (by simp [hq]))]
    rfl
theorem no10_pre (l : List Int) (r : Int) (hl : okP l) : 10 ∉ preI l ++ dec r := by
  intro h
  rcases List.mem_append.1 h with h | h
  · unfold preI at h
    obtain ⟨p, hp, hc⟩ := List.mem_flatMap.1 h
    rcases List.mem_append.1 hc with hc | hc
    · exact (nm_plain p (hl p hp).1 (hl p hp).2 _ hc).2 rfl
    · simp at hc
  · exact (dec_plain r _ h).2 rfl
theorem join_pre (l : List Int) (y : List UInt8) : Lib.join (l.map nm ++ [y]) [32] = preI l ++ y := by
  induction l with
  | nil => simp [preI, Lib.join_one]
  | cons p l ih =>
    have h2 : Lib.join ((p :: l).map nm ++ [y]) [32] = nm p ++ [32] ++ Lib.join (l.map nm ++ [y]) [32] := by
      cases l with
      | nil => simp [Lib.join_cons, Lib.joinTail]
      | cons q l =>
        simp only [List.map_cons, List.cons_append]
        rw [Lib.join_cons, Lib.join_cons]
        simp [Lib.joinTail]
    rw [h2, ih]
    simp [preI]
/-- A line is the text of what its words say. -/
theorem iT_line {l : List Int} {r : Int} {u : List UInt8} (h : splitB 32 u = l.map nm ++ [dec r]) : iT l r = u ++ [10] := by
  have := splitB_join 32 u
  rw [h, join_pre] at this
  unfold iT
  rw [this]
theorem iT_words {l : List Int} {r : Int} {u : List UInt8} (hl : okP l) (h : iT l r = u ++ [10]) : splitB 32 u = l.map nm ++ [dec r] := by
  have : preI l ++ dec r = u := by
    unfold iT at h
    exact List.append_cancel_right h
  rw [← this, split_pre l r hl]
theorem iT_first {l : List Int} {r : Int} {s : List UInt8} {k : Nat} (hl : okP l) (h : iT l r = s) (hk : s[k]? = some 10) (hno : 10 ∉ s.take k) : k + 1 = s.length ∧ s = s.take k ++ [10] := by
  have hn := no10_pre l r hl
  unfold iT at h
  have hlen : s.length = (preI l ++ dec r).length + 1 := by rw [← h]; simp [Nat.add_assoc]
  have hk1 := (List.getElem?_eq_some_iff.1 hk).1
  have : k = (preI l ++ dec r).length := by
    rcases Nat.lt_or_ge k (preI l ++ dec r).length with hlt | hge
    · exfalso
      rw [← h, List.getElem?_append_left hlt] at hk
      exact hn (List.mem_of_getElem? hk)
    · omega
  refine ⟨by omega, ?_⟩
  rw [← h, this, List.take_left' rfl]
theorem iT_has10 {l : List Int} {r : Int} {s : List UInt8} (h : iT l r = s) : 10 ∈ s := by rw [← h]; simp [iT]
theorem iT_inj {l l' : List Int} {r r' : Int} (h : gdI l r = true) (h' : gdI l' r' = true) (e : iT l r = iT l' r') : l = l' ∧ r = r' := by
  obtain ⟨_, hl, hr⟩ := gdI_facts h
  obtain ⟨_, hl', hr'⟩ := gdI_facts h'
  have h1 : splitB 32 (preI l' ++ dec r') = l.map nm ++ [dec r] := iT_words hl (by rw [e]; rfl)
  rw [split_pre l' r' hl'] at h1
  have h2 := List.append_inj' h1 rfl
  have h3 : dec r' = dec r := by simpa using h2.2
  have h4 : r' = r := by
    have := dec_inj h3
    omega
  have h5 : ∀ l l' : List Int, okP l → okP l' → l'.map nm = l.map nm → l = l' := by
    intro l
    induction l with
    | nil => intro l' _ _ h; simpa using h.symm
    | cons p l ih =>
      intro l' ho ho' h
      cases l' with
      | nil => simp at h
      | cons q l' =>
        simp only [List.map_cons, List.cons.injEq] at h
        have := nm_inj (ho' q (by simp)).1 (ho' q (by simp)).2 (ho p (by simp)).1 (ho p (by simp)).2 h.1
        rw [this, ih l' (fun x hx => ho x (by simp [hx])) (fun x hx => ho' x (by simp [hx])) h.2]
  exact ⟨h5 l l' hl hl' h2.1, h4.symm⟩
theorem map_ntRd_nm (l : List Int) (hl : okP l) : (l.map nm).map ntRd = l := by
  rw [List.map_map]
  conv => rhs; rw [← List.map_id l]
  exact List.map_congr_left fun p hp => ntRd_nm p (hl p hp).1 (hl p hp).2
theorem map_nm_ntRd (ws : List (List UInt8)) (h : ∀ x ∈ ws, 0 ≤ ntRd x) : (ws.map ntRd).map nm = ws ∧ okP (ws.map ntRd) := by
  have key : ∀ x ∈ ws, nm (ntRd x) = x ∧ 24 ≤ ntRd x ∧ ntRd x ≤ 96 := by
    intro x hx
    rcases ntRd_cases x with ⟨p, h1, h2, h3, h4⟩ | ⟨h1, _⟩
    · rw [h4]; exact ⟨h3, h1, h2⟩
    · have := h x hx; omega
  constructor
  · rw [List.map_map]
    conv => rhs; rw [← List.map_id ws]
    exact List.map_congr_left fun x hx => (key x hx).1
  · intro p hp
    obtain ⟨x, hx, rfl⟩ := List.mem_map.1 hp
    exact (key x hx).2
/-- What either side says of a string: the instrument with this text, or that there is none. -/
def InsOf (s : List UInt8) (base : Nat) (w : World) (e : Ending) : Prop :=
  (∃ l r v, gdI l r = true ∧ iT l r = s ∧ e = .returned (.tuple #[.agg #[v, .int .i64 r], .bool true]) ∧ OwnI w base 3 v l) ∨
  ((∀ l r, gdI l r = true → iT l r ≠ s) ∧ e = .returned (.tuple #[.agg #[.slice none 0 0, .int .i64 0], .bool false]))
end Go.Proofs.YtfjcnomingbneacDoor
