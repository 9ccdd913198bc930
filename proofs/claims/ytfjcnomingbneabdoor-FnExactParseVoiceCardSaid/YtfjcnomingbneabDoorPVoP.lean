/- Plain facts: words of a voice's text, as the program and as the model read them. -/
import Derived.Test.YtfjcnomingbneabDoorPScP
import Derived.Test.YtfjcnomingbneabDoorVText
namespace Go.Proofs.YtfjcnomingbneabDoor
open Go.RowKit Go.Sort
set_option linter.unusedVariables false
set_option linter.unusedSimpArgs false

def cln (c : UInt8) : Prop := c ≠ 32 ∧ c ≠ 42 ∧ c ≠ 47 ∧ c ≠ 114
theorem cln_dig {c : UInt8} (h : isDig c = true) : cln c := by
  simp only [isDig, Bool.and_eq_true, decide_eq_true_eq] at h
  refine ⟨fun e => ?_, fun e => ?_, fun e => ?_, fun e => ?_⟩ <;> subst e <;> first | exact absurd h.1 (by decide) | exact absurd h.2 (by decide)
theorem cln_name : ∀ r, r < 12 → ∀ c ∈ nameOf r, c ≠ 32 ∧ c ≠ 42 ∧ c ≠ 47 ∧ c ≠ 114 := by decide
theorem cln_nm (p : Int) (h : 24 ≤ p) (h' : p ≤ 96) : ∀ c ∈ nm p, cln c := by
  intro c hc
  unfold nm at hc
  rcases List.mem_append.1 hc with hc | hc
  · exact cln_name _ (by omega) c hc
  · exact cln_dig (dec_digs _ c hc)
theorem cln_dec (z : Int) : ∀ c ∈ dec z, cln c := fun c hc => cln_dig (dec_digs _ c hc)

def okE (x : Nt) : Prop := (x.1 = 0 ∨ 24 ≤ x.1 ∧ x.1 ≤ 96) ∧ 0 ≤ x.2.1 ∧ 0 ≤ x.2.2
theorem nameE_no {p : Int} (h : p = 0 ∨ 24 ≤ p ∧ p ≤ 96) : ∀ c ∈ nameE p, c ≠ 32 ∧ c ≠ 42 ∧ c ≠ 47 := by
  intro c hc
  unfold nameE at hc
  split at hc
  · obtain rfl := List.mem_singleton.1 hc
    decide
  · have := cln_nm p (by omega) (by omega) c hc
    exact ⟨this.1, this.2.1, this.2.2.1⟩
theorem word_U (x : Nt) : wordOf x = nameE x.1 ++ 42 :: (dec x.2.1 ++ 47 :: dec x.2.2) := by simp [wordOf]
theorem word_no {x : Nt} (h : okE x) : 32 ∉ wordOf x := by
  intro e
  rw [word_U] at e
  rcases List.mem_append.1 e with e | e
  · exact (nameE_no h.1 _ e).1 rfl
  · rcases List.mem_cons.1 e with e | e
    · exact absurd e (by decide)
    · rcases List.mem_append.1 e with e | e
      · exact (cln_dec _ _ e).1 rfl
      · rcases List.mem_cons.1 e with e | e
        · exact absurd e (by decide)
        · exact (cln_dec _ _ e).1 rfl
theorem tail_no {x : Nt} : 42 ∉ (dec x.2.1 ++ 47 :: dec x.2.2) := by
  intro e
  rcases List.mem_append.1 e with e | e
  · exact (cln_dec _ _ e).2.1 rfl
  · rcases List.mem_cons.1 e with e | e
    · exact absurd e (by decide)
    · exact (cln_dec _ _ e).2.1 rfl

def pvE (a : List UInt8) : Int := if a = [114] then 0 else ntRd a
theorem pvE_name {p : Int} (h : p = 0 ∨ 24 ≤ p ∧ p ≤ 96) : pvE (nameE p) = p := by
  unfold pvE nameE
  by_cases h0 : p = 0
  · rw [if_pos h0, if_pos rfl, h0]
  · rw [if_neg h0, if_neg (fun e => (cln_nm p (by omega) (by omega) 114 (by rw [e]; simp)).2.2.2 rfl)]
    exact ntRd_nm p (by omega) (by omega)
theorem name_pvE {a : List UInt8} (h : 0 ≤ pvE a) : (pvE a = 0 ∨ 24 ≤ pvE a ∧ pvE a ≤ 96) ∧ nameE (pvE a) = a := by
  unfold pvE at *
  split
  · rename_i h0
    subst h0
    exact ⟨.inl rfl, rfl⟩
  · rename_i h0
    rw [if_neg h0] at h
    rcases ntRd_cases a with ⟨p, h1, h2, h3, h4⟩ | ⟨h1, _⟩
    · rw [h4]
      refine ⟨.inr ⟨h1, h2⟩, ?_⟩
      unfold nameE
      rw [if_neg (by omega), h3]
    · omega

/-- What the program reads of a word. -/
def evL (u : List UInt8) : Option Nt :=
  if (cutB 42 u).2.2 = true ∧ (cutB 47 (cutB 42 u).2.1).2.2 = true ∧ 0 ≤ pvE (cutB 42 u).1 ∧ numOk (cutB 47 (cutB 42 u).2.1).1 = true ∧ numOk (cutB 47 (cutB 42 u).2.1).2.1 = true
  then some (pvE (cutB 42 u).1, (valL (cutB 47 (cutB 42 u).2.1).1 : Int), (valL (cutB 47 (cutB 42 u).2.1).2.1 : Int)) else none
theorem evL_of {u : List UInt8} {x : Nt} (h : evL u = some x) : okE x ∧ wordOf x = u := by
  unfold evL at h
  split at h
  · rename_i hc
    injection h with h
    subst h
    obtain ⟨h1, h2, h3, h4, h5⟩ := hc
    have e1 := (cutB_spec 42 u).2.1 h1
    have e2 := (cutB_spec 47 (cutB 42 u).2.1).2.1 h2
    have hn := name_pvE h3
    refine ⟨⟨hn.1, Int.natCast_nonneg _, Int.natCast_nonneg _⟩, ?_⟩
    rw [word_U]
    simp only
    rw [hn.2, dec_of_numOk h4, dec_of_numOk h5, ← e2, ← e1]
  · cases h
theorem evL_word {x : Nt} (h : okE x) (h1 : x.2.1 ≤ 99) (h2 : x.2.2 ≤ 16) : evL (wordOf x) = some x := by
  have c1 : cutB 42 (wordOf x) = (nameE x.1, dec x.2.1 ++ 47 :: dec x.2.2, true) := by
    rw [word_U]
    exact cutB_at 42 _ _ (fun e => (nameE_no h.1 _ e).2.1 rfl)
  have c2 : cutB 47 (dec x.2.1 ++ 47 :: dec x.2.2) = (dec x.2.1, dec x.2.2, true) := cutB_at 47 _ _ (fun e => (cln_dec _ _ e).2.2.1 rfl)
  have b := numOk_dec (s := dec x.2.1) h.2.1 (by omega) rfl
  have c := numOk_dec (s := dec x.2.2) h.2.2 (by omega) rfl
  unfold evL
  rw [c1]
  simp only
  rw [c2]
  simp only
  rw [pvE_name h.1, if_pos ⟨trivial, trivial, by have := h.1; omega, b.1, c.1⟩, b.2, c.2]

theorem vT_cons2 (x y : Nt) (l : List Nt) : vT (x :: y :: l) = wordOf x ++ 32 :: vT (y :: l) := by
  simp [vT, Lib.join_cons, Lib.joinTail]
theorem vT_single (x : Nt) : vT [x] = wordOf x := by simp [vT, Lib.join_cons, Lib.joinTail]
theorem split_vT : ∀ (l : List Nt), l ≠ [] → (∀ x ∈ l, okE x) → splitB 32 (vT l) = l.map wordOf
  | [], h, _ => absurd rfl h
  | [x], _, h => by rw [vT_single, splitB_no 32 _ (word_no (h x (by simp)))]; rfl
  | x :: y :: l, _, h => by
    rw [vT_cons2, splitB_at 32 _ _ (word_no (h x (by simp))), split_vT (y :: l) (by simp) (fun z hz => h z (by simp at hz ⊢; exact .inr hz))]
    rfl
theorem word_ne (x : Nt) : 2 ≤ (wordOf x).length := by rw [word_U]; simp; omega
theorem vT_long : ∀ (l : List Nt), 2 * l.length ≤ (vT l).length
  | [] => by simp
  | [x] => by rw [vT_single]; have := word_ne x; simpa using this
  | x :: y :: l => by
    have h1 := vT_long (y :: l)
    have h2 := word_ne x
    rw [vT_cons2]
    simp only [List.length_append, List.length_cons] at *
    omega
theorem good_evs {m : List Nt} (h : goodV m = true) : (∀ x ∈ m, okE x ∧ x.2.1 ≤ 99 ∧ x.2.2 ≤ 16) ∧ m.length ≤ 20 := by
  have hg := (goodV_iff m).1 h
  refine ⟨fun x hx => ?_, hg.2⟩
  have := (evN_iff x).1 (hg.1 x hx)
  exact ⟨⟨this.1, by omega, by omega⟩, by omega, by omega⟩
/-- The words of a good voice's text. -/
theorem good_words {m : List Nt} {s : List UInt8} (hm : goodV m = true) (ht : vT m = s) (hs : s ≠ []) : splitB 32 s = m.map wordOf := by
  rw [← ht]
  refine split_vT m (fun e => hs ?_) (fun x hx => ((good_evs hm).1 x hx).1)
  rw [← ht, e]; rfl

theorem read_all : ∀ (l : List Nt) (ws : List (List UInt8)), l.map some = ws.map evL → l.map wordOf = ws ∧ ∀ x ∈ l, okE x
  | [], [], _ => ⟨rfl, by simp⟩
  | [], _ :: _, h => by simp at h
  | _ :: _, [], h => by simp at h
  | x :: l, u :: ws, h => by
    simp only [List.map_cons, List.cons.injEq] at h
    have h1 := evL_of h.1.symm
    have h2 := read_all l ws h.2
    refine ⟨by simp [h1.2, h2.1], fun z hz => ?_⟩
    rcases List.mem_cons.1 hz with rfl | hz
    · exact h1.1
    · exact h2.2 z hz
theorem map_some_inj : ∀ {l m : List Nt}, l.map some = m.map some → l = m
  | [], [], _ => rfl
  | [], _ :: _, h => by simp at h
  | _ :: _, [], h => by simp at h
  | x :: l, y :: m, h => by
    simp only [List.map_cons, List.cons.injEq, Option.some.injEq] at h
    rw [h.1, map_some_inj h.2]
/-- The program has read every word. -/
theorem vo_end {s : List UInt8} {l : List Nt} (hs : s ≠ []) (h : l.map some = (splitB 32 s).map evL) : vT l = s ∧ (∀ m, goodV m = true → vT m = s → m = l) := by
  have h1 := read_all l _ h
  refine ⟨?_, fun m hm ht => ?_⟩
  · unfold vT
    rw [h1.1]
    exact splitB_join 32 s
  · rw [good_words hm ht hs, List.map_map] at h
    have h2 : m.map (evL ∘ wordOf) = m.map some := List.map_congr_left fun x hx => by
      have := (good_evs hm).1 x hx
      exact evL_word this.1 this.2.1 this.2.2
    rw [h2] at h
    exact (map_some_inj h).symm
theorem vo_stop {s u : List UInt8} {k : Nat} (hs : s ≠ []) (hu : (splitB 32 s)[k]? = some u) (h : evL u = none) : ∀ m, goodV m = true → vT m ≠ s := by
  intro m hm ht
  rw [good_words hm ht hs, List.getElem?_map] at hu
  obtain ⟨x, hx, rfl⟩ := Option.map_eq_some_iff.1 hu
  have := (good_evs hm).1 x (List.mem_of_getElem? hx)
  rw [evL_word this.1 this.2.1 this.2.2] at h
  cases h

/-- What the model reads of a word. -/
def evM (u : List UInt8) : Nt :=
  match splitB 42 u with
  | [a, r] => (match splitB 47 r with
    | [n, d] => (pvE a, readL n, readL d)
    | _ => (0, 0, 0))
  | _ => (0, 0, 0)
theorem evM_word {x : Nt} (h : okE x) (h1 : x.2.1 ≤ 99) (h2 : x.2.2 ≤ 16) : evM (wordOf x) = x := by
  have c1 : splitB 42 (wordOf x) = [nameE x.1, dec x.2.1 ++ 47 :: dec x.2.2] := by
    rw [word_U, splitB_at 42 _ _ (fun e => (nameE_no h.1 _ e).2.1 rfl), splitB_no 42 _ tail_no]
  have c2 : splitB 47 (dec x.2.1 ++ 47 :: dec x.2.2) = [dec x.2.1, dec x.2.2] := by
    rw [splitB_at 47 _ _ (fun e => (cln_dec _ _ e).2.2.1 rfl), splitB_no 47 _ (fun e => (cln_dec _ _ e).2.2.1 rfl)]
  have b : readL (dec x.2.1) = x.2.1 := by
    have := readL_dec x.2.1.toNat (by have := h.2.1; omega)
    unfold dec; rw [this]; have := h.2.1; omega
  have c : readL (dec x.2.2) = x.2.2 := by
    have := readL_dec x.2.2.toNat (by have := h.2.2; omega)
    unfold dec; rw [this]; have := h.2.2; omega
  unfold evM
  rw [c1]
  simp only
  rw [c2]
  simp only
  rw [pvE_name h.1, b, c]
theorem mo_end {s : List UInt8} (hs : s ≠ []) {m : List Nt} (hm : goodV m = true) (ht : vT m = s) : (splitB 32 s).map evM = m := by
  rw [good_words hm ht hs, List.map_map]
  conv => rhs; rw [← List.map_id m]
  exact List.map_congr_left fun x hx => by
    have := (good_evs hm).1 x hx
    exact evM_word this.1 this.2.1 this.2.2
theorem mo_stop {s u : List UInt8} {k : Nat} (hs : s ≠ []) (hu : (splitB 32 s)[k]? = some u) (h : evN (evM u) = false) : ∀ m, goodV m = true → vT m ≠ s := by
  intro m hm ht
  have h1 := mo_end hs hm ht
  have h2 : m[k]? = some (evM u) := by rw [← h1, List.getElem?_map, hu]; rfl
  have := ((goodV_iff m).1 hm).1 _ (List.mem_of_getElem? h2)
  rw [this] at h
  cases h
theorem mo_long {s : List UInt8} (hs : s ≠ []) (h : 20 < (splitB 32 s).length) : ∀ m, goodV m = true → vT m ≠ s := by
  intro m hm ht
  rw [good_words hm ht hs, List.length_map] at h
  have := (good_evs hm).2
  omega

/-- What either side says of a string: the voice with this text, or that there is none. -/
def VcOf (s : List UInt8) (base : Nat) (w : World) (e : Ending) : Prop :=
  (∃ l v, goodV l = true ∧ vT l = s ∧ e = .returned (.tuple #[v, .bool true]) ∧ Own w base 42 v l) ∨
  ((∀ l, goodV l = true → vT l ≠ s) ∧ e = .returned (.tuple #[.slice none 0 0, .bool false]))
theorem vT_nil {l : List Nt} (h : vT l = []) : l = [] := by
  have h1 := vT_long l
  rw [h] at h1
  exact List.length_eq_zero_iff.1 (by simp at h1; omega)
end Go.Proofs.YtfjcnomingbneabDoor
