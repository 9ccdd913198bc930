/- Plain: cutting and splitting in the library's words; lines and texts of scores and what is read of them. -/
import Derived.Test.YtfjcnomingbneabDoorRdP
import Derived.Test.YtfjcnomingbneabDoorSpl
import Derived.Lib.Split
namespace Go.Proofs.YtfjcnomingbneabDoor
open Go.RowKit Go.Sort
set_option linter.unusedVariables false
set_option linter.unusedSimpArgs false

theorem idx_at (b : UInt8) (u v : List UInt8) (h : b ∉ u) : Lib.index (u ++ b :: v) [b] = (u.length : Int) := by
  induction u with
  | nil => simp [Lib.index]
  | cons x u ih =>
    have hx : x ≠ b := fun e => h (by simp [e])
    have ih := ih (fun e => h (by simp [e]))
    rw [List.cons_append, Lib.index, ih]
    have h1 : [b].isPrefixOf (x :: (u ++ b :: v)) = false := by simp [List.isPrefixOf]; exact fun e => hx e.symm
    rw [h1]
    have h2 : (((u.length : Nat) : Int) == -1) = false := by simp
    rw [h2]
    simp
theorem idx_no (b : UInt8) (s : List UInt8) (h : b ∉ s) : Lib.index s [b] = -1 := by
  induction s with
  | nil => rfl
  | cons x s ih =>
    have hx : x ≠ b := fun e => h (by simp [e])
    have ih := ih (fun e => h (by simp [e]))
    rw [Lib.index, ih]
    have h1 : [b].isPrefixOf (x :: s) = false := by simp [List.isPrefixOf]; exact fun e => hx e.symm
    rw [h1]
    simp
theorem part_of (b : UInt8) (s : List UInt8) : b ∉ s ∨ ∃ u v, b ∉ u ∧ s = u ++ b :: v := by
  have h := cutB_spec b s
  cases hc : (cutB b s).2.2 with
  | true => exact .inr ⟨_, _, h.1, h.2.1 hc⟩
  | false => rw [(h.2.2 hc).1] at h; exact .inl h.1
theorem cut_lib (b : UInt8) (s : List UInt8) : Lib.cut s [b] = cutB b s := by
  rcases part_of b s with h | ⟨u, v, h, rfl⟩
  · rw [cutB_no b s h, Lib.cut, idx_no b s h]; simp
  · rw [cutB_at b u v h, Lib.cut, idx_at b u v h]
    simp
theorem count_lib (b : UInt8) : ∀ (f : Nat) (s : List UInt8), s.length < f → Lib.countFrom [b] f s = s.count b := by
  intro f
  induction f with
  | zero => intro s h; omega
  | succ f ih =>
    intro s hf
    unfold Lib.countFrom
    rcases part_of b s with h | ⟨u, v, h, rfl⟩
    · rw [idx_no b s h, List.count_eq_zero_of_not_mem h]; rfl
    · rw [idx_at b u v h]
      have h2 : (((u.length : Nat) : Int) == -1) = false := by simp
      rw [h2]
      have h3 : (u ++ b :: v).drop (((u.length : Nat) : Int).toNat + [b].length) = v := by
        rw [Int.toNat_natCast, ← List.drop_drop, List.drop_left]; rfl
      rw [h3]
      have hl : v.length < f := by simp at hf; omega
      rw [ih v hl, List.count_append, List.count_eq_zero_of_not_mem h, List.count_cons_self]
      simp; omega
theorem split_lib (b : UInt8) : ∀ (k : Nat) (s : List UInt8), s.count b ≤ k → Lib.splitK [b] 0 k s = splitB b s := by
  intro k
  induction k with
  | zero =>
    intro s hk
    have : b ∉ s := List.count_eq_zero.1 (by omega)
    rw [splitB_no b s this]; rfl
  | succ k ih =>
    intro s hk
    unfold Lib.splitK
    rcases part_of b s with h | ⟨u, v, h, rfl⟩
    · rw [idx_no b s h, splitB_no b s h]; rfl
    · rw [idx_at b u v h, splitB_at b u v h]
      have h2 : (((u.length : Nat) : Int) == -1) = false := by simp
      rw [h2]
      have h3 : (u ++ b :: v).drop (((u.length : Nat) : Int).toNat + [b].length) = v := by
        rw [Int.toNat_natCast, ← List.drop_drop, List.drop_left]; rfl
      rw [h3]
      rw [List.count_append, List.count_eq_zero_of_not_mem h, List.count_cons_self] at hk
      rw [ih v (by omega)]
      simp
theorem bs_of_data (x : ByteArray) : bs x.data.toList = x := by cases x; simp [bs]
theorem splitB_lib (b : UInt8) (s : List UInt8) : Lib.splitB (bs [b]) 0 (Lib.countB (bs s) (bs [b])) (bs s) = (splitB b s).map bs := by
  have h := Lib.splitB_data (bs [b]) 0 (Lib.countB (bs s) (bs [b])) (bs s)
  have hb : (bs [b]).data.toList = [b] := by simp [bs]
  have hs : (bs s).data.toList = s := by simp [bs]
  rw [hb, hs] at h
  have hc : Lib.countB (bs s) (bs [b]) = s.count b := by
    show Lib.count (bs s).data.toList (bs [b]).data.toList = _
    rw [hb, hs]
    exact count_lib b _ s (by omega)
  rw [hc] at h ⊢
  rw [split_lib b _ s (Nat.le_refl _)] at h
  rw [← h, List.map_map]
  conv => lhs; rw [← List.map_id (Lib.splitB (bs [b]) 0 (s.count b) (bs s))]
  exact List.map_congr_left fun x _ => (bs_of_data x).symm
theorem countB_lib (b : UInt8) (s : List UInt8) : Lib.countB (bs s) (bs [b]) + 1 = (splitB b s).length := by
  have h := congrArg List.length (splitB_lib b s)
  rw [List.length_map] at h
  rw [← h]
  have hc : ∀ (k : Nat) (t : List UInt8), t.count b = k → (Lib.splitK [b] 0 k t).length = k + 1 := by
    intro k
    induction k with
    | zero => intro t _; rfl
    | succ k ih =>
      intro t ht
      unfold Lib.splitK
      rcases part_of b t with h | ⟨u, v, h, rfl⟩
      · rw [List.count_eq_zero_of_not_mem h] at ht; omega
      · rw [idx_at b u v h]
        have h2 : (((u.length : Nat) : Int) == -1) = false := by simp
        rw [h2]
        have h3 : (u ++ b :: v).drop (((u.length : Nat) : Int).toNat + [b].length) = v := by
          rw [Int.toNat_natCast, ← List.drop_drop, List.drop_left]; rfl
        rw [h3]
        rw [List.count_append, List.count_eq_zero_of_not_mem h, List.count_cons_self] at ht
        simp only [Bool.false_eq_true, if_false, List.length_cons]
        rw [ih v (by omega)]
  have h2 := congrArg List.length (Lib.splitB_data (bs [b]) 0 (Lib.countB (bs s) (bs [b])) (bs s))
  rw [List.length_map] at h2
  rw [h2]
  have hb : (bs [b]).data.toList = [b] := by simp [bs]
  have hs : (bs s).data.toList = s := by simp [bs]
  rw [hb, hs]
  have hcc : Lib.countB (bs s) (bs [b]) = s.count b := by
    show Lib.count (bs s).data.toList (bs [b]).data.toList = _
    rw [hb, hs]
    exact count_lib b _ s (by omega)
  rw [hcc, hc _ _ rfl]

theorem nodig_of {c : UInt8} (h : isDig c = true) : c ≠ 32 ∧ c ≠ 10 := by
  simp only [isDig, Bool.and_eq_true, decide_eq_true_eq] at h
  refine ⟨fun e => ?_, fun e => ?_⟩ <;> subst e <;> exact absurd h.1 (by decide)
theorem nameOf_plain : ∀ r, r < 12 → ∀ c ∈ nameOf r, c ≠ 32 ∧ c ≠ 10 := by decide
theorem nm_plain (p : Int) (h : 24 ≤ p) (h' : p ≤ 96) : ∀ c ∈ nm p, c ≠ 32 ∧ c ≠ 10 := by
  intro c hc
  unfold nm at hc
  rcases List.mem_append.1 hc with hc | hc
  · exact nameOf_plain _ (by omega) c hc
  · exact nodig_of (dec_digs _ c hc)
theorem dec_plain (z : Int) : ∀ c ∈ dec z, c ≠ 32 ∧ c ≠ 10 := fun c hc => nodig_of (dec_digs _ c hc)

def okX (x : Nt) : Prop := 24 ≤ x.1 ∧ x.1 ≤ 96 ∧ 0 ≤ x.2.1 ∧ 0 ≤ x.2.2
def lineU (x : Nt) : List UInt8 := nm x.1 ++ 32 :: (dec x.2.1 ++ 32 :: dec x.2.2)
theorem lineOf_U (x : Nt) : lineOf x = lineU x ++ [10] := by simp [lineOf, lineU]
theorem split_line {x : Nt} (h : okX x) : splitB 32 (lineU x) = [nm x.1, dec x.2.1, dec x.2.2] := by
  unfold lineU
  rw [splitB_at 32 _ _ (fun e => (nm_plain _ h.1 h.2.1 _ e).1 rfl), splitB_at 32 _ _ (fun e => (dec_plain _ _ e).1 rfl), splitB_no 32 _ (fun e => (dec_plain _ _ e).1 rfl)]
theorem line_no10 {x : Nt} (h : okX x) : 10 ∉ lineU x := by
  intro e
  unfold lineU at e
  rcases List.mem_append.1 e with e | e
  · exact (nm_plain _ h.1 h.2.1 _ e).2 rfl
  · rcases List.mem_cons.1 e with e | e
    · exact absurd e (by decide)
    · rcases List.mem_append.1 e with e | e
      · exact (dec_plain _ _ e).2 rfl
      · rcases List.mem_cons.1 e with e | e
        · exact absurd e (by decide)
        · exact (dec_plain _ _ e).2 rfl
theorem textOf_cons (x : Nt) (l : List Nt) : textOf (x :: l) = lineU x ++ 10 :: textOf l := by simp [textOf, lineOf_U]
theorem textOf_app (l m : List Nt) : textOf (l ++ m) = textOf l ++ textOf m := by simp [textOf, List.flatMap_append]
theorem dec_injI {a b : Int} (ha : 0 ≤ a) (hb : 0 ≤ b) (h : dec a = dec b) : a = b := by
  have := dec_inj h; omega
theorem lineU_inj {x y : Nt} (h : okX x) (h' : okX y) (e : lineU x = lineU y) : x = y := by
  have h1 := split_line h
  rw [e, split_line h'] at h1
  simp only [List.cons.injEq, and_true] at h1
  exact Prod.ext_iff.2 ⟨(nm_inj h'.1 h'.2.1 h.1 h.2.1 h1.1).symm, Prod.ext_iff.2 ⟨(dec_injI h'.2.2.1 h.2.2.1 h1.2.1).symm, (dec_injI h'.2.2.2 h.2.2.2 h1.2.2).symm⟩⟩
/-- A text that begins as another one is that one and a text. -/
theorem text_pre : ∀ (l m : List Nt) (r : List UInt8), (∀ x ∈ l, okX x) → (∀ x ∈ m, okX x) → textOf m = textOf l ++ r → ∃ m', m = l ++ m' ∧ textOf m' = r
  | [], m, r, _, _, h => ⟨m, rfl, h⟩
  | x :: l, [], r, _, _, h => by
    rw [textOf_cons] at h
    have := congrArg List.length h
    simp [textOf] at this
  | x :: l, y :: m, r, hl, hm, h => by
    rw [textOf_cons, textOf_cons, List.append_assoc, List.cons_append] at h
    have hx := hl x (by simp)
    have hy := hm y (by simp)
    have c1 := cutB_at 10 _ (textOf m) (line_no10 hy)
    rw [h, cutB_at 10 _ _ (line_no10 hx)] at c1
    injection c1 with e1 e2
    injection e2 with e2 _
    obtain ⟨m', hm', ht⟩ := text_pre l m r (fun z hz => hl z (by simp [hz])) (fun z hz => hm z (by simp [hz])) e2.symm
    exact ⟨m', by rw [hm', lineU_inj hx hy e1]; rfl, ht⟩
theorem text_nil {m : List Nt} (h : textOf m = []) : m = [] := by
  cases m with
  | nil => rfl
  | cons x m => rw [textOf_cons] at h; simp at h
theorem text_inj {l m : List Nt} (hl : ∀ x ∈ l, okX x) (hm : ∀ x ∈ m, okX x) (h : textOf l = textOf m) : l = m := by
  obtain ⟨m', hm', ht⟩ := text_pre l m [] hl hm (by simpa using h.symm)
  rw [text_nil ht] at hm'
  simpa using hm'.symm
theorem split_text : ∀ (l : List Nt), (∀ x ∈ l, okX x) → splitB 10 (textOf l) = l.map lineU ++ [[]]
  | [], _ => rfl
  | x :: l, h => by
    rw [textOf_cons, splitB_at 10 _ _ (line_no10 (h x (by simp))), split_text l (fun z hz => h z (by simp [hz]))]
    rfl

theorem good_ok {l : List Nt} (h : goodB l = true) : (∀ x ∈ l, okX x ∧ x.2.1 ≤ 999 ∧ x.2.2 ≤ 99) ∧ l.length ≤ 30 := by
  have hg := (goodB_iff l).1 h
  refine ⟨fun x hx => ?_, hg.2⟩
  obtain ⟨i, hi⟩ := List.mem_iff_getElem?.1 hx
  have hv := (noteN_iff x).1 (hg.1 i x (List.getElem?_eq_some_iff.1 hi).1 hi).1
  exact ⟨⟨by omega, by omega, by omega, by omega⟩, by omega, by omega⟩

/-- What the program reads of a line. -/
def ntL (u : List UInt8) : Option Nt :=
  match splitB 32 u with
  | [a, b, c] => if 0 ≤ ntRd a ∧ numOk b = true ∧ numOk c = true then some (ntRd a, (valL b : Int), (valL c : Int)) else none
  | _ => none
theorem ntL_of {u : List UInt8} {x : Nt} (h : ntL u = some x) : okX x ∧ lineU x = u := by
  unfold ntL at h
  split at h
  · rename_i a b c hs
    split at h
    · rename_i hc
      injection h with h
      subst h
      have hj := splitB_join 32 u
      rw [hs] at hj
      rcases ntRd_cases a with ⟨p, h1, h2, h3, h4⟩ | ⟨h1, _⟩
      · rw [h4]
        refine ⟨⟨h1, h2, Int.natCast_nonneg _, Int.natCast_nonneg _⟩, ?_⟩
        rw [← hj]
        show nm p ++ 32 :: (dec (valL b : Int) ++ 32 :: dec (valL c : Int)) = _
        rw [h3, dec_of_numOk hc.2.1, dec_of_numOk hc.2.2]
        simp [Lib.join_cons, Lib.joinTail]
      · omega
    · cases h
  · cases h
theorem ntL_line {x : Nt} (h : okX x) (h1 : x.2.1 ≤ 999) (h2 : x.2.2 ≤ 99) : ntL (lineU x) = some x := by
  unfold ntL
  rw [split_line h]
  have a := ntRd_nm x.1 h.1 h.2.1
  have b := numOk_dec (s := dec x.2.1) h.2.2.1 (by omega) rfl
  have c := numOk_dec (s := dec x.2.2) h.2.2.2 (by omega) rfl
  simp only
  rw [a, if_pos ⟨by have := h.1; omega, b.1, c.1⟩, b.2, c.2]

/-- What either side says of a string: the score with this text, or that there is none. -/
def ScOf (s : List UInt8) (base : Nat) (w : World) (e : Ending) : Prop :=
  (∃ l v, goodB l = true ∧ textOf l = s ∧ e = .returned (.tuple #[v, .bool true]) ∧ Own w base 35 v l) ∨
  ((∀ l, goodB l = true → textOf l ≠ s) ∧ e = .returned (.tuple #[.slice none 0 0, .bool false]))

/-- The program stops at a line that no score has. -/
theorem stop_no {l : List Nt} {r s : List UInt8} (hl : ∀ x ∈ l, okX x) (hs : s = textOf l ++ r) (hr : r ≠ []) (h : (cutB 10 r).2.2 = false ∨ ntL (cutB 10 r).1 = none ∨ l.length = 30) : ∀ m, goodB m = true → textOf m ≠ s := by
  intro m hm ht
  obtain ⟨hk, h30⟩ := good_ok hm
  obtain ⟨m', e1, e2⟩ := text_pre l m r hl (fun x hx => (hk x hx).1) (by rw [ht, hs])
  cases m' with
  | nil => exact hr e2.symm
  | cons y m' =>
    have hy := hk y (by rw [e1]; simp)
    have hc : cutB 10 r = (lineU y, textOf m', true) := by rw [← e2, textOf_cons, cutB_at 10 _ _ (line_no10 hy.1)]
    rcases h with h | h | h
    · rw [hc] at h; cases h
    · rw [hc] at h
      simp only at h
      rw [ntL_line hy.1 hy.2.1 hy.2.2] at h
      cases h
    · rw [e1] at h30; simp at h30; omega
theorem end_no {l : List Nt} (hl : ∀ x ∈ l, okX x) (hg : goodB l = false) : ∀ m, goodB m = true → textOf m ≠ textOf l := by
  intro m hm ht
  have := text_inj (fun x hx => ((good_ok hm).1 x hx).1) hl ht
  rw [this, hg] at hm
  cases hm

def readAll : List (List UInt8) → Option (List Nt)
  | [] => some []
  | u :: r => match ntL u with
    | some x => (readAll r).map (x :: ·)
    | none => none
theorem readAll_of : ∀ {us : List (List UInt8)} {l : List Nt}, readAll us = some l → us = l.map lineU ∧ ∀ x ∈ l, okX x
  | [], l, h => by simp [readAll] at h; subst h; exact ⟨rfl, by simp⟩
  | u :: r, l, h => by
    unfold readAll at h
    split at h
    · rename_i x hx
      obtain ⟨m, hm, rfl⟩ := Option.map_eq_some_iff.1 h
      obtain ⟨h1, h2⟩ := readAll_of hm
      obtain ⟨h3, h4⟩ := ntL_of hx
      refine ⟨by rw [h1, List.map_cons, h4], ?_⟩
      intro y hy
      rcases List.mem_cons.1 hy with rfl | hy
      · exact h3
      · exact h2 y hy
    · cases h
/-- What the program reads of a whole text. -/
def readT (s : List UInt8) : Option (List Nt) := if (splitB 10 s).getLast? = some [] then readAll (splitB 10 s).dropLast else none
theorem last_split {l : List (List UInt8)} {x : List UInt8} (h : l.getLast? = some x) : l.dropLast ++ [x] = l := by
  obtain ⟨ys, rfl⟩ := List.getLast?_eq_some_iff.1 h
  simp
theorem readT_of {s : List UInt8} {l : List Nt} (h : readT s = some l) : textOf l = s := by
  unfold readT at h
  split at h
  · rename_i hl
    have hj := splitB_join 10 s
    have hd := last_split hl
    rw [(readAll_of h).1] at hd
    have : splitB 10 s = splitB 10 (textOf l) := by rw [split_text l (readAll_of h).2, ← hd]
    rw [← hj, this, splitB_join]
  · cases h
theorem readAll_lines : ∀ (l : List Nt), (∀ x ∈ l, okX x ∧ x.2.1 ≤ 999 ∧ x.2.2 ≤ 99) → readAll (l.map lineU) = some l
  | [], _ => rfl
  | x :: l, h => by
    have hx := h x (by simp)
    rw [List.map_cons, readAll, ntL_line hx.1 hx.2.1 hx.2.2]
    simp only
    rw [readAll_lines l (fun y hy => h y (by simp [hy]))]
    rfl
theorem readT_text {l : List Nt} (hg : goodB l = true) : readT (textOf l) = some l := by
  unfold readT
  rw [split_text l (fun x hx => ((good_ok hg).1 x hx).1)]
  rw [if_pos (by simp)]
  rw [List.dropLast_concat]
  exact readAll_lines l (good_ok hg).1
theorem none_no {s : List UInt8} (h : readT s = none) : ∀ l, goodB l = true → textOf l ≠ s := by
  intro l hl ht
  rw [← ht, readT_text hl] at h
  cases h
theorem bad_no {s : List UInt8} {l : List Nt} (h : readT s = some l) (hb : goodB l = false) : ∀ m, goodB m = true → textOf m ≠ s := by
  intro m hm ht
  rw [← ht, readT_text hm] at h
  rw [Option.some.inj h, hb] at hm
  cases hm


/-- What the model reads of a line. -/
def rdM (u : List UInt8) : Nt := (ntRd ((splitB 32 u).getD 0 []), readL ((splitB 32 u).getD 1 []), readL ((splitB 32 u).getD 2 []))
theorem rdM_line {x : Nt} (h : okX x) (h1 : x.2.1 ≤ 999) (h2 : x.2.2 ≤ 99) : rdM (lineU x) = x := by
  unfold rdM
  rw [split_line h]
  have a := ntRd_nm x.1 h.1 h.2.1
  have b : readL (dec x.2.1) = x.2.1 := by
    have := readL_dec x.2.1.toNat (by have := h.2.2.1; omega)
    unfold dec; rw [this]; have := h.2.2.1; omega
  have c : readL (dec x.2.2) = x.2.2 := by
    have := readL_dec x.2.2.toNat (by have := h.2.2.2; omega)
    unfold dec; rw [this]; have := h.2.2.2; omega
  simp [a, b, c]
/-- The lines of a score's text. -/
theorem model_lines {s : List UInt8} {m : List Nt} (hm : goodB m = true) (ht : textOf m = s) : (splitB 10 s).length ≤ 31 ∧ (∀ k u, k + 1 < (splitB 10 s).length → (splitB 10 s)[k]? = some u → (splitB 32 u).length = 3) ∧ ((splitB 10 s).take ((splitB 10 s).length - 1)).map rdM = m := by
  obtain ⟨hk, h30⟩ := good_ok hm
  have hs := split_text m (fun x hx => (hk x hx).1)
  rw [ht] at hs
  rw [hs]
  refine ⟨by simp; omega, fun k u hlt hu => ?_, ?_⟩
  · simp only [List.length_append, List.length_map, List.length_cons, List.length_nil] at hlt
    rw [List.getElem?_append_left (by simp; omega), List.getElem?_map] at hu
    obtain ⟨x, hx, rfl⟩ := Option.map_eq_some_iff.1 hu
    rw [split_line (hk x (List.mem_of_getElem? hx)).1]
    rfl
  · have e : (m.map lineU ++ [[]]).length - 1 = (m.map lineU).length := by simp
    rw [e, List.take_left' rfl, List.map_map]
    conv => rhs; rw [← List.map_id m]
    exact List.map_congr_left fun x hx => rdM_line (hk x hx).1 (hk x hx).2.1 (hk x hx).2.2

end Go.Proofs.YtfjcnomingbneabDoor
