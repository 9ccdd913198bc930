/- Plain: cutting and splitting in the library's words; lines and texts of sheets and what is read of them. -/
import Derived.Test.YtfjcnomingbneaaDoorNumP
import Derived.Test.YtfjcnomingbneaaDoorSpl
import Derived.Test.YtfjcnomingbneaaDoorShP
import Derived.Lib.Split
namespace Go.Proofs.YtfjcnomingbneaaDoor
open Go.RowKit Go.Sort
set_option linter.unusedVariables false
set_option linter.unusedSimpArgs false

theorem idx_at (b : UInt8) (u v : List UInt8) (h : b ∉ u) : Lib.index (u ++ b :: v) [b] = (u.length : Int) := by
  induction u with
  | nil => simp [Lib.index]
  | cons x u ih =>
    have hx : x ≠ b := fun e => h (by simp [e])
    have ih := ih (fun e => h (by simp [e]))
    rw [List.cons_append, Lib.index, ih]
    have h1 : [b].isPrefixOf (x :: (u ++ b :: v)) = false := by simp [List.isPrefixOf]; exact fun e => hx e.symm
    rw [h1]
    have h2 : (((u.length : Nat) : Int) == -1) = false := by simp
    rw [h2]
    simp
theorem idx_no (b : UInt8) (s : List UInt8) (h : b ∉ s) : Lib.index s [b] = -1 := by
  induction s with
  | nil => rfl
  | cons x s ih =>
    have hx : x ≠ b := fun e => h (by simp [e])
    have ih := ih (fun e => h (by simp [e]))
    rw [Lib.index, ih]
    have h1 : [b].isPrefixOf (x :: s) = false := by simp [List.isPrefixOf]; exact fun e => hx e.symm
    rw [h1]
    simp
theorem part_of (b : UInt8) (s : List UInt8) : b ∉ s ∨ ∃ u v, b ∉ u ∧ s = u ++ b :: v := by
  have h := cutB_spec b s
  cases hc : (cutB b s).2.2 with
  | true => exact .inr ⟨_, _, h.1, h.2.1 hc⟩
  | false => rw [(h.2.2 hc).1] at h; exact .inl h.1
theorem cut_lib (b : UInt8) (s : List UInt8) : Lib.cut s [b] = cutB b s := by
  rcases part_of b s with h | ⟨u, v, h, rfl⟩
  · rw [cutB_no b s h, Lib.cut, idx_no b s h]; simp
  · rw [cutB_at b u v h, Lib.cut, idx_at b u v h]
    simp
theorem count_lib (b : UInt8) : ∀ (f : Nat) (s : List UInt8), s.length < f → Lib.countFrom [b] f s = s.count b := by
  intro f
  induction f with
  | zero => intro s h; omega
  | succ f ih =>
    intro s hf
    unfold Lib.countFrom
    rcases part_of b s with h | ⟨u, v, h, rfl⟩
    · rw [idx_no b s h, List.count_eq_zero_of_not_mem h]; rfl
    · rw [idx_at b u v h]
      have h2 : (((u.length : Nat) : Int) == -1) = false := by simp
      rw [h2]
      have h3 : (u ++ b :: v).drop (((u.length : Nat) : Int).toNat + [b].length) = v := by
        rw [Int.toNat_natCast, ← List.drop_drop, List.drop_left]; rfl
      rw [h3]
      have hl : v.length < f := by simp at hf; omega
      rw [ih v hl, List.count_append, List.count_eq_zero_of_not_mem h, List.count_cons_self]
      simp; omega
theorem split_lib (b : UInt8) : ∀ (k : Nat) (s : List UInt8), s.count b ≤ k → Lib.splitK [b] 0 k s = splitB b s := by
  intro k
  induction k with
  | zero =>
    intro s hk
    have : b ∉ s := List.count_eq_zero.1 (by omega)
    rw [splitB_no b s this]; rfl
  | succ k ih =>
    intro s hk
    unfold Lib.splitK
    rcases part_of b s with h | ⟨u, v, h, rfl⟩
    · rw [idx_no b s h, splitB_no b s h]; rfl
    · rw [idx_at b u v h, splitB_at b u v h]
      have h2 : (((u.length : Nat) : Int) == -1) = false := by simp
      rw [h2]
      have h3 : (u ++ b :: v).drop (((u.length : Nat) : Int).toNat + [b].length) = v := by
        rw [Int.toNat_natCast, ← List.drop_drop, List.drop_left]; rfl
      rw [h3]
      rw [List.count_append, List.count_eq_zero_of_not_mem h, List.count_cons_self] at hk
      rw [ih v (by omega)]
      simp
theorem bs_of_data (x : ByteArray) : bs x.data.toList = x := by cases x; simp [bs]
theorem splitB_lib (b : UInt8) (s : List UInt8) : Lib.splitB (bs [b]) 0 (Lib.countB (bs s) (bs [b])) (bs s) = (splitB b s).map bs := by
  have h := Lib.splitB_data (bs [b]) 0 (Lib.countB (bs s) (bs [b])) (bs s)
  have hb : (bs [b]).data.toList = [b] := by simp [bs]
  have hs : (bs s).data.toList = s := by simp [bs]
  rw [hb, hs] at h
  have hc : Lib.countB (bs s) (bs [b]) = s.count b := by
    show Lib.count (bs s).data.toList (bs [b]).data.toList = _
    rw [hb, hs]
    exact count_lib b _ s (by omega)
  rw [hc] at h ⊢
  rw [split_lib b _ s (Nat.le_refl _)] at h
  rw [← h, List.map_map]
  conv => lhs; rw [← List.map_id (Lib.splitB (bs [b]) 0 (s.count b) (bs s))]
  exact List.map_congr_left fun x _ => (bs_of_data x).symm
theorem countB_lib (b : UInt8) (s : List UInt8) : Lib.countB (bs s) (bs [b]) + 1 = (splitB b s).length := by
  have h := congrArg List.length (splitB_lib b s)
  rw [List.length_map] at h
  rw [← h]
  have hc : ∀ (k : Nat) (t : List UInt8), t.count b = k → (Lib.splitK [b] 0 k t).length = k + 1 := by
    intro k
    induction k with
    | zero => intro t _; rfl
    | succ k ih =>
      intro t ht
      unfold Lib.splitK
      rcases part_of b t with h | ⟨u, v, h, rfl⟩
      · rw [List.count_eq_zero_of_not_mem h] at ht; omega
      · rw [idx_at b u v h]
        have h2 : (((u.length : Nat) : Int) == -1) = false := by simp
        rw [h2]
        have h3 : (u ++ b :: v).drop (((u.length : Nat) : Int).toNat + [b].length) = v := by
          rw [Int.toNat_natCast, ← List.drop_drop, List.drop_left]; rfl
        rw [h3]
        rw [List.count_append, List.count_eq_zero_of_not_mem h, List.count_cons_self] at ht
        simp only [Bool.false_eq_true, if_false, List.length_cons]
        rw [ih v (by omega)]
  have h2 := congrArg List.length (Lib.splitB_data (bs [b]) 0 (Lib.countB (bs s) (bs [b])) (bs s))
  rw [List.length_map] at h2
  rw [h2]
  have hb : (bs [b]).data.toList = [b] := by simp [bs]
  have hs : (bs s).data.toList = s := by simp [bs]
  rw [hb, hs]
  have hcc : Lib.countB (bs s) (bs [b]) = s.count b := by
    show Lib.count (bs s).data.toList (bs [b]).data.toList = _
    rw [hb, hs]
    exact count_lib b _ s (by omega)
  rw [hcc, hc _ _ rfl]

theorem nodig_of {c : UInt8} (h : isDig c = true) : c ≠ 32 ∧ c ≠ 10 := by
  simp only [isDig, Bool.and_eq_true, decide_eq_true_eq] at h
  refine ⟨fun e => ?_, fun e => ?_⟩ <;> subst e <;> exact absurd h.1 (by decide)
theorem dec_plain (z : Int) : ∀ c ∈ dec z, c ≠ 32 ∧ c ≠ 10 := fun c hc => nodig_of (dec_digs _ c hc)

def okX (x : Nt) : Prop := 0 ≤ x.1 ∧ 0 ≤ x.2.1 ∧ 0 ≤ x.2.2
def lineU (x : Nt) : List UInt8 := dec x.1 ++ 32 :: (dec x.2.1 ++ 32 :: dec x.2.2)
theorem lineOf_U (x : Nt) : lineOf x = lineU x ++ [10] := by simp [lineOf, lineU]
theorem split_line (x : Nt) : splitB 32 (lineU x) = [dec x.1, dec x.2.1, dec x.2.2] := by
  unfold lineU
  rw [splitB_at 32 _ _ (fun e => (dec_plain _ _ e).1 rfl), splitB_at 32 _ _ (fun e => (dec_plain _ _ e).1 rfl), splitB_no 32 _ (fun e => (dec_plain _ _ e).1 rfl)]
theorem line_no10 (x : Nt) : 10 ∉ lineU x := by
  intro e
  unfold lineU at e
  rcases List.mem_append.1 e with e | e
  · exact (dec_plain _ _ e).2 rfl
  · rcases List.mem_cons.1 e with e | e
    · exact absurd e (by decide)
    · rcases List.mem_append.1 e with e | e
      · exact (dec_plain _ _ e).2 rfl
      · rcases List.mem_cons.1 e with e | e
        · exact absurd e (by decide)
        · exact (dec_plain _ _ e).2 rfl
theorem textOf_cons (x : Nt) (l : List Nt) : textOf (x :: l) = lineU x ++ 10 :: textOf l := by simp [textOf, lineOf_U]
theorem split_text : ∀ (l : List Nt), splitB 10 (textOf l) = l.map lineU ++ [[]]
  | [] => rfl
  | x :: l => by
    rw [textOf_cons, splitB_at 10 _ _ (line_no10 x), split_text l]
    rfl

theorem good_ok {l : List Nt} (h : goodB l = true) : (∀ x ∈ l, okX x ∧ x.1 ≤ 2000 ∧ x.2.1 ≤ 2000 ∧ x.2.2 ≤ 2000) ∧ l.length ≤ 60 := by
  have hg := (goodB_iff l).1 h
  refine ⟨fun x hx => ?_, hg.2⟩
  have hv := (noteN_iff x).1 (hg.valid x hx)
  exact ⟨⟨by omega, by omega, by omega⟩, by omega, by omega, by omega⟩

/-- What the program reads of words: all their numbers, if each is one. -/
def numsL : List (List UInt8) → Option (List Int)
  | [] => some []
  | u :: r => if numOk u = true then (numsL r).map ((valL u : Int) :: ·) else none
/-- What the program reads of a line. -/
def ntL (u : List UInt8) : Option Nt :=
  match numsL (splitB 32 u) with
  | some [a, b, c] => some (a, b, c)
  | _ => none
def readAll : List (List UInt8) → Option (List Nt)
  | [] => some []
  | u :: r => match ntL u with
    | some x => (readAll r).map (x :: ·)
    | none => none
theorem numsL_of : ∀ {us : List (List UInt8)} {ns : List Int}, numsL us = some ns → us = ns.map dec ∧ (∀ n ∈ ns, 0 ≤ n)
  | [], ns, h => by simp [numsL] at h; subst h; exact ⟨rfl, by simp⟩
  | u :: r, ns, h => by
    unfold numsL at h
    split at h
    · rename_i hu
      obtain ⟨m, hm, rfl⟩ := Option.map_eq_some_iff.1 h
      obtain ⟨h1, h2⟩ := numsL_of hm
      refine ⟨by rw [h1, List.map_cons, dec_of_numOk hu], ?_⟩
      intro n hn
      rcases List.mem_cons.1 hn with rfl | hn
      · exact Int.natCast_nonneg _
      · exact h2 n hn
    · cases h
theorem numsL_dec : ∀ (ns : List Int), (∀ n ∈ ns, 0 ≤ n ∧ n ≤ 2000) → numsL (ns.map dec) = some ns
  | [], _ => rfl
  | n :: ns, h => by
    have h1 := h n (by simp)
    have a := numOk_dec (s := dec n) h1.1 (by omega) rfl
    rw [List.map_cons, numsL, if_pos a.1, numsL_dec ns (fun m hm => h m (by simp [hm])), a.2]
    rfl
theorem ntL_of {u : List UInt8} {x : Nt} (h : ntL u = some x) : okX x ∧ lineU x = u := by
  unfold ntL at h
  split at h
  · rename_i a b c hs
    injection h with h
    subst h
    obtain ⟨h1, h2⟩ := numsL_of hs
    have hj := splitB_join 32 u
    refine ⟨⟨h2 a (by simp), h2 b (by simp), h2 c (by simp)⟩, ?_⟩
    rw [← hj, h1]
    simp [lineU, Lib.join_cons, Lib.joinTail]
  · cases h
theorem ntL_line {x : Nt} (h : okX x) (h0 : x.1 ≤ 2000) (h1 : x.2.1 ≤ 2000) (h2 : x.2.2 ≤ 2000) : ntL (lineU x) = some x := by
  unfold ntL
  rw [split_line, show [dec x.1, dec x.2.1, dec x.2.2] = [x.1, x.2.1, x.2.2].map dec from rfl, numsL_dec _ (by
    intro n hn
    simp only [List.mem_cons, List.not_mem_nil, or_false] at hn
    have a := h.1; have b := h.2.1; have c := h.2.2
    rcases hn with rfl | rfl | rfl <;> omega)]
theorem readAll_of : ∀ {us : List (List UInt8)} {l : List Nt}, readAll us = some l → us = l.map lineU ∧ ∀ x ∈ l, okX x
  | [], l, h => by simp [readAll] at h; subst h; exact ⟨rfl, by simp⟩
  | u :: r, l, h => by
    unfold readAll at h
    split at h
    · rename_i x hx
      obtain ⟨m, hm, rfl⟩ := Option.map_eq_some_iff.1 h
      obtain ⟨h1, h2⟩ := readAll_of hm
      obtain ⟨h3, h4⟩ := ntL_of hx
      refine ⟨by rw [h1, List.map_cons, h4], ?_⟩
      intro y hy
      rcases List.mem_cons.1 hy with rfl | hy
      · exact h3
      · exact h2 y hy
    · cases h
theorem readAll_lines : ∀ (l : List Nt), (∀ x ∈ l, okX x ∧ x.1 ≤ 2000 ∧ x.2.1 ≤ 2000 ∧ x.2.2 ≤ 2000) → readAll (l.map lineU) = some l
  | [], _ => rfl
  | x :: l, h => by
    have hx := h x (by simp)
    rw [List.map_cons, readAll, ntL_line hx.1 hx.2.1 hx.2.2.1 hx.2.2.2]
    simp only
    rw [readAll_lines l (fun y hy => h y (by simp [hy]))]
    rfl
/-- What the program reads of a whole text. -/
def readT (s : List UInt8) : Option (List Nt) := if (splitB 10 s).getLast? = some [] then readAll (splitB 10 s).dropLast else none
theorem last_split {l : List (List UInt8)} {x : List UInt8} (h : l.getLast? = some x) : l.dropLast ++ [x] = l := by
  obtain ⟨ys, rfl⟩ := List.getLast?_eq_some_iff.1 h
  simp
theorem readT_of {s : List UInt8} {l : List Nt} (h : readT s = some l) : textOf l = s := by
  unfold readT at h
  split at h
  · rename_i hl
    have hj := splitB_join 10 s
    have hd := last_split hl
    rw [(readAll_of h).1] at hd
    have : splitB 10 s = splitB 10 (textOf l) := by rw [split_text, ← hd]
    rw [← hj, this, splitB_join]
  · cases h
theorem readT_text {l : List Nt} (hg : goodB l = true) : readT (textOf l) = some l := by
  unfold readT
  rw [split_text]
  rw [if_pos (by simp)]
  rw [List.dropLast_concat]
  exact readAll_lines l (good_ok hg).1
theorem text_inj {l m : List Nt} (hl : goodB l = true) (hm : goodB m = true) (h : textOf l = textOf m) : l = m := by
  have h1 := readT_text hl
  rw [h, readT_text hm] at h1
  exact (Option.some.inj h1).symm

/-- What either side says of a string: the sheet with this text, or that there is none. -/
def ScOf (s : List UInt8) (base : Nat) (w : World) (e : Ending) : Prop :=
  (∃ l v, goodB l = true ∧ textOf l = s ∧ e = .returned (.tuple #[v, .bool true]) ∧ Own w base 37 v l) ∨
  ((∀ l, goodB l = true → textOf l ≠ s) ∧ e = .returned (.tuple #[.slice none 0 0, .bool false]))
theorem none_no {s : List UInt8} (h : readT s = none) : ∀ l, goodB l = true → textOf l ≠ s := by
  intro l hl ht
  rw [← ht, readT_text hl] at h
  cases h
theorem bad_no {s : List UInt8} {l : List Nt} (h : readT s = some l) (hb : goodB l = false) : ∀ m, goodB m = true → textOf m ≠ s := by
  intro m hm ht
  rw [← ht, readT_text hm] at h
  rw [Option.some.inj h, hb] at hm
  cases hm

/-- What the model reads of a line. -/
def rdM (u : List UInt8) : Nt := (readL ((splitB 32 u).getD 0 []), readL ((splitB 32 u).getD 1 []), readL ((splitB 32 u).getD 2 []))
theorem readL_dec4 (z : Int) (h : 0 ≤ z) (h' : z ≤ 2000) : readL (dec z) = z := by
  have hl := dec_len z h'
  unfold readL
  unfold dec at hl ⊢
  rw [if_pos ⟨plain_dec _, by omega⟩, dec_val]
  omega
theorem rdM_line {x : Nt} (h : okX x) (h0 : x.1 ≤ 2000) (h1 : x.2.1 ≤ 2000) (h2 : x.2.2 ≤ 2000) : rdM (lineU x) = x := by
  unfold rdM
  rw [split_line]
  simp [readL_dec4 _ h.1 h0, readL_dec4 _ h.2.1 h1, readL_dec4 _ h.2.2 h2]
/-- The lines of a sheet's text. -/
theorem model_lines {s : List UInt8} {m : List Nt} (hm : goodB m = true) (ht : textOf m = s) : (splitB 10 s).length ≤ 61 ∧ (∀ k u, k + 1 < (splitB 10 s).length → (splitB 10 s)[k]? = some u → (splitB 32 u).length = 3) ∧ ((splitB 10 s).take ((splitB 10 s).length - 1)).map rdM = m := by
  obtain ⟨hk, h60⟩ := good_ok hm
  have hs := split_text m
  rw [ht] at hs
  rw [hs]
  refine ⟨by simp; omega, fun k u hlt hu => ?_, ?_⟩
  · simp only [List.length_append, List.length_map, List.length_cons, List.length_nil] at hlt
    rw [List.getElem?_append_left (by simp; omega), List.getElem?_map] at hu
    obtain ⟨x, hx, rfl⟩ := Option.map_eq_some_iff.1 hu
    rw [split_line]
    rfl
  · have e : (m.map lineU ++ [[]]).length - 1 = (m.map lineU).length := by simp
    rw [e, List.take_left' rfl, List.map_map]
    conv => rhs; rw [← List.map_id m]
    exact List.map_congr_left fun x hx => rdM_line (hk x hx).1 (hk x hx).2.1 (hk x hx).2.2.1 (hk x hx).2.2.2

end Go.Proofs.YtfjcnomingbneaaDoor
