/- Plain: lost notes, tables of losses, full and best transpositions, nearest pitches, classes of pitches. Nothing of the program's text. -/
import Derived.Test.YtbdffmacpajebaaDoorMisP
namespace Go.Proofs.YtbdffmacpajebaaDoor
set_option linter.unusedVariables false

/-- A note is lost with a transposition. -/
def lostB (l : List Int) (b : Int) (x : Nt) : Bool := !hasB l (x.1 + b)
/-- How many notes are lost. -/
def lossI (l : List Int) (m : List Nt) (b : Int) : Int := ((m.countP (lostB l b) : Nat) : Int)
theorem lossI_nil (l : List Int) (b : Int) : lossI l [] b = 0 := rfl
theorem lossI_snoc (l : List Int) (m : List Nt) (b : Int) (k : Nat) (x : Nt) (h : m[k]? = some x) : lossI l (m.take (k + 1)) b = lossI l (m.take k) b + if lostB l b x = true then 1 else 0 := by
  unfold lossI
  rw [List.take_add_one, h, Option.toList_some, List.countP_append]
  simp only [List.countP_cons, List.countP_nil]
  split <;> simp
theorem lossI_bound (l : List Int) (m : List Nt) (b : Int) : 0 ≤ lossI l m b ∧ lossI l m b ≤ m.length := by
  unfold lossI
  have := List.countP_le_length (p := lostB l b) (l := m)
  omega
theorem lossI_take (l : List Int) (m : List Nt) (b : Int) (k : Nat) (h : m.length ≤ 30) : 0 ≤ lossI l (m.take k) b ∧ lossI l (m.take k) b ≤ 30 := by
  have := lossI_bound l (m.take k) b
  have h2 : (m.take k).length ≤ m.length := by simp; omega
  omega

/-- The places of the array that are true when the first k notes are looked at. -/
def lostF (l : List Int) (m : List Nt) (b : Int) (k j : Nat) : Bool := decide (j < k) && (m[j]?).any (lostB l b)
theorem lostF_zero (l : List Int) (m : List Nt) (b : Int) (j : Nat) : lostF l m b 0 j = false := by simp [lostF]
theorem lostF_step (l : List Int) (m : List Nt) (b : Int) (k j : Nat) (x : Nt) (h : m[k]? = some x) : lostF l m b (k + 1) j = if j = k then lostB l b x else lostF l m b k j := by
  unfold lostF
  by_cases e : j = k
  · subst e
    rw [if_pos rfl, h]
    simp
  · rw [if_neg e]
    have : decide (j < k + 1) = decide (j < k) := by rw [decide_eq_decide]; omega
    rw [this]
/-- All of them. -/
def lostL (l : List Int) (m : List Nt) (b : Int) (j : Nat) : Bool := lostF l m b m.length j
theorem lostL_eq (l : List Int) (m : List Nt) (b : Int) (j : Nat) : lostL l m b j = (m[j]?).any (lostB l b) := by
  unfold lostL lostF
  by_cases h : j < m.length
  · simp [h]
  · rw [List.getElem?_eq_none (by omega)]
    simp
/-- How many of the first n places are true. -/
def trueN (f : Nat → Bool) (n : Nat) : Int := (((List.range n).countP f : Nat) : Int)
theorem trueN_zero (f : Nat → Bool) : trueN f 0 = 0 := rfl
theorem trueN_succ (f : Nat → Bool) (n : Nat) : trueN f (n + 1) = trueN f n + if f n = true then 1 else 0 := by
  unfold trueN
  rw [List.range_succ, List.countP_append]
  simp only [List.countP_cons, List.countP_nil]
  split <;> simp
theorem trueN_bound (f : Nat → Bool) (n : Nat) : 0 ≤ trueN f n ∧ trueN f n ≤ n := by
  unfold trueN
  have := List.countP_le_length (p := f) (l := List.range n)
  rw [List.length_range] at this
  omega
theorem trueN_lost (l : List Int) (m : List Nt) (b : Int) : ∀ n, trueN (lostL l m b) n = lossI l (m.take n) b := by
  intro n
  induction n with
  | zero => simp [lossI, trueN]
  | succ n ih =>
    rw [trueN_succ, ih, lostL_eq]
    cases h : m[n]? with
    | some x => rw [lossI_snoc l m b n x h]; simp
    | none =>
      have hn : m.length ≤ n := by
        rcases Nat.lt_or_ge n m.length with h' | h'
        · rw [List.getElem?_eq_getElem h'] at h; cases h
        · exact h'
      rw [List.take_of_length_le hn, List.take_of_length_le (by omega)]
      simp
theorem trueN_loss (l : List Int) (m : List Nt) (b : Int) (h : m.length ≤ 30) : trueN (lostL l m b) 30 = lossI l m b := by
  rw [trueN_lost, List.take_of_length_le h]
/-- No place is true just where nothing is lost. -/
theorem none_lost (l : List Int) (m : List Nt) (b : Int) (h : m.length ≤ 30) : (∀ j, j < 30 → lostL l m b j = false) ↔ lossI l m b = 0 := by
  rw [← trueN_loss l m b h]
  unfold trueN
  rw [show ((((List.range 30).countP (lostL l m b) : Nat) : Int) = 0) ↔ (List.range 30).countP (lostL l m b) = 0 from by omega, List.countP_eq_zero]
  constructor
  · intro h j hj
    rw [h j (List.mem_range.1 hj)]; simp
  · intro h j hj
    have := h j (List.mem_range.2 hj)
    simpa using this

/-- The losses of the first k transpositions, from -24 on. -/
def tabL (l : List Int) (m : List Nt) (k : Nat) : List Int := (List.range k).map fun (i : Nat) => lossI l m ((i : Int) - 24)
theorem tabL_length (l : List Int) (m : List Nt) (k : Nat) : (tabL l m k).length = k := by simp [tabL]
theorem tabL_succ (l : List Int) (m : List Nt) (k : Nat) (b : Int) (hb : (k : Int) - 24 = b) : tabL l m (k + 1) = tabL l m k ++ [lossI l m b] := by
  subst hb; simp [tabL, List.range_succ]
/-- Those of them with which nothing is lost. -/
def fullL (l : List Int) (m : List Nt) (k : Nat) : List Int := ((List.range k).filter fun (i : Nat) => decide (lossI l m ((i : Int) - 24) = 0)).map fun (i : Nat) => (i : Int) - 24
theorem fullL_length (l : List Int) (m : List Nt) (k : Nat) : (fullL l m k).length ≤ k := by
  unfold fullL
  rw [List.length_map]
  exact Nat.le_trans (List.length_filter_le _ _) (by simp)
theorem fullL_succ (l : List Int) (m : List Nt) (k : Nat) (b : Int) (hb : (k : Int) - 24 = b) : fullL l m (k + 1) = if lossI l m b = 0 then fullL l m k ++ [b] else fullL l m k := by
  subst hb
  unfold fullL
  rw [List.range_succ, List.filter_append, List.map_append]
  by_cases h : lossI l m ((k : Int) - 24) = 0
  · rw [if_pos h, List.filter_cons_of_pos (by simp [h])]; simp
  · rw [if_neg h, List.filter_cons_of_neg (by simp [h])]; simp

/-- The order in which transpositions are looked at: the nearest ones to 0 first, negative ones before. -/
def ordL (k : Nat) : List Int := (List.range k).flatMap fun (i : Nat) => [-((i : Int) + 1), (i : Int) + 1]
theorem ordL_succ (k : Nat) : ordL (k + 1) = ordL k ++ [-((k : Int) + 1), (k : Int) + 1] := by simp [ordL, List.range_succ]
theorem ordL_length (k : Nat) : (ordL k).length = k * 2 := by
  induction k with
  | zero => rfl
  | succ k ih => rw [ordL_succ, List.length_append, ih]; simp; omega
theorem ordL_bound (k : Nat) (x : Int) (h : x ∈ ordL k) : -(k : Int) ≤ x ∧ x ≤ k := by
  induction k with
  | zero => simp [ordL] at h
  | succ k ih =>
    rw [ordL_succ, List.mem_append] at h
    rcases h with h | h
    · have := ih h; omega
    · simp at h; omega
/-- One of them is looked at: only a less loss replaces one that was found before. -/
def bestS (f : Int → Int) (s : Int × Int) (b : Int) : Int × Int := if f b < s.2 then (b, f b) else s
def bestL (f : Int → Int) (L : List Int) : Int × Int := L.foldl (bestS f) (0, f 0)
theorem bestL_snoc (f : Int → Int) (L : List Int) (k : Nat) (x : Int) (h : L[k]? = some x) : bestL f (L.take (k + 1)) = if f x < (bestL f (L.take k)).2 then (x, f x) else bestL f (L.take k) := by
  unfold bestL
  rw [List.take_add_one, h, Option.toList_some, List.foldl_append]
  rfl
theorem bestL_two (f : Int → Int) (k : Nat) : bestL f (ordL (k + 1)) = bestS f (bestS f (bestL f (ordL k)) (-((k : Int) + 1))) ((k : Int) + 1) := by
  unfold bestL
  rw [ordL_succ, List.foldl_append]
  rfl
theorem bestL_inv (f : Int → Int) (P : Int × Int → Prop) (L : List Int) (h0 : P (0, f 0)) (hs : ∀ x ∈ L, P (x, f x)) : P (bestL f L) := by
  unfold bestL
  have : ∀ (L : List Int) (s : Int × Int), P s → (∀ x ∈ L, P (x, f x)) → P (L.foldl (bestS f) s) := by
    intro L
    induction L with
    | nil => intro s hs _; exact hs
    | cons x L ih =>
      intro s hs hL
      rw [List.foldl_cons]
      refine ih _ ?_ fun y hy => hL y (List.mem_cons_of_mem _ hy)
      unfold bestS
      split
      · exact hL x (by simp)
      · exact hs
  exact this L _ h0 hs

/-- The nearest pitch that differs by a multiple: one more is looked at. -/
def nearS (p n : Int) (s : Option Int) (x : Int) : Option Int :=
  if (x - p).tmod n = 0 then
    match s with
    | none => some x
    | some y => if (x - p).natAbs < (y - p).natAbs then some x else some y
  else s
def nearL (p n : Int) (l : List Int) : Option Int := l.foldl (nearS p n) none
theorem nearL_snoc (p n : Int) (l : List Int) (k : Nat) (x : Int) (h : l[k]? = some x) : nearL p n (l.take (k + 1)) = nearS p n (nearL p n (l.take k)) x := by
  unfold nearL
  rw [List.take_add_one, h, Option.toList_some, List.foldl_append]
  rfl
theorem nearL_mem (p n : Int) (l : List Int) (y : Int) (h : nearL p n l = some y) : y ∈ l := by
  have key : ∀ (l : List Int) (s : Option Int) (Q : Int → Prop), (∀ y, s = some y → Q y) → (∀ x ∈ l, Q x) → ∀ y, l.foldl (nearS p n) s = some y → Q y := by
    intro l
    induction l with
    | nil => intro s Q hs _ y hy; exact hs y hy
    | cons x l ih =>
      intro s Q hs hl y hy
      rw [List.foldl_cons] at hy
      refine ih _ Q ?_ (fun z hz => hl z (List.mem_cons_of_mem _ hz)) y hy
      intro z hz
      unfold nearS at hz
      split at hz
      · cases s with
        | none => simp at hz; subst hz; exact hl _ (by simp)
        | some u =>
          simp only at hz
          split at hz
          · simp at hz; subst hz; exact hl _ (by simp)
          · simp at hz; subst hz; exact hs _ rfl
      · exact hs z hz
  exact key l none (fun y => y ∈ l) (fun y hy => by cases hy) (fun x hx => hx) y h
theorem nearL_take (p n : Int) (l : List Int) (k : Nat) (y : Int) (h : nearL p n (l.take k) = some y) : y ∈ l := List.mem_of_mem_take (nearL_mem p n _ y h)

/-- Pitches as notes: that what is said of notes' pitches serves for residues too. -/
def resN (l : List Int) : List Nt := l.map fun x => (x.tmod 12, 0, 0)
theorem resN_length (l : List Int) : (resN l).length = l.length := by simp [resN]
theorem resN_get (l : List Int) (k : Nat) (x : Int) (h : l[k]? = some x) : (resN l)[k]? = some (x.tmod 12, 0, 0) := by simp [resN, h]
/-- The classes of pitches: put one after another. -/
def clsL (l : List Int) (k : Nat) : List Int := atF (fun _ => true) ((resN l).take k)
/-- All residues in order of the pitches. -/
def resL (l : List Int) (k : Nat) : List Int := psF (fun _ => true) ((resN l).take k)
theorem clsL_zero (l : List Int) : clsL l 0 = [] := rfl
theorem resL_zero (l : List Int) : resL l 0 = [] := rfl
theorem clsL_succ (l : List Int) (k : Nat) (x : Int) (h : l[k]? = some x) : clsL l (k + 1) = putL (x.tmod 12) (clsL l k) := by
  unfold clsL; rw [atF_snoc _ _ _ _ (resN_get l k x h), if_pos rfl]
theorem resL_succ (l : List Int) (k : Nat) (x : Int) (h : l[k]? = some x) : resL l (k + 1) = resL l k ++ [x.tmod 12] := by
  unfold resL; rw [psF_snoc _ _ _ _ (resN_get l k x h), if_pos rfl]
theorem clsL_inc (l : List Int) (k : Nat) (h : k ≤ l.length) : Inc (clsL l k) := atF_inc _ _ k (by rw [resN_length]; exact h)
theorem clsL_length (l : List Int) (k : Nat) (h : k ≤ l.length) : (clsL l k).length ≤ k := atF_length _ _ k (by rw [resN_length]; exact h)
theorem resL_length (l : List Int) (k : Nat) : (resL l k).length ≤ k := by
  unfold resL
  refine Nat.le_trans (psF_length _ _) ?_
  rw [List.length_take]; omega
theorem compact_res (l : List Int) (k : Nat) : Go.Lib.compact ((resL l k).mergeSort fun x y => decide (x ≤ y)) = clsL l k := compact_atF _ _
end Go.Proofs.YtbdffmacpajebaaDoor
