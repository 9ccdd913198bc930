/- Texts of the proof, run together: AppN, FoldP, InsL, IsScore, LimR, RetS. -/
import Derived.Test.YtogklldofhcohaaDoorM3q
import Derived.Test.YtogklldofhcohaaDoorM1q
import Derived.OwnWalk
import Derived.Deep.AppendLies
import Derived.Deep.RegionLaw
import Derived.Deep.RegionHeld3
import Derived.Test.YtogklldofhcohaaDoorM2q
import Derived.Lib.BufferWrite
import Derived.Lib.QuietBelow
import Derived.Deep.OwnRows
import Derived.LaidMore
import Derived.OpenShut
import Derived.ChangeVars
import Derived.Lib.LaidU8
import Derived.Stop.Joined
import Derived.ProofKit
import Derived.Lib.SmallJoins
import Derived.Deep.Slices
import Derived.Deep.Fields
import Derived.ChangeSame
namespace Go.Proofs.YtogklldofhcohaaDoor
open Go.RowKit
set_option linter.unusedVariables false
set_option linter.unusedSimpArgs false

theorem wp_appN (w : World) {o : Oper} {a : Act} {K : Act → World → Prop} {Q : Exit → Act → World → Prop} (s x : Operand)
    (ho : o.op = .call { callee := .builtin .append, args := #[s, x], argTypes := #[28, 28] })
    (base : Nat) (v : Value) (xs : List Nt) (hs : a.eval s = v) (hown : Own w base 47 v xs)
    (A : Option Addr) (m c : Nat) (news : List Nt) (hx : a.eval x = .slice A m c) (hl : news.length = m) (hA : A = none → c = 0)
    (hnews : RA w A news) (hsz : xs.length + m ≤ 4000000) (hbase : base ≤ w.heap.size)
    (h : ∀ v' w', Own w' base 47 v' (xs ++ news) → w.grownBy w' v.ownBlock → K (a.put o.dst v') w') : o.wp Tryd.prog a w K Q := by
  obtain ⟨i, hi, hz, hs1, hb1⟩ := info_parts Tryd.info_Note
  refine wp_app w s x 28 ho base 47 i _ 3 24 Tryd.underlying28 hi hz hs1 hb1 rfl (by decide) v xs.length (cl xs) hs hown A m c (cl news) hx (by rw [cl_length, hl]) hA (fun j u hu => hnews.cells j u hu) (cl_one news) (by unfold maxLen; omega) (by omega) hbase ?_
  intro v' w' h1 h2 h3
  refine h v' w' ?_ h2
  unfold Own
  rw [cl_append, List.length_append, hl]
  exact h1

theorem step_appN {w : World} {ops : Array Oper} {o : Oper} {a : Act} {K : Act → World → Prop} {Q : Exit → Act → World → Prop} {E : Prop} (hgd : o.guard = none) (s x : Operand)
    (ho : o.op = .call { callee := .builtin .append, args := #[s, x], argTypes := #[28, 28] })
    (base : Nat) (v : Value) (xs : List Nt) (hs : a.eval s = v) (hown : Own w base 47 v xs)
    (A : Option Addr) (m c : Nat) (news : List Nt) (hx : a.eval x = .slice A m c) (hl : news.length = m) (hA : A = none → c = 0)
    (hnews : RA w A news) (hsz : xs.length + m ≤ 4000000) (hbase : base ≤ w.heap.size)
    (h : ∀ v' w', Own w' base 47 v' (xs ++ news) → w.grownBy w' v.ownBlock → K (a.put o.dst v') w') :
    if Region.wanted o (yielded ops a.tmps) = true then Oper.wp Tryd.prog o a w K Q else E := by
  have hw : Region.wanted o (yielded ops a.tmps) = true := by simp [Region.wanted, hgd]
  rw [if_pos hw]
  exact wp_appN w s x ho base v xs hs hown A m c news hx hl hA hnews hsz hbase h

theorem wpList_appN (w : World) {ops : Array Oper} {rest : List Oper} {o : Oper} {a : Act} {Q : Exit → Act → World → Prop} (hgd : o.guard = none) (s x : Operand)
    (ho : o.op = .call { callee := .builtin .append, args := #[s, x], argTypes := #[28, 28] })
    (base : Nat) (v : Value) (xs : List Nt) (hs : a.eval s = v) (hown : Own w base 47 v xs)
    (A : Option Addr) (m c : Nat) (news : List Nt) (hx : a.eval x = .slice A m c) (hl : news.length = m) (hA : A = none → c = 0)
    (hnews : RA w A news) (hsz : xs.length + m ≤ 4000000) (hbase : base ≤ w.heap.size)
    (h : ∀ v' w', Own w' base 47 v' (xs ++ news) → w.grownBy w' v.ownBlock → wpList Tryd.prog ops Q rest (a.put o.dst v') w') : wpList Tryd.prog ops Q (o :: rest) a w :=
  wpList_plain hgd fun _ hK => wp_appN w s x ho base v xs hs hown A m c news hx hl hA hnews hsz hbase fun v' w' h2 h3 => hK _ _ (h v' w' h2 h3)
end Go.Proofs.YtogklldofhcohaaDoor

namespace Go.Proofs.YtogklldofhcohaaDoor
set_option linter.unusedVariables false

/-- The pitch to which a transposed pitch is folded, or -1. -/
def fpI (l : List Int) (b : Int) (x : Nt) : Int := if inR (x.1 + b) 24 96 = true then (nearL (x.1 + b) 12 l).getD (-1) else -1
/-- One note more is kept, if it is a score then. -/
def keepS (s : List Nt) (y : Nt) : List Nt := if goodB (canon (s ++ [y])) = true then canon (s ++ [y]) else s
def foldS (l : List Int) (b : Int) (s : List Nt) (x : Nt) : List Nt := keepS s (fpI l b x, x.2.1, x.2.2)
def foldL (l : List Int) (m : List Nt) (b : Int) : List Nt := m.foldl (foldS l b) []
theorem foldL_snoc (l : List Int) (m : List Nt) (b : Int) (k : Nat) (x : Nt) (h : m[k]? = some x) : foldL l (m.take (k + 1)) b = keepS (foldL l (m.take k) b) (fpI l b x, x.2.1, x.2.2) := by
  unfold foldL
  rw [List.take_add_one, h, Option.toList_some, List.foldl_append]
  rfl
theorem good_nil : goodB [] = true := (goodB_iff []).2 ⟨fun i x hi hx => by simp at hi, by simp⟩
theorem keepS_good (s : List Nt) (y : Nt) (h : goodB s = true) : goodB (keepS s y) = true := by
  unfold keepS
  split
  · assumption
  · exact h
theorem foldl_good (l : List Int) (b : Int) : ∀ (m s : List Nt), goodB s = true → goodB (m.foldl (foldS l b) s) = true := by
  intro m
  induction m with
  | nil => intro s h; exact h
  | cons x m ih => intro s h; rw [List.foldl_cons]; exact ih _ (keepS_good s _ h)
theorem foldL_good (l : List Int) (m : List Nt) (b : Int) : goodB (foldL l m b) = true := foldl_good l b m [] good_nil
theorem foldL_thirty (l : List Int) (m : List Nt) (b : Int) : (foldL l m b).length ≤ 30 := ((goodB_iff _).1 (foldL_good l m b)).2
theorem keepS_yes {s : List Nt} {y : Nt} (h : goodB (canon (s ++ [y])) = true) : keepS s y = canon (s ++ [y]) := by unfold keepS; rw [if_pos h]
theorem keepS_no {s : List Nt} {y : Nt} (h : goodB (canon (s ++ [y])) = false) : keepS s y = s := by unfold keepS; rw [if_neg (by rw [h]; simp)]
theorem keepS_length (s : List Nt) (y : Nt) : (keepS s y).length = if goodB (canon (s ++ [y])) = true then s.length + 1 else s.length := by
  unfold keepS
  split
  · rw [canon_length]; simp
  · rfl
theorem foldL_length (l : List Int) (m : List Nt) (b : Int) (k : Nat) (hk : k ≤ m.length) : (foldL l (m.take k) b).length ≤ k := by
  induction k with
  | zero => simp [foldL]
  | succ k ih =>
    have hx : m[k]? = some m[k] := List.getElem?_eq_getElem (by omega)
    rw [foldL_snoc l m b k _ hx, keepS_length]
    have := ih (by omega)
    split <;> omega
/-- How many are left out. -/
def leftI (l : List Int) (m : List Nt) (b : Int) : Int := (m.length : Int) - ((foldL l m b).length : Int)
theorem leftI_bound (l : List Int) (m : List Nt) (b : Int) : 0 ≤ leftI l m b ∧ leftI l m b ≤ m.length := by
  have := foldL_length l m b m.length (Nat.le_refl _)
  rw [List.take_length] at this
  unfold leftI
  omega
theorem leftI_nil (l : List Int) (b : Int) : leftI l [] b = 0 := rfl
theorem leftI_snoc (l : List Int) (m : List Nt) (b : Int) (k : Nat) (x : Nt) (h : m[k]? = some x) :
    leftI l (m.take (k + 1)) b = leftI l (m.take k) b + if goodB (canon (foldL l (m.take k) b ++ [(fpI l b x, x.2.1, x.2.2)])) = true then 0 else 1 := by
  have hk := (List.getElem?_eq_some_iff.1 h).1
  unfold leftI
  rw [foldL_snoc l m b k x h, keepS_length, List.length_take, List.length_take]
  split <;> omega
theorem good_note {zs : List Nt} {y : Nt} (h : goodB zs = true) (hy : y ∈ zs) : noteN y = true := by
  obtain ⟨i, hi, rfl⟩ := List.getElem_of_mem hy
  exact (((goodB_iff zs).1 h).1 i _ hi (List.getElem?_eq_getElem hi)).1
theorem not_good {s : List Nt} {y : Nt} (h : noteN y = false) : goodB (canon (s ++ [y])) = false := by
  cases hg : goodB (canon (s ++ [y])) with
  | false => rfl
  | true =>
    have := good_note hg ((canon_perm _).mem_iff.2 (by simp : y ∈ s ++ [y]))
    rw [h] at this; cases this
theorem good_one {y : Nt} (h : noteN y = true) : goodB [y] = true := by
  refine (goodB_iff [y]).2 ⟨?_, by simp⟩
  intro i x hi hx
  have hi0 : i = 0 := by simp at hi; omega
  subst hi0
  simp at hx
  subst hx
  exact ⟨h, fun z h0 => absurd h0 (by omega), fun j z hj => absurd hj (by omega)⟩
/-- A pitch that is folded to none. -/
theorem fp_none {s : List Nt} {a n : Int} : goodB (canon (s ++ [(-1, a, n)])) = false := not_good (by simp [noteN, noteB, inR])
/-- What is folded to a pitch of the instrument. -/
theorem fp_some {l : List Int} {b : Int} {x : Nt} {y : Int} (h : inR (x.1 + b) 24 96 = true) (hy : nearL (x.1 + b) 12 l = some y) : fpI l b x = y := by unfold fpI; rw [if_pos h, hy]; rfl
theorem fp_far {l : List Int} {b : Int} {x : Nt} (h : inR (x.1 + b) 24 96 = false) : fpI l b x = -1 := by unfold fpI; rw [if_neg (by rw [h]; simp)]
theorem fp_lone {l : List Int} {b : Int} {x : Nt} (h : inR (x.1 + b) 24 96 = true) (hy : nearL (x.1 + b) 12 l = none) : fpI l b x = -1 := by unfold fpI; rw [if_pos h, hy]; rfl
end Go.Proofs.YtogklldofhcohaaDoor

namespace Go.Proofs.YtogklldofhcohaaDoor
open Go.RowKit
set_option linter.unusedVariables false
set_option linter.unusedSimpArgs false

theorem Tryd.info_intL : (Tryd.prog.info? 3).map (fun i => (i.zero, i.size, i.bytes)) = some (some (.int .i64 0), 1, 8) := by kernel_rfl

theorem make_ints (n : Nat) (hn : n ≤ 1048576) (W : World) :
    (Instr.makeSlice 22 (.int .i64 (n : Int)) (.int .i64 (n : Int))).run Tryd.prog W = .ok (.slice (some ⟨W.heap.size, 0, none⟩) n n) (W.alloc (.cells (madeCells #[.int .i64 0] (n * 1)) 3)) := by
  obtain ⟨i, hi, hz, hs, hb⟩ := info_parts Tryd.info_intL
  have h := run_make (P := Tryd.prog) W 22 3 i _ Tryd.underlying22 hi hz .i64 .i64 (n : Int) (n : Int) (by omega) (by omega) (by rw [hb]; omega) (by omega)
  rw [hs] at h
  simp only [Int.toNat_natCast] at h
  exact h
theorem made_ci (n : Nat) : (madeCells #[.int .i64 0] (n * 1)).toList = ci (List.replicate n 0) := by
  apply List.ext_getElem?
  intro i
  by_cases hi : i < n
  · simp [madeCells, ci, hi, Nat.mod_one]
  · rw [List.getElem?_eq_none (by simp [size_madeCells]; omega), List.getElem?_eq_none (by rw [ci_length]; simp; omega)]

set_option maxHeartbeats 400000 in
theorem szIntS_any (A : Option Addr) (n c : Nat) (left : Int) (w : World) (hn : n ≤ 9223372036854775807) (h0 : 0 ≤ left) (h1 : left ≤ 1048576) :
    Calls Tryd.prog 18 #[.slice A n c, .int .i64 left] w fun e w' => e = .returned (.int .i64 (if left - n < 0 then -1 else left - n)) ∧ w = w' := by
  by_cases h : left - n < 0
  all_goals
    go_enter Tryd.func18, Tryd.ntmps18
    go_wp2
    go_ret
    exact ⟨ret_int (by simp), rfl⟩

theorem takeI_set (l m : List Int) (k : Nat) (x : Int) (h : l[k]? = some x) (hm : k < m.length) : (l.take k ++ m.drop k).set k x = l.take (k + 1) ++ m.drop (k + 1) := by
  have hk : k < l.length := (List.getElem?_eq_some_iff.1 h).1
  rw [List.set_append_right _ _ (by simp; omega), List.length_take, Nat.min_eq_left (by omega), Nat.sub_self, List.drop_eq_getElem_cons hm, List.set_cons_zero, List.take_add_one, h]
  simp

set_option maxRecDepth 100000 in
set_option maxHeartbeats 1000000 in
theorem toIntS_any (A : Option Addr) (l : List Int) (c : Nat) (w : World) (hn : l.length ≤ 1048576) (hA : RI w A l) :
    Calls Tryd.prog 21 #[.slice A l.length c] w fun e w' => e = .returned (.slice (some ⟨w.heap.size, 0, none⟩) l.length l.length) ∧
      OwnI w' w.heap.size 3 (.slice (some ⟨w.heap.size, 0, none⟩) l.length l.length) l ∧ Below w.heap.size w w' := by
  have hmk := make_ints l.length hn
  go_enter Tryd.func21, Tryd.ntmps21
  go_wp2
  go_loopw [4] (fun i wr => ∃ k : Nat, k ≤ l.length ∧ i = .int .i64 k ∧ OwnI wr w.heap.size 3 (.slice (some ⟨w.heap.size, 0, none⟩) l.length l.length) (l.take k ++ (List.replicate l.length 0).drop k) ∧ Below w.heap.size w wr)
    (fun i _ => l.length - (intOf i).toNat)
  case atStart =>
    refine ⟨0, Nat.zero_le _, rfl, ?_, (Below.refl _ _).alloc (Nat.le_refl _) _⟩
    have h := World.ownsRow_lit (base := w.heap.size) (e := 3) (size := 1) w (madeCells #[.int .i64 0] (l.length * 1)) l.length (Nat.le_refl _) (by unfold maxLen; omega) (size_madeCells _ _)
    rw [made_ci] at h
    simpa [OwnI] using h
  case round =>
    obtain ⟨k, hk, rfl, hown, hb⟩ := hrel
    by_cases hlt : k < l.length
    · have hx : l[k]? = some l[k] := List.getElem?_eq_getElem hlt
      generalize l[k] = x at hx
      obtain ⟨g, o, rfl, hg, h0⟩ := (hA.below hb) k _ hx
      have hz1 : w.heap.size < wr.heap.size := (hown.lt _ rfl).2
      have hL : (l.take k ++ (List.replicate l.length (0 : Int)).drop k).length = l.length := by simp; omega
      unfold OwnI at hown
      rw [hL] at hown
      have f0 := hown.frozenAt k
      have c0 : ∃ u, wr.cell? ⟨w.heap.size, k, none⟩ = some u := by rw [hown.cellAt _ (by omega)]; exact ⟨_, List.getElem?_eq_getElem (by rw [ci_length, hL]; omega)⟩
      obtain ⟨u0, c0⟩ := c0
      have i1 : (0 : Int) ≤ (k : Int) := by omega
      have i2 : (k : Int) < (l.length : Int) := by omega
      have H := Lib.hid hown
      have HX := Lib.hid hx
      clear hown hL hx hA
      go_wp2
      go_roundw
      case rel =>
        have s1 := H.out.stored k (.int .i64 x)
        have k2 := s1.1
        have e1 : (ci (l.take k ++ (List.replicate l.length (0 : Int)).drop k)).set k (.int .i64 x) = ci (l.take (k + 1) ++ (List.replicate l.length (0 : Int)).drop (k + 1)) := by
          rw [← takeI_set l _ k x HX.out (by simpa using hlt)]; simp [ci, List.map_set]
        rw [e1] at k2
        have hL' : (l.take (k + 1) ++ (List.replicate l.length (0 : Int)).drop (k + 1)).length = l.length := by simp; omega
        refine ⟨k + 1, by omega, by go_num, ?_, hb.setCell (by simp) _⟩
        unfold OwnI
        rw [hL']
        exact k2
      case measure => simp [intOf]; omega
    · obtain rfl : k = l.length := by omega
      go_wp2
      go_ret
      exact ⟨rfl, by simpa using hown, hb⟩

set_option maxHeartbeats 400000 in
theorem szIns_any (A : Option Addr) (n c : Nat) (r left : Int) (w : World) (hn : n ≤ 9223372036854775807) (h0 : 0 ≤ left) (h1 : left ≤ 1048576) :
    Calls Tryd.prog 5 #[.agg #[.slice A n c, .int .i64 r], .int .i64 left] w fun e w' => e = .returned (.int .i64 (if left - n < 0 then -1 else left - n)) ∧ Below w.heap.size w w' := by
  by_cases h : left - n < 0
  all_goals
    go_enter Tryd.func5, Tryd.ntmps5
    go_wp2_with (go_at_call 18; refine (szIntS_any _ _ _ _ _ hn h0 h1).mono ?_; rintro e w1 ⟨rfl, rfl⟩)
    go_ret
    exact ⟨ret_int (by simp [*]), (Below.refl _ _).alloc (Nat.le_refl _) _⟩

set_option maxRecDepth 100000 in
set_option maxHeartbeats 1000000 in
theorem toIns_any (A : Option Addr) (l : List Int) (c : Nat) (r : Int) (w : World) (hn : l.length ≤ 1048576) (hA : RI w A l) :
    Calls Tryd.prog 8 #[.agg #[.slice A l.length c, .int .i64 r]] w fun e w' => ∃ g, w.heap.size ≤ g ∧ e = .returned (.agg #[.slice (some ⟨g, 0, none⟩) l.length l.length, .int .i64 r]) ∧
      OwnI w' w.heap.size 3 (.slice (some ⟨g, 0, none⟩) l.length l.length) l ∧ Below w.heap.size w w' := by
  have hb3 : Below w.heap.size w (((w.alloc (.cells #[.slice A l.length c, .int .i64 r] 24)).alloc (.cells #[.slice none 0 0, .int .i64 0] 31)).alloc (.cells #[.slice none 0 0, .int .i64 0] 31)) := (((Below.refl _ _).alloc (Nat.le_refl _) _).alloc (by simp) _).alloc (by simp; omega) _
  have a1 : (((w.alloc (.cells #[.slice A l.length c, .int .i64 r] 24)).alloc (.cells #[.slice none 0 0, .int .i64 0] 31)).alloc (.cells #[.slice none 0 0, .int .i64 0] 31)).cell? ⟨w.heap.size, 1, none⟩ = some (.int .i64 r) := by go_simp
  have d0 : (((w.alloc (.cells #[.slice A l.length c, .int .i64 r] 24)).alloc (.cells #[.slice none 0 0, .int .i64 0] 31)).alloc (.cells #[.slice none 0 0, .int .i64 0] 31)).cell? ⟨w.heap.size + 1, 0, none⟩ = some (.slice none 0 0) := by go_simp
  have d1 : (((w.alloc (.cells #[.slice A l.length c, .int .i64 r] 24)).alloc (.cells #[.slice none 0 0, .int .i64 0] 31)).alloc (.cells #[.slice none 0 0, .int .i64 0] 31)).cell? ⟨w.heap.size + 1, 1, none⟩ = some (.int .i64 0) := by go_simp
  have e0 : (((w.alloc (.cells #[.slice A l.length c, .int .i64 r] 24)).alloc (.cells #[.slice none 0 0, .int .i64 0] 31)).alloc (.cells #[.slice none 0 0, .int .i64 0] 31)).cell? ⟨w.heap.size + 1 + 1, 0, none⟩ = some (.slice none 0 0) := by go_simp
  have e1 : (((w.alloc (.cells #[.slice A l.length c, .int .i64 r] 24)).alloc (.cells #[.slice none 0 0, .int .i64 0] 31)).alloc (.cells #[.slice none 0 0, .int .i64 0] 31)).cell? ⟨w.heap.size + 1 + 1, 1, none⟩ = some (.int .i64 0) := by go_simp
  have fd0 : (((w.alloc (.cells #[.slice A l.length c, .int .i64 r] 24)).alloc (.cells #[.slice none 0 0, .int .i64 0] 31)).alloc (.cells #[.slice none 0 0, .int .i64 0] 31)).frozen? ⟨w.heap.size + 1, 0, none⟩ = false := by go_simp
  have fd1 : (((w.alloc (.cells #[.slice A l.length c, .int .i64 r] 24)).alloc (.cells #[.slice none 0 0, .int .i64 0] 31)).alloc (.cells #[.slice none 0 0, .int .i64 0] 31)).frozen? ⟨w.heap.size + 1, 1, none⟩ = false := by go_simp
  have fe0 : (((w.alloc (.cells #[.slice A l.length c, .int .i64 r] 24)).alloc (.cells #[.slice none 0 0, .int .i64 0] 31)).alloc (.cells #[.slice none 0 0, .int .i64 0] 31)).frozen? ⟨w.heap.size + 1 + 1, 0, none⟩ = false := by go_simp
  have fe1 : (((w.alloc (.cells #[.slice A l.length c, .int .i64 r] 24)).alloc (.cells #[.slice none 0 0, .int .i64 0] 31)).alloc (.cells #[.slice none 0 0, .int .i64 0] 31)).frozen? ⟨w.heap.size + 1 + 1, 1, none⟩ = false := by go_simp
  have hz : (((w.alloc (.cells #[.slice A l.length c, .int .i64 r] 24)).alloc (.cells #[.slice none 0 0, .int .i64 0] 31)).alloc (.cells #[.slice none 0 0, .int .i64 0] 31)).heap.size = w.heap.size + 1 + 1 + 1 := by simp
  go_enter Tryd.func8, Tryd.ntmps8
  go_wp2_with fail
  have hA3 := hA.below hb3
  generalize (((w.alloc (.cells #[.slice A l.length c, .int .i64 r] 24)).alloc (.cells #[.slice none 0 0, .int .i64 0] 31)).alloc (.cells #[.slice none 0 0, .int .i64 0] 31)) = W at *
  refine (toIntS_any _ _ _ _ hn hA3).mono ?_
  rintro e w1 ⟨rfl, ho1, hb1⟩
  rw [hz] at ho1
  have h0 : w.heap.size < W.heap.size := by omega
  have h1 : w.heap.size + 1 < W.heap.size := by omega
  have h2 : w.heap.size + 1 + 1 < W.heap.size := by omega
  have a1 := (hb1.cell (p := ⟨w.heap.size, 1, none⟩) h0).trans a1
  have d0 := (hb1.cell (p := ⟨w.heap.size + 1, 0, none⟩) h1).trans d0
  have d1 := (hb1.cell (p := ⟨w.heap.size + 1, 1, none⟩) h1).trans d1
  have e0 := (hb1.cell (p := ⟨w.heap.size + 1 + 1, 0, none⟩) h2).trans e0
  have e1 := (hb1.cell (p := ⟨w.heap.size + 1 + 1, 1, none⟩) h2).trans e1
  have fd0 := (hb1.frozen (p := ⟨w.heap.size + 1, 0, none⟩) h1).trans fd0
  have fd1 := (hb1.frozen (p := ⟨w.heap.size + 1, 1, none⟩) h1).trans fd1
  have fe0 := (hb1.frozen (p := ⟨w.heap.size + 1 + 1, 0, none⟩) h2).trans fe0
  have fe1 := (hb1.frozen (p := ⟨w.heap.size + 1 + 1, 1, none⟩) h2).trans fe1
  have hB := hb3.trans (hb1.mono hb3.size)
  rw [hz]
  have HO := Lib.hid ho1
  have HB := Lib.hid hB
  have HZ := Lib.hid hz
  clear ho1 hb1 hA3 hA hb3 hz h0 h1 h2 hB
  go_wp2
  have n1 : w.heap.size + 1 + 1 + 1 ≠ w.heap.size + 1 + 1 := by omega
  have n2 : w.heap.size + 1 + 1 + 1 ≠ w.heap.size + 1 := by omega
  have n3 : w.heap.size + 1 + 1 ≠ w.heap.size := by omega
  have n4 : w.heap.size + 1 ≠ w.heap.size := by omega
  refine bodyPost_ret (v := .agg #[.slice (some ⟨w.heap.size + 1 + 1 + 1, 0, none⟩) l.length l.length, .int .i64 r]) (by simp [results, Tryd.results8, go_sem, *]) rfl ⟨w.heap.size + 1 + 1 + 1, by omega, rfl, ?_, ?_⟩
  · refine OwnI.mono ?_ (show w.heap.size ≤ w.heap.size + 1 + 1 + 1 by omega)
    exact (((HO.out.grown (Lib.grownBy_setCell _ _ _ _) (.inr (by simp [Value.ownBlock] <;> omega))).grown (Lib.grownBy_setCell _ _ _ _) (.inr (by simp [Value.ownBlock] <;> omega))).grown (Lib.grownBy_setCell _ _ _ _) (.inr (by simp [Value.ownBlock] <;> omega))).grown (Lib.grownBy_setCell _ _ _ _) (.inr (by simp [Value.ownBlock] <;> omega))
  · have m1 : w.heap.size ≤ w.heap.size + 1 + 1 := by omega
    have m2 : w.heap.size ≤ w.heap.size + 1 := by omega
    exact (((HB.out.setCell m1 _).setCell m1 _).setCell m2 _).setCell m2 _

set_option maxRecDepth 100000 in
set_option maxHeartbeats 1000000 in
theorem eqIns_any (A B : Option Addr) (l m : List Int) (c d : Nat) (r s : Int) (w : World) (hl : l.length ≤ 9223372036854775807) (hm : m.length ≤ 9223372036854775807) (hA : RI w A l) (hB : RI w B m) :
    Calls Tryd.prog 12 #[.agg #[.slice A l.length c, .int .i64 r], .agg #[.slice B m.length d, .int .i64 s]] w fun e w' => e = .returned (.bool (decide (l = m) && decide (r = s))) ∧ Below w.heap.size w w' := by
  have hb2 : Below w.heap.size w ((w.alloc (.cells #[.slice A l.length c, .int .i64 r] 31)).alloc (.cells #[.slice B m.length d, .int .i64 s] 31)) := ((Below.refl _ _).alloc (Nat.le_refl _) _).alloc (by simp) _
  have a1 : ((w.alloc (.cells #[.slice A l.length c, .int .i64 r] 31)).alloc (.cells #[.slice B m.length d, .int .i64 s] 31)).cell? ⟨w.heap.size, 1, none⟩ = some (.int .i64 r) := by
    rw [World.cell?_alloc_old _ _ _ (by simp), World.cell?_alloc_new]; rfl
  have b1 : ((w.alloc (.cells #[.slice A l.length c, .int .i64 r] 31)).alloc (.cells #[.slice B m.length d, .int .i64 s] 31)).cell? ⟨w.heap.size + 1, 1, none⟩ = some (.int .i64 s) := by
    go_simp
  have hA2 := hA.below hb2
  have hB2 := hB.below hb2
  have hz : w.heap.size + 1 < ((w.alloc (.cells #[.slice A l.length c, .int .i64 r] 31)).alloc (.cells #[.slice B m.length d, .int .i64 s] 31)).heap.size := by simp
  go_enter Tryd.func12, Tryd.ntmps12
  go_wp2_with fail
  generalize ((w.alloc (.cells #[.slice A l.length c, .int .i64 r] 31)).alloc (.cells #[.slice B m.length d, .int .i64 s] 31)) = W at *
  refine (eqIntS_any _ _ _ _ _ _ _ hl hm hA2 hB2).mono ?_
  rintro e w1 ⟨rfl, hb1⟩
  have a2 := (hb1.cell (p := ⟨w.heap.size, 1, none⟩) (by show w.heap.size < _; omega)).trans a1
  have b2 := (hb1.cell (p := ⟨w.heap.size + 1, 1, none⟩) hz).trans b1
  have hB := hb2.trans (hb1.mono hb2.size)
  clear a1 b1 hA2 hA hb1 hb2
  cases hd : decide (l = m) with
  | false =>
    go_wp2
    go_ret
    exact ⟨ret_bool (by simp [of_decide_eq_false hd]), hB⟩
  | true =>
    by_cases hrs : r = s
    · subst hrs
      go_wp2
      go_ret
      exact ⟨ret_bool (by simp), hB⟩
    · have hne : (r != s) = true := by simp [hrs]
      go_wp2
      go_ret
      exact ⟨ret_bool (by simp [hrs]), hB⟩
end Go.Proofs.YtogklldofhcohaaDoor

namespace Go.Proofs.YtogklldofhcohaaDoor
open Go.RowKit Go.Sort
set_option linter.unusedVariables false

def zero97 : Array Value := Array.mk (List.replicate 97 (.int .i64 0))
theorem zero97_size : zero97.size = 97 := by kernel_rfl
theorem zero97_ne : zero97 ≠ #[] := fun h => by have := congrArg Array.size h; rw [zero97_size] at this; simp at this
theorem zeroV97 (w : World) : (zeroValue 64).run Tryd.prog w = .ok (.agg zero97) w := by kernel_rfl
theorem zeros97 : zero97.toList = List.replicate 97 (.int .i64 0) := rfl
/-- The array of ends: for each pitch the end of its last note among the first k ones. -/
def Ends (w : World) (g : Nat) (l : List Nt) (k : Nat) : Prop := w.rowIs g 64 97 (fun j => .int .i64 (endsF (j : Int) (l.take k) 0))
theorem Ends.zero (w : World) (l : List Nt) : Ends (w.alloc (.cells zero97 64)) w.heap.size l 0 := by
  have hs : zero97.size = 97 := by rw [← Array.length_toList, zeros97]; rfl
  have h := World.rowIs_alloc w zero97 64 (fun j => .int .i64 (endsF (j : Int) (l.take 0) 0)) (fun i hi => by
    rw [← Array.getElem?_toList, zeros97, List.getElem?_replicate, if_pos (by omega)]; rfl)
  rw [hs] at h
  exact h
theorem Ends.below {w w' : World} {g : Nat} {l : List Nt} {k : Nat} (h : Ends w g l k) (hb : Below w.heap.size w w') : Ends w' g l k := World.rowIs.of_block h (hb.block g h.lt)
theorem Ends.step {w : World} {g : Nat} {l : List Nt} {k : Nat} {p s n : Int} (h : Ends w g l k) (hx : l[k]? = some (p, s, n)) (hp : 0 ≤ p) : Ends (w.setCell ⟨g, p.toNat, none⟩ (.int .i64 (s + n))) g l (k + 1) := by
  refine (World.rowIs.set h p.toNat (.int .i64 (s + n))).congr fun i hi => ?_
  rw [endsF_take _ _ _ _ hx]
  by_cases hip : i = p.toNat
  · subst hip
    rw [if_pos rfl, if_pos (by simp only; omega)]
  · rw [if_neg hip, if_neg (by simp only; omega)]

set_option maxRecDepth 100000 in
set_option maxHeartbeats 2000000 in
theorem isScore_any (A : Option Addr) (l : List Nt) (c : Nat) (w : World) (hn : l.length ≤ 1048576) (hA : RA w A l) :
    Calls Tryd.prog 24 #[.slice A l.length c] w fun e w' => e = .returned (.bool (goodB l)) ∧ Below w.heap.size w w' := by
  by_cases h30 : l.length ≤ 30
  · go_enter Tryd.func24, Tryd.ntmps24
    have hq : ¬ (30 < (l.length : Int)) := by omega
    have hzv := zeroV97
    have hzn := zero97_ne
    go_wp2_with fail
    clear hzv hzn
    have hE0 := Ends.zero w l
    have hb0 : Below w.heap.size w (w.alloc (.cells zero97 64)) := (Below.refl _ _).alloc (Nat.le_refl _) _
    generalize w.alloc (.cells zero97 64) = W0 at *
    go_loopw [11] (fun i wr => ∃ k : Nat, k ≤ l.length ∧ i = .int .i64 k ∧ GoodTo l k ∧ Ends wr w.heap.size l k ∧ Below w.heap.size w wr)
      (fun i _ => l.length - (intOf i).toNat)
    case atStart => exact ⟨0, Nat.zero_le _, rfl, GoodTo.zero l, hE0, hb0⟩
    case round =>
      obtain ⟨k, hk, rfl, hgood, hE, hb⟩ := hrel
      have HG := Lib.hid hgood
      clear hgood
      by_cases hlt : k < l.length
      · have hx : l[k]? = some l[k] := List.getElem?_eq_getElem hlt
        generalize l[k] = x at hx
        obtain ⟨p, s, n⟩ := x
        obtain ⟨g, o, rfl, hg, h0, h1, h2⟩ := (hA.below hb) k _ hx
        simp only at h0 h1 h2
        have HX := Lib.hid hx
        have i1 : (0 : Int) ≤ (k : Int) := by omega
        have i2 : (k : Int) < (l.length : Int) := by omega
        clear hx
        go_wp2_with fail
        have hRA : RA (wr.alloc (.cells #[.int .i64 p, .int .i64 s, .int .i64 n] 47)) (some ⟨g, o, none⟩) l := (hA.below hb).alloc _
        have hxc : ∀ j, (wr.alloc (.cells #[.int .i64 p, .int .i64 s, .int .i64 n] 47)).cell? ⟨wr.heap.size, j, none⟩ = #[Value.int .i64 p, .int .i64 s, .int .i64 n][j]? := fun j => World.cell?_alloc_new wr _ _ j
        have hbW : Below w.heap.size w (wr.alloc (.cells #[.int .i64 p, .int .i64 s, .int .i64 n] 47)) := hb.alloc hb.size _
        have hzW : wr.heap.size < (wr.alloc (.cells #[.int .i64 p, .int .i64 s, .int .i64 n] 47)).heap.size := by simp
        have hEW : Ends (wr.alloc (.cells #[.int .i64 p, .int .i64 s, .int .i64 n] 47)) w.heap.size l k := World.rowIs.alloc hE _
        generalize wr.alloc (.cells #[.int .i64 p, .int .i64 s, .int .i64 n] 47) = W at *
        have hEx : w.heap.size < wr.heap.size := World.rowIs.lt hE
        generalize wr.heap.size = xb at *
        have x0 := cell_regrown ((hxc 0).trans rfl)
        have x1 := cell_regrown ((hxc 1).trans rfl)
        have x2 := cell_regrown ((hxc 2).trans rfl)
        have cN : ∀ d os, Calls Tryd.prog 39 #[.agg #[.int .i64 p, .int .i64 s, .int .i64 n]] (grow (redrawn W d) os) fun e w'' => e = .returned (.bool (noteB p s n)) ∧ ∃ q : Regrown, w'' = grow (redrawn W q.d) q.os :=
          fun d os => Calls.regrown_of (implIsNote_any p s n _)
        clear h0 h1 h2
        cases hv : noteB p s n with
        | false =>
          refine wp_region_quiet_below (by kernel_rfl) (by kernel_rfl) ?_
          repeat (go_big_quiet_step (exact (cN _ _)))
          refine wpQuiet_nil ?_
          intro _ hw'
          obtain ⟨q, hw''⟩ := hw'
          subst hw''
          go_wp2
          go_ret
          refine ⟨ret_bool (goodB_false (Good.not_of HX.out fun h => ?_)).symm, hbW.trans ((below_regrown W q.d q.os).mono hbW.size)⟩
          have := h.1
          simp [noteN, hv] at this
        | true =>
          have hv' := (noteN_iff (p, s, n)).1 hv
          simp only at hv'
          have hp1 : (0 : Int) ≤ p := by omega
          have hp2 : p < 97 := by omega
          have e0 := hEW.cell (i := p.toNat) (by omega)
          have hpp : ((p.toNat : Nat) : Int) = p := by omega
          rw [hpp] at e0
          have e0 := cell_regrown e0
          by_cases hse : s < endsF p (l.take k) 0
          · generalize hEE : endsF p (l.take k) 0 = E at *
            have HEE := Lib.hid hEE
            have HPP := Lib.hid hpp
            clear hEE hpp
            refine wp_region_quiet_below (by kernel_rfl) (by kernel_rfl) ?_
            repeat (go_big_quiet_step (exact (cN _ _)))
            refine wpQuiet_nil ?_
            intro _ hw'
            obtain ⟨q, hw''⟩ := hw'
            subst hw''
            go_wp2
            go_ret
            refine ⟨ret_bool (goodB_false (Good.not_of HX.out fun h => ?_)).symm, hbW.trans ((below_regrown W q.d q.os).mono hbW.size)⟩
            have := (okAt_iff HG.out (by omega) h.1 h.2.1).1 h
            rw [HEE.out] at this
            exact this hse
          · have HSE := Lib.hid hse
            generalize hEE : endsF p (l.take k) 0 = E at *
            have HEE := Lib.hid hEE
            have HPP := Lib.hid hpp
            clear hEE hpp
            refine wp_region_quiet_below (by kernel_rfl) (by kernel_rfl) ?_
            repeat (go_big_quiet_step (exact (cN _ _)))
            refine wpQuiet_nil ?_
            intro _ hw'
            obtain ⟨q, hw''⟩ := hw'
            subst hw''
            go_wp2_with fail
            have hbU := hbW.trans ((below_regrown W q.d q.os).mono hbW.size)
            have hxU := fun j => ((below_regrown W q.d q.os).cell (p := ⟨xb, j, none⟩) hzW).trans (hxc j)
            have hRU := hRA.below (below_regrown W q.d q.os)
            have heU := hEW.below (below_regrown W q.d q.os)
            have hzU : xb < (grow (redrawn W q.d) q.os).heap.size := Nat.lt_of_lt_of_le hzW (below_regrown W q.d q.os).size
            generalize grow (redrawn W q.d) q.os = U at *
            have hxU0 := cell_regrown ((hxU 0).trans rfl)
            have hxU1 := cell_regrown ((hxU 1).trans rfl)
            have hxU2 := cell_regrown ((hxU 2).trans rfl)
            clear x0 x1 x2 cN e0
            rcases Nat.eq_zero_or_pos k with hk0 | hk0
            · have hd : decide (0 < k) = false := by simp [hk0]
              have HBEF := Lib.hid (show ∀ y, 0 < k → l[k - 1]? = some y → befN y (p, s, n) = true from fun y h => absurd h (by omega))
              clear hk0
              refine wp_region_quiet_below (by kernel_rfl) (by kernel_rfl) ?_
              repeat (go_big_quiet_step (fail))
              refine wpQuiet_nil ?_
              intro _ hw'
              obtain ⟨q2, hw''⟩ := hw'
              subst hw''
              go_wp2_with fail
              have hbV := hbU.trans ((below_regrown U q2.d q2.os).mono hbU.size)
              have hxV := fun j => ((below_regrown U q2.d q2.os).cell (p := ⟨xb, j, none⟩) hzU).trans (hxU j)
              have heV := heU.below (below_regrown U q2.d q2.os)
              have hzV : xb < (grow (redrawn U q2.d) q2.os).heap.size := Nat.lt_of_lt_of_le hzU (below_regrown U q2.d q2.os).size
              generalize grow (redrawn U q2.d) q2.os = V at *
              have ux0 := (hxV 0).trans rfl
              have ux1 := (hxV 1).trans rfl
              have ux2 := (hxV 2).trans rfl
              simp only [List.getElem?_toArray] at ux0 ux1 ux2
              have ue := heV.cell (i := p.toNat) (by omega)
              have uf := heV.frozen p.toNat
              have hzE : w.heap.size < V.heap.size := heV.lt
              clear hxU hxV hxc hRA hRU hxU0 hxU1 hxU2
              have hne1 : ¬ (xb = w.heap.size) := by omega
              have hne2 : ¬ (w.heap.size = xb) := by omega
              go_region_held3 (fun w' => w'.cell? ⟨xb, 0, none⟩ = some (.int .i64 p) ∧ w'.cell? ⟨xb, 1, none⟩ = some (.int .i64 s) ∧ w'.cell? ⟨xb, 2, none⟩ = some (.int .i64 n))
                (first | go_keep | (go_split_ands; refine ⟨?_, ?_, ?_⟩ <;> (refine ((bcell hb1).1 _ _ ?_).trans ?_) <;> first | assumption | simpa using hzV))
                (first | (go_at_call 41; refine (endOfNote_any _ _ _ _ (by omega) (by omega) (by omega) (by omega)).mono ?_; rintro e w1 ⟨rfl, hb1⟩; have ue1 := ((bcell hb1).1 _ p.toNat (by simpa using hzE)).trans ue; have uf1 := ((bcell hb1).2 _ p.toNat (by simpa using hzE)).trans uf))
              go_wp2
              go_roundw
              case rel =>
                have hok : okAt l k (p, s, n) := (okAt_iff (x := (p, s, n)) HG.out (by omega) (show noteN (p, s, n) = true from hv) HBEF.out).2 (by rw [HEE.out]; have := HSE.out; simp only; omega)
                have he1 : Ends w1 w.heap.size l k := Ends.below (w := V.drew) heV hb1
                exact ⟨k + 1, by omega, by go_num, HG.out.succ HX.out hok, he1.step HX.out hp1, ((hbV.drew).trans (hb1.mono hbV.size)).setCell (Nat.le_refl _) _⟩
              case measure => simp [intOf]; omega
            · have hd : (0 : Int) < (k : Int) := by omega
              have hy : l[k - 1]? = some l[k - 1] := List.getElem?_eq_getElem (by omega)
              generalize l[k - 1] = y at hy
              obtain ⟨p', s', n'⟩ := y
              obtain ⟨g2, o2, hgo, hg2, y0, y1, y2⟩ := hRU (k - 1) _ hy
              simp only [Option.some.injEq, Addr.mk.injEq, and_true] at hgo
              obtain ⟨rfl, rfl⟩ := hgo
              simp only at y0 y1 y2
              have y0 := cell_regrown y0
              have y1 := cell_regrown y1
              have y2 := cell_regrown y2
              have HY := Lib.hid hy
              have i3 : (0 : Int) ≤ (k : Int) - 1 := by omega
              have i4 : (k : Int) - 1 < (l.length : Int) := by omega
              have cB : ∀ d os, Calls Tryd.prog 40 #[.agg #[.int .i64 p', .int .i64 s', .int .i64 n'], .agg #[.int .i64 p, .int .i64 s, .int .i64 n]] (grow (redrawn U d) os) fun e w'' => e = .returned (.int .i64 (cmpN p' s' p s)) ∧ ∃ q : Regrown, w'' = grow (redrawn U q.d) q.os :=
                fun d os => Calls.regrown_of (compareNotes_any p' s' n' p s n _)
              have hcb := cmpN_bef (p', s', n') (p, s, n)
              simp only at hcb
              clear hy
              generalize cmpN p' s' p s = cz at *
              have HCB := Lib.hid hcb
              clear hcb
              by_cases hcz : cz < 0
              · have HBEF := Lib.hid (show ∀ y, 0 < k → l[k - 1]? = some y → befN y (p, s, n) = true from fun y _ hy => by have e := HY.out.symm.trans hy; injection e with e; subst e; exact HCB.out.1 hcz)
                refine wp_region_quiet_below (by kernel_rfl) (by kernel_rfl) ?_
                repeat (go_big_quiet_step (exact (cB _ _)))
                refine wpQuiet_nil ?_
                intro _ hw'
                obtain ⟨q2, hw''⟩ := hw'
                subst hw''
                go_wp2_with fail
                have hbV := hbU.trans ((below_regrown U q2.d q2.os).mono hbU.size)
                have hxV := fun j => ((below_regrown U q2.d q2.os).cell (p := ⟨xb, j, none⟩) hzU).trans (hxU j)
                have heV := heU.below (below_regrown U q2.d q2.os)
                have hzV : xb < (grow (redrawn U q2.d) q2.os).heap.size := Nat.lt_of_lt_of_le hzU (below_regrown U q2.d q2.os).size
                generalize grow (redrawn U q2.d) q2.os = V at *
                have ux0 := (hxV 0).trans rfl
                have ux1 := (hxV 1).trans rfl
                have ux2 := (hxV 2).trans rfl
                simp only [List.getElem?_toArray] at ux0 ux1 ux2
                have ue := heV.cell (i := p.toNat) (by omega)
                have uf := heV.frozen p.toNat
                have hzE : w.heap.size < V.heap.size := heV.lt
                clear hxU hxV hxc hRA hRU hxU0 hxU1 hxU2
                have hne1 : ¬ (xb = w.heap.size) := by omega
                have hne2 : ¬ (w.heap.size = xb) := by omega
                go_region_held3 (fun w' => w'.cell? ⟨xb, 0, none⟩ = some (.int .i64 p) ∧ w'.cell? ⟨xb, 1, none⟩ = some (.int .i64 s) ∧ w'.cell? ⟨xb, 2, none⟩ = some (.int .i64 n))
                  (first | go_keep | (go_split_ands; refine ⟨?_, ?_, ?_⟩ <;> (refine ((bcell hb1).1 _ _ ?_).trans ?_) <;> first | assumption | simpa using hzV))
                  (first | (go_at_call 41; refine (endOfNote_any _ _ _ _ (by omega) (by omega) (by omega) (by omega)).mono ?_; rintro e w1 ⟨rfl, hb1⟩; have ue1 := ((bcell hb1).1 _ p.toNat (by simpa using hzE)).trans ue; have uf1 := ((bcell hb1).2 _ p.toNat (by simpa using hzE)).trans uf))
                go_wp2
                go_roundw
                case rel =>
                  have hok : okAt l k (p, s, n) := (okAt_iff (x := (p, s, n)) HG.out (by omega) (show noteN (p, s, n) = true from hv) HBEF.out).2 (by rw [HEE.out]; have := HSE.out; simp only; omega)
                  have he1 : Ends w1 w.heap.size l k := Ends.below (w := V.drew) heV hb1
                  exact ⟨k + 1, by omega, by go_num, HG.out.succ HX.out hok, he1.step HX.out hp1, ((hbV.drew).trans (hb1.mono hbV.size)).setCell (Nat.le_refl _) _⟩
                case measure => simp [intOf]; omega
              · have hcz : 0 ≤ cz := by omega
                refine wp_region_quiet_below (by kernel_rfl) (by kernel_rfl) ?_
                repeat (go_big_quiet_step (exact (cB _ _)))
                refine wpQuiet_nil ?_
                intro _ hw'
                obtain ⟨q2, hw''⟩ := hw'
                subst hw''
                go_wp2
                go_ret
                refine ⟨ret_bool (goodB_false (Good.not_of HX.out fun h => ?_)).symm, hbU.trans ((below_regrown U q2.d q2.os).mono hbU.size)⟩
                have := HCB.out.2 (h.2.1 _ hk0 HY.out)
                omega
      · obtain rfl : k = l.length := by omega
        go_wp2
        go_ret
        exact ⟨ret_bool ((goodB_iff l).2 ⟨HG.out, h30⟩).symm, hb⟩
  · go_enter Tryd.func24, Tryd.ntmps24
    have hq : 30 < (l.length : Int) := by omega
    go_wp2
    go_ret
    exact ⟨ret_bool (goodB_false fun h => h30 h.2).symm, Below.refl _ _⟩
end Go.Proofs.YtogklldofhcohaaDoor

namespace Go.Proofs.YtogklldofhcohaaDoor
open Go.ChangeShapes Go.WideShapes Go.ChangeAt Go.RowKit Go.Sort Go.Deep
set_option linter.unusedVariables false

theorem gLim : Tryd.prog.globalNamed "loop.example/g00949/impl.instrumentLimits" = some 0 := by kernel_rfl
theorem tLim : (Tryd.prog.globals[0]?).map (·.type) = some 76 := by kernel_rfl
theorem cLim : Tryd.prog.cellsOf 75 = 2 := by kernel_rfl
theorem cIntV : Tryd.prog.cellsOf 3 = 1 := by kernel_rfl
theorem datum_lim {H : Type} : (Rows.laid_loop_example_g00949_impl_instrumentLimits : DataW H) = .agg [.agg [.lit (.int .i64 1), .lit (.int .i64 20)], .agg [.lit (.int .i64 1), .lit (.int .i64 20)]] := rfl

theorem four_of {α : Type} {l : List α} (h : l.length = 4) : ∃ a b c d, l = [a, b, c, d] := by
  match l, h with
  | [a, b, c, d], _ => exact ⟨a, b, c, d, rfl⟩
theorem two_of {α : Type} {l : List α} (h : l.length = 2) : ∃ a b, l = [a, b] := by
  match l, h with
  | [a, b], _ => exact ⟨a, b, rfl⟩

set_option maxRecDepth 100000 in
theorem lim_of_reads {W : World} (h : Lib.VarReads Tryd.prog W "loop.example/g00949/impl.instrumentLimits" Rows.laid_loop_example_g00949_impl_instrumentLimits) : Lim W := by
  obtain ⟨g, t, cs, fuel, p, hg, ht, hv, hd⟩ := h
  obtain rfl := Option.some.inj (gLim.symm.trans hg)
  obtain rfl := Option.some.inj (tLim.symm.trans ht)
  have hc := fun r => World.var?_cell hg hv r
  generalize hD : (Rows.laid_loop_example_g00949_impl_instrumentLimits : DataW Unit) = D at hd
  rw [datum_lim] at hD
  obtain ⟨xs, m1, rfl, hx1, hlen, hn, hel⟩ := DataW.trod_array Tryd.underlying76 hd
  subst hD
  have h4 : cs.toList.length = 4 := hlen.trans (by kernel_rfl)
  obtain ⟨c0, c1, c2, c3, hcs⟩ := four_of h4
  obtain ⟨x0, x1, rfl⟩ := two_of hn
  have h0 := hel 0 (by omega)
  have h1 := hel 1 (by omega)
  rw [cLim, hcs] at h0 h1
  obtain ⟨y0, y1, n, e1, e2, e3, e4⟩ := trod_struct2 Tryd.underlying75 (h0.trans rfl)
  obtain ⟨z0, z1, n', k1, k2, k3, k4⟩ := trod_struct2 Tryd.underlying75 (h1.trans rfl)
  simp only [cIntV] at e3 e4 k3 k4
  obtain ⟨a0, p0, q0, _⟩ := DataW.trod_int Tryd.underlying3 (e3.trans rfl)
  obtain ⟨a1, p1, q1, _⟩ := DataW.trod_int Tryd.underlying3 (e4.trans rfl)
  obtain ⟨a2, p2, q2, _⟩ := DataW.trod_int Tryd.underlying3 (k3.trans rfl)
  obtain ⟨a3, p3, q3, _⟩ := DataW.trod_int Tryd.underlying3 (k4.trans rfl)
  simp at p0 p1 p2 p3
  simp only [Prod.mk.injEq, DataW.agg.injEq, List.map_cons, List.map_nil, List.cons.injEq, and_true] at hx1
  rw [e1, k1] at hx1
  simp only [DataW.agg.injEq, List.cons.injEq, and_true] at hx1
  rw [q0, q1, q2, q3] at hx1
  simp at hx1
  obtain ⟨⟨⟨rfl, rfl⟩, rfl, rfl⟩, _⟩ := hx1
  have hr : ∀ r v, [c0, c1, c2, c3][r]? = some v → W.cell? ⟨0, r, none⟩ = some v := fun r v h => by
    rw [hc r, ← Array.getElem?_toList, hcs]; exact h
  have w0 := hr 0 _ rfl
  refine ⟨hr 0 _ ?_, hr 1 _ ?_, hr 2 _ ?_, hr 3 _ ?_, World.block_lt_of_cell? W _ w0⟩
  · rw [p0]; rfl
  · rw [p1]; rfl
  · rw [p2]; rfl
  · rw [p3]; rfl
end Go.Proofs.YtogklldofhcohaaDoor

namespace Go.Proofs.YtogklldofhcohaaDoor
open Go.RowKit Go.Sort
set_option linter.unusedVariables false

/-- A call returned a score of its own, or nil and false; below the heap's old size nothing has turned. -/
def RetScore (B : World) (l : List Nt) (ok : Bool) (e : Ending) (w' : World) : Prop :=
  ∃ v, e = .returned (.tuple #[v, .bool ok]) ∧ Own w' B.heap.size 47 v (if ok = true then l else []) ∧ Below B.heap.size B w'
theorem RetScore.mono {B B' : World} {l : List Nt} {ok : Bool} {e : Ending} {w' : World} (h : RetScore B' l ok e w') (hb : Below B.heap.size B B') : RetScore B l ok e w' := by
  obtain ⟨v, he, ho, hbl⟩ := h
  refine ⟨v, he, ?_, hb.trans (hbl.mono hb.size)⟩
  exact ho.mono hb.size
set_option maxHeartbeats 1000000 in
theorem scoreOnly_any (v : Value) (l : List Nt) (base : Nat) (w : World) (hn : l.length ≤ 1048576) (hv : Own w base 47 v l) :
    Calls Tryd.prog 60 #[v] w fun e w' => ∃ u, e = .returned (.tuple #[u, .bool (goodB l)]) ∧ Own w' base 47 u (if goodB l = true then l else []) ∧ Below w.heap.size w w' := by
  have hv0 := hv
  obtain ⟨A, c, rfl, hA⟩ := hv.form
  clear hv
  cases hgb : goodB l with
  | false =>
    go_enter Tryd.func60, Tryd.ntmps60
    go_wp2_with fail
    refine (isScore_any _ _ _ _ hn hA).mono ?_
    rintro e w1 ⟨rfl, hb1⟩
    go_wp2
    go_ret2
    exact ⟨_, rfl, by simpa using Own.nil _ _ _, hb1⟩
  | true =>
    go_enter Tryd.func60, Tryd.ntmps60
    go_wp2_with fail
    refine (isScore_any _ _ _ _ hn hA).mono ?_
    rintro e w1 ⟨rfl, hb1⟩
    have ho := hv0.below hb1 (Nat.le_refl _)
    go_wp2
    go_ret2
    exact ⟨_, rfl, by simpa using ho, hb1⟩

end Go.Proofs.YtogklldofhcohaaDoor
