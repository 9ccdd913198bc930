/- The pitches that sound in a step: the model's and the program's functions have one answer, in memory of their own. -/
import Derived.Test.YtjjohenpapfabaaQuick
import Derived.Test.YtjjohenpapfabaaShP
import Derived.Test.YtjjohenpapfabaaRows3
import Derived.Test.YtjjohenpapfabaaPut
import Derived.Test.YtjjohenpapfabaaSortI
import Derived.Sort.OwnSortedInts
namespace Go.Proofs.Ytjjohenpapfabaa
open Go.RowKit Go.Sort
set_option linter.unusedVariables false
set_option linter.unusedSimpArgs false

def soundB (step : Int) (x : Nt) : Bool := inR step x.2.1 (x.2.2 - 1)
def stepAt (step : Int) (acc : List Int) (x : Nt) : List Int := if soundB step x = true then putL x.1 acc else acc
/-- The model's way: put one after another. -/
def atL (step : Int) (l : List Nt) : List Int := l.foldl (stepAt step) []
/-- The program's way: all of them, in the score's order. -/
def psL (step : Int) : List Nt → List Int
  | [] => []
  | x :: l => if soundB step x = true then x.1 :: psL step l else psL step l
theorem psL_append (step : Int) (l m : List Nt) : psL step (l ++ m) = psL step l ++ psL step m := by
  induction l with
  | nil => rfl
  | cons x l ih => simp only [List.cons_append, psL, ih]; split <;> rfl
theorem psL_snoc (step : Int) (l : List Nt) (k : Nat) (x : Nt) (h : l[k]? = some x) : psL step (l.take (k + 1)) = psL step (l.take k) ++ (if soundB step x = true then [x.1] else []) := by
  rw [List.take_add_one, h, psL_append]
  simp only [Option.toList, psL]
theorem psL_length (step : Int) (l : List Nt) : (psL step l).length ≤ l.length := by
  induction l with
  | nil => simp [psL]
  | cons x l ih => simp only [psL]; split <;> simp <;> omega
theorem mem_psL (step : Int) (l : List Nt) (y : Int) (h : y ∈ psL step l) : ∃ (j : Nat) (x : Nt), l[j]? = some x ∧ soundB step x = true ∧ x.1 = y := by
  induction l with
  | nil => simp [psL] at h
  | cons x l ih =>
    simp only [psL] at h
    split at h
    · rename_i hs
      rcases List.mem_cons.1 h with h | h
      · exact ⟨0, x, rfl, hs, h.symm⟩
      · obtain ⟨j, z, hz, a, b⟩ := ih h
        exact ⟨j + 1, z, by simpa using hz, a, b⟩
    · obtain ⟨j, z, hz, a, b⟩ := ih h
      exact ⟨j + 1, z, by simpa using hz, a, b⟩
theorem atL_snoc (step : Int) (l : List Nt) (k : Nat) (x : Nt) (h : l[k]? = some x) : atL step (l.take (k + 1)) = if soundB step x = true then putL x.1 (atL step (l.take k)) else atL step (l.take k) := by
  unfold atL
  rw [List.take_add_one, h, List.foldl_append]
  rfl
theorem atL_inc (step : Int) (l : List Nt) : ∀ k, k ≤ l.length → Inc (atL step (l.take k)) := by
  intro k
  induction k with
  | zero => intro _; simp [atL, Inc]
  | succ k ih =>
    intro hk
    have hx : l[k]? = some l[k] := List.getElem?_eq_getElem (by omega)
    rw [atL_snoc step l k _ hx]
    split
    · exact putL_inc _ _ (ih (by omega))
    · exact ih (by omega)
theorem atL_length (step : Int) (l : List Nt) : ∀ k, k ≤ l.length → (atL step (l.take k)).length ≤ k := by
  intro k
  induction k with
  | zero => intro _; simp [atL]
  | succ k ih =>
    intro hk
    have hx : l[k]? = some l[k] := List.getElem?_eq_getElem (by omega)
    rw [atL_snoc step l k _ hx]
    have := ih (by omega)
    split
    · have := putL_length (l[k]).1 (atL step (l.take k)); omega
    · omega
theorem atL_perm (step : Int) (l : List Nt) (hg : Good l) : ∀ k, k ≤ l.length → (atL step (l.take k)).Perm (psL step (l.take k)) := by
  intro k
  induction k with
  | zero => intro _; simp [atL, psL]
  | succ k ih =>
    intro hk
    have hkl : k < l.length := by omega
    have hx : l[k]? = some l[k] := List.getElem?_eq_getElem hkl
    generalize l[k] = x at hx
    have ih := ih (by omega)
    rw [atL_snoc step l k x hx, psL_snoc step l k x hx]
    by_cases hs : soundB step x = true
    · rw [if_pos hs, if_pos hs]
      have hno : x.1 ∉ atL step (l.take k) := by
        intro hm
        obtain ⟨j, z, hz, hsz, he⟩ := mem_psL step _ _ (ih.mem_iff.1 hm)
        have hjk : j < k := by have := (List.getElem?_eq_some_iff.1 hz).1; simp at this; omega
        rw [List.getElem?_take_of_lt hjk] at hz
        have h1 := (hg.1 k x hkl hx).2.2 j z hjk hz
        have h2 : meetN x z = true := by
          simp [soundB, inR] at hs hsz
          exact (meetN_iff x z).2 ⟨he.symm, by omega⟩
        rw [h1] at h2
        cases h2
      refine (putL_perm _ _ hno).trans ?_
      exact (List.perm_append_comm (l₁ := [x.1])).trans (List.Perm.append_right _ ih)
    · rw [if_neg hs, if_neg hs, List.append_nil]
      exact ih
theorem at_merge (step : Int) (l : List Nt) (hg : Good l) : (psL step l).mergeSort (fun x y => decide (x ≤ y)) = atL step l := by
  have hp := atL_perm step l hg l.length (Nat.le_refl _)
  have hi := atL_inc step l l.length (Nat.le_refl _)
  rw [List.take_length] at hp hi
  exact (inc_merge hp hi).symm

/-- The sort of a row of the call's own. -/
theorem sortI_any (v : Value) (zs : List Int) (base : Nat) (w : World) (hl : zs.length ≤ 1000000) (hv : OwnI w base 3 v zs) :
    Calls Try.prog 75 #[v] w fun e w' => e = .returned (.tuple #[]) ∧ OwnI w' base 3 v (zs.mergeSort fun x y => decide (x ≤ y)) ∧ w.grownBy w' v.ownBlock := by
  have hv0 := hv
  rcases hv.2 with ⟨rfl, h0⟩ | ⟨g, cap, cur, rfl, hg, hh, hnc, hm, hs, ht⟩
  · obtain rfl : zs = [] := List.eq_nil_of_length_eq_zero h0
    refine (Try.slices_Sort_int_none none 0 w).mono ?_
    rintro e w' ⟨rfl, rfl⟩
    exact ⟨rfl, by simpa using hv0, World.grownBy.refl _ _⟩
  · have ht' : cur.toList.take zs.length = zs.map (Value.int .i64) := by have h := ht; rw [Nat.mul_one] at h; exact h
    refine (Try.slices_Sort_int g 0 cap zs w (holds_of_blockI hh ht') (hv0.lt _ rfl).2 (by omega)).mono ?_
    rintro e w' ⟨rfl, n, os, rfl⟩
    refine ⟨rfl, ?_, grownBy_sortedI _⟩
    have h := ownsRow_sortedI (n := n) (os := os) (base := base) (cap := cap) (ss := zs) (ts := zs.mergeSort fun x y => decide (x ≤ y)) (by simp) hg hh hnc hm hs
    unfold OwnI
    rw [List.length_mergeSort]
    exact h

set_option maxRecDepth 100000 in
set_option maxHeartbeats 2000000 in
theorem ntAt_any (A : Option Addr) (l : List Nt) (c : Nat) (step : Int) (w : World) (hn : l.length ≤ 1048576) (hA : RA w A l) (hg : Good l) :
    Calls Try.prog 73 #[.slice A l.length c, .int .i64 step] w fun e w' => ∃ v, e = .returned v ∧ OwnI w' w.heap.size 3 v (atL step l) ∧ Below w.heap.size w w' := by
  have h60 := hg.2
  go_enter Try.func73, Try.ntmps73
  go_wp2
  go_loopw [5, 10] (fun a i wr => ∃ k : Nat, k ≤ l.length ∧ i = .int .i64 k ∧ OwnI wr w.heap.size 3 a (atL step (l.take k)) ∧ Below w.heap.size w wr)
    (fun _ i _ => l.length - (intOf i).toNat)
  case atStart => exact ⟨0, Nat.zero_le _, rfl, OwnI.nil _ _ _, Below.refl _ _⟩
  case round =>
    obtain ⟨k, hk, rfl, hown, hb⟩ := hrel
    by_cases hlt : k < l.length
    · have hx : l[k]? = some l[k] := List.getElem?_eq_getElem hlt
      generalize l[k] = x at hx
      have hs := atL_snoc step l k x hx
      have hv := (noteN_iff x).1 (hg.1 k x hlt hx).1
      obtain ⟨p, s, n⟩ := x
      simp only at hs hv
      obtain ⟨g, o, rfl, hgb, h0, h1, h2⟩ := (hA.below hb) k _ hx
      simp only at h0 h1 h2
      have i1 : (0 : Int) ≤ (k : Int) := by omega
      have i2 : (k : Int) < (l.length : Int) := by omega
      have HS := Lib.hid hs
      have HO := Lib.hid hown
      clear hs hx hown
      have hsz := atL_length step l k hk
      have hinc := Lib.hid (atL_inc step l k hk)
      by_cases hsd : inR step s (n - 1) = true
      · go_wp2_with (first
          | (go_at_call 54; refine (l1In_any _ _ _ _).mono ?_; rintro e w1 ⟨rfl, rfl⟩)
          | (go_at_call 88; refine (l1Put_any _ _ p w.heap.size _ (by omega) (by simp; have := hb.size; omega) (HO.out.below ((Below.refl _ _).alloc (Nat.le_refl _) _) (Nat.le_refl _)) hinc.out).mono ?_; rintro e w2 ⟨v2, rfl, ho2, hb2⟩))
        go_roundw
        case rel =>
          refine ⟨k + 1, by omega, by go_num, ?_, hb.trans (((Below.refl _ _).alloc hb.size _).trans (hb2.mono (by simp; have := hb.size; omega)))⟩
          rw [HS.out, if_pos (show soundB step (p, s, n) = true from hsd)]
          exact ho2
        case measure => simp [intOf]; omega
      · go_wp2_with (first
          | (go_at_call 54; refine (l1In_any _ _ _ _).mono ?_; rintro e w1 ⟨rfl, rfl⟩))
        go_roundw
        case rel =>
          refine ⟨k + 1, by omega, by go_num, ?_, hb.alloc hb.size _⟩
          rw [HS.out, if_neg (show ¬ soundB step (p, s, n) = true from hsd)]
          exact HO.out.below ((Below.refl _ _).alloc (Nat.le_refl _) _) (Nat.le_refl _)
        case measure => simp [intOf]; omega
    · obtain rfl : k = l.length := by omega
      go_wp2
      go_ret
      rw [List.take_length] at hown
      exact ⟨_, rfl, hown, hb⟩

/-- A call returned numbers of its own, or nil and false; below the heap's old size nothing has turned. -/
def RetInts (B : World) (l : List Int) (ok : Bool) (e : Ending) (w' : World) : Prop :=
  ∃ v, e = .returned (.tuple #[v, .bool ok]) ∧ OwnI w' B.heap.size 3 v (if ok = true then l else []) ∧ Below B.heap.size B w'

set_option maxRecDepth 100000 in
set_option maxHeartbeats 2000000 in
theorem specSound_any (A : Option Addr) (l : List Nt) (c : Nat) (step : Int) (w : World) (hn : l.length ≤ 1048576) (hc : l.length ≤ c) (hc' : c ≤ 9223372036854775807) (hA : RA w A l) :
    Calls Try.prog 36 #[.slice A l.length c, .int .i64 step] w fun e w' => RetInts w (atL step l) (goodB l && inR step 0 1999) e w' := by
  cases hgb : goodB l with
  | false =>
    go_enter Try.func36, Try.ntmps36
    go_wp2_with fail
    refine (ntGood_any _ _ _ _ hn hc hc' hA).mono ?_
    rintro e w1 ⟨rfl, hb1⟩
    go_wp2
    go_ret2
    exact ⟨_, rfl, by simpa using OwnI.nil _ _ _, hb1⟩
  | true =>
    have hg := (goodB_iff l).1 hgb
    cases hr : inR step 0 1999 with
    | false =>
      go_enter Try.func36, Try.ntmps36
      go_wp2_with fail
      refine (ntGood_any _ _ _ _ hn hc hc' hA).mono ?_
      rintro e w1 ⟨rfl, hb1⟩
      go_wp2_with (go_at_call 72; refine (shStep_any _ _).mono ?_; rintro e w2 ⟨rfl, rfl⟩)
      go_ret2
      exact ⟨_, rfl, by simpa using OwnI.nil _ _ _, hb1⟩
    | true =>
      go_enter Try.func36, Try.ntmps36
      go_wp2_with fail
      refine (ntGood_any _ _ _ _ hn hc hc' hA).mono ?_
      rintro e w1 ⟨rfl, hb1⟩
      go_wp2_with (first
        | (go_at_call 72; refine (shStep_any _ _).mono ?_; rintro e w2 ⟨rfl, rfl⟩)
        | (go_at_call 73; refine (ntAt_any _ _ _ _ _ hn (hA.below hb1) hg).mono ?_; rintro e w2 ⟨v2, rfl, ho2, hb2⟩))
      go_ret2
      exact ⟨_, rfl, by simpa using ho2.mono hb1.size, hb1.trans (hb2.mono hb1.size)⟩

set_option maxRecDepth 100000 in
set_option maxHeartbeats 4000000 in
theorem implSound_any (A : Option Addr) (l : List Nt) (c : Nat) (step : Int) (w : World) (hn : l.length ≤ 1048576) (hA : RA w A l) :
    Calls Try.prog 37 #[.slice A l.length c, .int .i64 step] w fun e w' => RetInts w (atL step l) (goodB l && inR step 0 1999) e w' := by
  cases hgb : goodB l with
  | false =>
    go_enter Try.func37, Try.ntmps37
    go_wp2_with fail
    refine (isScore_any _ _ _ _ hn hA).mono ?_
    rintro e w1 ⟨rfl, hb1⟩
    go_wp2
    go_ret2
    exact ⟨_, rfl, by simpa using OwnI.nil _ _ _, hb1⟩
  | true =>
    have hg := (goodB_iff l).1 hgb
    have h60 := hg.2
    cases hr : inR step 0 1999 with
    | false =>
      go_enter Try.func37, Try.ntmps37
      go_wp2_with fail
      refine (isScore_any _ _ _ _ hn hA).mono ?_
      rintro e w1 ⟨rfl, hb1⟩
      go_wp2_with (go_at_call 74; refine (isStep_any _ _).mono ?_; rintro e w2 ⟨rfl, rfl⟩)
      go_ret2
      exact ⟨_, rfl, by simpa using OwnI.nil _ _ _, hb1⟩
    | true =>
      go_enter Try.func37, Try.ntmps37
      go_wp2_with fail
      refine (isScore_any _ _ _ _ hn hA).mono ?_
      rintro e w1 ⟨rfl, hb1⟩
      have hA1 := hA.below hb1
      go_wp2_with (go_at_call 74; refine (isStep_any _ _).mono ?_; rintro e w2 ⟨rfl, rfl⟩)
      clear hgb
      go_loopw [6, 19] (fun a i wr => ∃ k : Nat, k ≤ l.length ∧ i = .int .i64 k ∧ OwnI wr w1.heap.size 3 a (psL step (l.take k)) ∧ Below w1.heap.size w1 wr)
        (fun _ i _ => l.length - (intOf i).toNat)
      case atStart => exact ⟨0, Nat.zero_le _, rfl, OwnI.nil _ _ _, Below.refl _ _⟩
      case round =>
        obtain ⟨k, hk, rfl, hown, hb⟩ := hrel
        have HO := Lib.hid hown
        clear hown
        by_cases hlt : k < l.length
        · have hx : l[k]? = some l[k] := List.getElem?_eq_getElem hlt
          generalize l[k] = x at hx
          have hs := psL_snoc step l k x hx
          have hv := (noteN_iff x).1 (hg.1 k x hlt hx).1
          obtain ⟨p, s, n⟩ := x
          simp only at hs hv
          obtain ⟨g, o, rfl, hgb, h0, h1, h2⟩ := (hA1.below hb) k _ hx
          simp only at h0 h1 h2
          have i1 : (0 : Int) ≤ (k : Int) := by omega
          have i2 : (k : Int) < (l.length : Int) := by omega
          have HS := Lib.hid hs
          clear hs hx
          have hsz : (psL step (l.take k)).length ≤ 60 := by have := psL_length step (l.take k); simp at this; omega
          by_cases hs1 : s ≤ step
          · by_cases hs2 : step < n
            · have hbr0 : Below wr.heap.size wr (wr.alloc (.cells #[.int .i64 p, .int .i64 s, .int .i64 n] 34)) := (Below.refl _ _).alloc (Nat.le_refl _) _
              have hz0 : (wr.alloc (.cells #[.int .i64 p, .int .i64 s, .int .i64 n] 34)).heap.size = wr.heap.size + 1 := by simp
              have hbr3 := Lib.hid (show Below wr.heap.size wr ((wr.alloc (.cells #[.int .i64 p, .int .i64 s, .int .i64 n] 34)).alloc (.cells #[.int .i64 p] 3)) from hbr0.alloc hbr0.size _)
              have ho3 := Lib.hid (HO.out.below hbr3.out (Nat.le_refl _))
              have hc3 := Lib.hid (one_new (wr.alloc (.cells #[.int .i64 p, .int .i64 s, .int .i64 n] 34)) p)
              rw [hz0] at hc3
              clear hz0 hbr0
              go_wp2_with (at_builtin; go_loud (refine wpList_appI _ rfl (.tmp 33) (.tmp 36) rfl w1.heap.size _ _ rfl ho3.out (some ⟨wr.heap.size + 1, 0, none⟩) 1 1 [p] rfl rfl (fun h => by cases h) (fun j y hy => one_at hc3.out hy) (by simp; omega) (Nat.le_trans hb.size hbr3.out.size) ?_); intro v4 w4 ho4 hg4 hv4)
              go_roundw
              case rel =>
                refine ⟨k + 1, by omega, by go_num, ?_, (hb.trans (hbr3.out.mono hb.size)).grown hg4 (Nat.le_trans hb.size hbr3.out.size) (fun j hj => (ho3.out.lt j hj).1)⟩
                rw [HS.out, if_pos (by simp [soundB, inR]; omega)]
                exact ho4
              case measure => simp [intOf]; omega
            · go_wp2
              go_roundw
              case rel =>
                refine ⟨k + 1, by omega, by go_num, ?_, hb.alloc hb.size _⟩
                rw [HS.out, if_neg (by simp [soundB, inR]; omega), List.append_nil]
                exact HO.out.below ((Below.refl _ _).alloc (Nat.le_refl _) _) (Nat.le_refl _)
              case measure => simp [intOf]; omega
          · go_wp2
            go_roundw
            case rel =>
              refine ⟨k + 1, by omega, by go_num, ?_, hb.alloc hb.size _⟩
              rw [HS.out, if_neg (by simp [soundB, inR]; omega), List.append_nil]
              exact HO.out.below ((Below.refl _ _).alloc (Nat.le_refl _) _) (Nat.le_refl _)
            case measure => simp [intOf]; omega
        · obtain rfl : k = l.length := by omega
          rw [List.take_length] at HO
          go_wp2_with (go_at_call 75; refine (sortI_any _ _ w1.heap.size _ (by have := psL_length step l; omega) HO.out).mono ?_; rintro e w3 ⟨rfl, ho3, hg3⟩)
          go_ret2
          rw [at_merge step l hg] at ho3
          refine ⟨_, rfl, by simpa using ho3.mono hb1.size, hb1.trans ((hb.grown hg3 hb.size (fun j hj => (HO.out.lt j hj).1)).mono hb1.size)⟩
end Go.Proofs.Ytjjohenpapfabaa
