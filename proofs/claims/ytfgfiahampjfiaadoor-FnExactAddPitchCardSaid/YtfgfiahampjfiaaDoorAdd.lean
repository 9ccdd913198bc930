/- AddPitch: the model's and the program's functions have one answer, in memory of their own. -/
import Derived.Test.YtfgfiahampjfiaaDoorMiss2
namespace Go.Proofs.YtfgfiahampjfiaaDoor
open Go.RowKit Go.Sort
set_option linter.unusedVariables false
set_option linter.unusedSimpArgs false

def addOk (l : List Int) (r p : Int) : Bool := gdI l r && (inR p 24 96 && (!hasB l p && !decide (l.length = 20)))
theorem putL_len (n : Int) (l : List Int) : (putL n l).length ≤ l.length + 1 := putL_length n l
theorem add_perm (p : Int) (l : List Int) (h : p ∉ l) : (putL p l).Perm (l ++ [p]) := (putL_perm p l h).trans (List.perm_append_comm (l₁ := [p]) (l₂ := l))
theorem add_sorted (l : List Int) (r p : Int) (hg : gdI l r = true) (h : p ∉ l) : (l ++ [p]).mergeSort (fun x y => decide (x ≤ y)) = putL p l := by
  have hgg := (gdI_iff l r).1 hg
  exact (inc_merge (add_perm p l h) (putL_inc p l (inc_of_lt hgg.2.1.inc))).symm
theorem add_gd (l : List Int) (r p : Int) (hg : gdI l r = true) : gdI ((l ++ [p]).mergeSort fun x y => decide (x ≤ y)) r = addOk l r p := by
  have hgg := (gdI_iff l r).1 hg
  rw [Bool.eq_iff_iff]
  constructor
  · intro h
    have h' := (gdI_iff _ r).1 h
    have hlen : ((l ++ [p]).mergeSort fun x y => decide (x ≤ y)).length = l.length + 1 := by simp
    have hnd : ((l ++ [p]).mergeSort fun x y => decide (x ≤ y)).Nodup := h'.2.1.inc.imp (fun h => by omega)
    have hnd2 : (l ++ [p]).Nodup := (List.mergeSort_perm _ _).nodup_iff.1 hnd
    have hp : p ∉ l := by
      rw [List.nodup_append] at hnd2
      intro hm
      exact hnd2.2.2 p hm p (by simp) rfl
    have hr := h'.2.1.range (x := p) ((List.mergeSort_perm _ _).mem_iff.2 (by simp))
    have hn20 : ¬ l.length = 20 := by omega
    unfold addOk
    rw [hg, inR_true hr.1 hr.2]
    simp [hasB, hp, hn20]
  · intro h
    unfold addOk at h
    simp only [Bool.and_eq_true, Bool.not_eq_true', decide_eq_false_iff_not, hasB] at h
    obtain ⟨_, hr, hp, h20⟩ := h
    rw [add_sorted l r p hg hp]
    have hr' : 24 ≤ p ∧ p ≤ 96 := by simpa [inR] using hr
    have hlen : (putL p l).length = l.length + 1 := by rw [(putL_perm p l hp).length_eq]; rfl
    refine (gdI_iff _ r).2 ⟨by omega, upTo_of_inc (inc_lt (putL_inc p l (inc_of_lt hgg.2.1.inc))) (fun x hx => ?_), hgg.2.2⟩
    rcases (mem_putL p l x).1 hx with rfl | hx
    · exact hr'
    · exact hgg.2.1.range hx

/-- A call returned an instrument with numbers of its own, or the empty one and false. -/
def RetN (B : World) (l : List Int) (r : Int) (ok : Bool) (e : Ending) (w' : World) : Prop :=
  ∃ v, e = .returned (.tuple #[.agg #[v, .int .i64 (if ok = true then r else 0)], .bool ok]) ∧ OwnI w' B.heap.size 3 v (if ok = true then l else []) ∧ Below B.heap.size B w'

set_option maxRecDepth 100000 in
set_option maxHeartbeats 1000000 in
theorem l1Own_any (g : Nat) (l : List Int) (c : Nat) (w : World) (hn : l.length ≤ 1048576) (hlc : l.length ≤ c) (hA : RI w (some ⟨g, 0, none⟩) l) :
    Calls Tryd.prog 82 #[.slice (some ⟨g, 0, none⟩) l.length c] w fun e w' => ∃ v, e = .returned v ∧ OwnI w' w.heap.size 3 v l ∧ Below w.heap.size w w' := by
  have ho0 := Lib.hid (OwnI.lit w w.heap.size [] #[] rfl (by simp) (Nat.le_refl _))
  have hB0 := Lib.hid (show Below w.heap.size w (w.alloc (.cells #[] 3)) from (Below.refl _ _).alloc (Nat.le_refl _) _)
  have HR := Lib.hid hA
  go_enter Tryd.func82, Tryd.ntmps82
  go_wp2_with (at_builtin; go_loud (refine wpList_appI _ rfl (.tmp 3) (.tmp 4) rfl w.heap.size _ [] rfl ho0.out (some ⟨g, 0, none⟩) l.length c l rfl rfl (fun h => by cases h) (fun j y hy => ⟨_, rfl, by rw [Addr.add_lit, Nat.zero_add]; exact (HR.out.below hB0.out).at hy⟩) (by simp; omega) hB0.out.size ?_); intro v1 w1 ho1 hg1 hv1)
  go_ret
  refine ⟨_, rfl, by simpa using ho1, hB0.out.grown hg1 hB0.out.size (fun j hj => (ho0.out.lt j hj).1)⟩

def onlyR (A : Option Addr) (l : List Int) (c : Nat) (r : Int) : Array Value := if gdI l r = true then #[.agg #[.slice A l.length c, .int .i64 r], .bool true] else #[.agg #[.slice none 0 0, .int .i64 0], .bool false]

set_option maxRecDepth 100000 in
set_option maxHeartbeats 1000000 in
theorem insOnly_any (A : Option Addr) (l : List Int) (c : Nat) (r : Int) (w : World) (hn : l.length ≤ 1048576) (hA : RI w A l) (hL : Lim w) :
    Calls Tryd.prog 84 #[.agg #[.slice A l.length c, .int .i64 r]] w fun e w' => e = .returned (.tuple (onlyR A l c r)) ∧ Below w.heap.size w w' := by
  have hb2 : Below w.heap.size w ((w.alloc (.cells #[.slice A l.length c, .int .i64 r] 27)).alloc (.cells #[.slice none 0 0, .int .i64 0] 27)) := ((Below.refl _ _).alloc (Nat.le_refl _) _).alloc (by simp) _
  have a0 : ((w.alloc (.cells #[.slice A l.length c, .int .i64 r] 27)).alloc (.cells #[.slice none 0 0, .int .i64 0] 27)).cell? ⟨w.heap.size, 0, none⟩ = some (.slice A l.length c) := by go_simp
  have a1 : ((w.alloc (.cells #[.slice A l.length c, .int .i64 r] 27)).alloc (.cells #[.slice none 0 0, .int .i64 0] 27)).cell? ⟨w.heap.size, 1, none⟩ = some (.int .i64 r) := by go_simp
  have d0 : ((w.alloc (.cells #[.slice A l.length c, .int .i64 r] 27)).alloc (.cells #[.slice none 0 0, .int .i64 0] 27)).cell? ⟨w.heap.size + 1, 0, none⟩ = some (.slice none 0 0) := by go_simp
  have d1 : ((w.alloc (.cells #[.slice A l.length c, .int .i64 r] 27)).alloc (.cells #[.slice none 0 0, .int .i64 0] 27)).cell? ⟨w.heap.size + 1, 1, none⟩ = some (.int .i64 0) := by go_simp
  have f0 : ((w.alloc (.cells #[.slice A l.length c, .int .i64 r] 27)).alloc (.cells #[.slice none 0 0, .int .i64 0] 27)).frozen? ⟨w.heap.size + 1, 0, none⟩ = false := by go_simp
  have f1 : ((w.alloc (.cells #[.slice A l.length c, .int .i64 r] 27)).alloc (.cells #[.slice none 0 0, .int .i64 0] 27)).frozen? ⟨w.heap.size + 1, 1, none⟩ = false := by go_simp
  have hz : w.heap.size + 1 < ((w.alloc (.cells #[.slice A l.length c, .int .i64 r] 27)).alloc (.cells #[.slice none 0 0, .int .i64 0] 27)).heap.size := by simp
  have hA := hA.below hb2
  have hL := hL.below hb2
  go_enter Tryd.func84, Tryd.ntmps84
  go_wp2_with fail
  generalize ((w.alloc (.cells #[.slice A l.length c, .int .i64 r] 27)).alloc (.cells #[.slice none 0 0, .int .i64 0] 27)) = W at *
  refine (isIns_any _ _ _ _ _ hn hA hL).mono ?_
  rintro e w1 ⟨rfl, hb1⟩
  have hz0 : w.heap.size < W.heap.size := by omega
  have a0 := (hb1.cell (p := ⟨w.heap.size, 0, none⟩) hz0).trans a0
  have a1 := (hb1.cell (p := ⟨w.heap.size, 1, none⟩) hz0).trans a1
  have d0 := (hb1.cell (p := ⟨w.heap.size + 1, 0, none⟩) hz).trans d0
  have d1 := (hb1.cell (p := ⟨w.heap.size + 1, 1, none⟩) hz).trans d1
  have f0 := (hb1.frozen (p := ⟨w.heap.size + 1, 0, none⟩) hz).trans f0
  have f1 := (hb1.frozen (p := ⟨w.heap.size + 1, 1, none⟩) hz).trans f1
  have hB := Lib.hid (hb2.trans (hb1.mono hb2.size))
  have m1 : w.heap.size ≤ w.heap.size + 1 := by omega
  have n1 : w.heap.size + 1 ≠ w.heap.size := by omega
  clear hb2 hb1 hA hL hz hz0
  cases hg : gdI l r with
  | false =>
    go_wp2
    exact bodyPost_ret (v := .tuple #[.agg #[.slice none 0 0, .int .i64 0], .bool false]) (by simp [results, Tryd.results84, go_sem, *]) rfl ⟨by simp [onlyR, hg], (hB.out.setCell m1 _).setCell m1 _⟩
  | true =>
    go_wp2
    exact bodyPost_ret (v := .tuple #[.agg #[.slice A l.length c, .int .i64 r], .bool true]) (by simp [results, Tryd.results84, go_sem, *]) rfl ⟨by simp [onlyR, hg], (hB.out.setCell m1 _).setCell m1 _⟩
end Go.Proofs.YtfgfiahampjfiaaDoor
