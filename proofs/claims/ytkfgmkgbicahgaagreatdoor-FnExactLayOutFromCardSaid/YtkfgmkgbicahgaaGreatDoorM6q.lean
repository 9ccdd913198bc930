/- Texts of the proof, run together: HShP, HSortN, HTrk, InsL, IsScore. -/
import Derived.Test.YtkfgmkgbicahgaaGreatDoorM5q
import Derived.Test.YtkfgmkgbicahgaaGreatDoorM4q
import Derived.Test.YtkfgmkgbicahgaaGreatDoorM3q
import Derived.Sort.OwnSortedInts
import Derived.Laws.CopyRow
import Derived.Test.YtkfgmkgbicahgaaGreatDoorM2q
import Derived.Lib.BufferWrite
import Derived.Lib.QuietBelow
import Derived.Deep.OwnRows
import Derived.Deep.RegionHeld3
namespace Go.Proofs.YtkfgmkgbicahgaaGreatDoor.H
set_option linter.unusedVariables false

/-- There is a web between two holes, if they have one track. -/
def apart (x y : Nt) : Prop := ¬ (x.1 = y.1 ∧ x.2.1 ≤ y.2.2 ∧ y.2.1 ≤ x.2.2)
theorem apart_symm {x y : Nt} (h : apart x y) : apart y x := fun ⟨a, b, c⟩ => h ⟨a.symm, c, b⟩
theorem Good.apart {l : List Nt} (h : Good l) : l.Pairwise apart := by
  rw [List.pairwise_iff_getElem]
  intro i j hi hj hij hm
  have h1 := (h.1 j l[j] hj (List.getElem?_eq_getElem hj)).2.2 i l[i] hij (List.getElem?_eq_getElem hi)
  have : ¬ (meetN l[j] l[i] = true) := by rw [h1]; simp
  rw [meetN_iff] at this
  exact this ⟨hm.1.symm, hm.2.2⟩
theorem Good.valid {l : List Nt} (h : Good l) (x : Nt) (hx : x ∈ l) : noteN x = true := by
  obtain ⟨i, hi⟩ := List.mem_iff_getElem?.1 hx
  exact (h.1 i x (List.getElem?_eq_some_iff.1 hi).1 hi).1
theorem Good.srt {l : List Nt} (h : Good l) : Srt l := by
  unfold Srt
  rw [List.pairwise_iff_getElem]
  intro i j hi hj hij
  exact befN_asym (h.bef j i _ _ hij (List.getElem?_eq_getElem hi) (List.getElem?_eq_getElem hj))

/-- Valid holes in order, with webs between them, not too many, are a sheet. -/
theorem good_of_srt {ys : List Nt} (hs : Srt ys) (hv : ∀ x ∈ ys, noteN x = true) (ha : ys.Pairwise Go.Proofs.YtkfgmkgbicahgaaGreatDoor.H.apart) (h60 : ys.length ≤ 60) : Good ys := by
  refine ⟨fun i x hi hx => ?_, h60⟩
  have hxe := (List.getElem?_eq_some_iff.1 hx).2
  have key : ∀ (j : Nat) (y : Nt), j < i → ys[j]? = some y → ¬ (x.2.1 < y.2.1 ∨ x.2.1 = y.2.1 ∧ x.1 < y.1) ∧ ¬ (y.1 = x.1 ∧ y.2.1 ≤ x.2.2 ∧ x.2.1 ≤ y.2.2) ∧ (0 ≤ y.2.1 ∧ y.2.1 < y.2.2) := by
    intro j y hj hy
    have hj' := (List.getElem?_eq_some_iff.1 hy).1
    have hye := (List.getElem?_eq_some_iff.1 hy).2
    have h1 := List.pairwise_iff_getElem.1 hs j i hj' hi hj
    have h2 := List.pairwise_iff_getElem.1 ha j i hj' hi hj
    rw [hxe, hye] at h1 h2
    have h3 := (noteN_iff y).1 (hv y (List.mem_iff_getElem?.2 ⟨j, hy⟩))
    exact ⟨(befN_false x y).1 h1, h2, h3.2.2.1, h3.2.2.2.1⟩
  have hvx := (noteN_iff x).1 (hv x (List.mem_iff_getElem?.2 ⟨i, hx⟩))
  refine ⟨hv x (List.mem_iff_getElem?.2 ⟨i, hx⟩), fun y h0 hy => ?_, fun j y hj hy => ?_⟩
  · obtain ⟨h1, h2, h3⟩ := key (i - 1) y (by omega) hy
    rw [befN_iff]
    omega
  · obtain ⟨h1, h2, h3⟩ := key j y hj hy
    cases hm : meetN x y with
    | false => rfl
    | true =>
      rw [meetN_iff] at hm
      exact absurd ⟨hm.1.symm, by omega, hm.2⟩ h2

def mxI (a b : Int) : Int := if a < b then b else a
def mnI (a b : Int) : Int := if b < a then b else a
theorem mxI_spec (a b : Int) : a ≤ mxI a b ∧ b ≤ mxI a b ∧ (mxI a b = a ∨ mxI a b = b) := by unfold mxI; split <;> omega
theorem mnI_spec (a b : Int) : mnI a b ≤ a ∧ mnI a b ≤ b ∧ (mnI a b = a ∨ mnI a b = b) := by unfold mnI; split <;> omega
/-- Holes changed one by one; those that are left. -/
def chgL (g : Nt → Nt) (l : List Nt) : List Nt := (l.map g).filter fun y => decide (y.2.1 < y.2.2)
theorem chgL_length (g : Nt → Nt) (l : List Nt) : (chgL g l).length ≤ l.length := by
  unfold chgL
  exact Nat.le_trans (List.length_filter_le _ _) (by simp)
theorem chgL_snoc (g : Nt → Nt) (l : List Nt) (k : Nat) (x : Nt) (h : l[k]? = some x) : chgL g (l.take (k + 1)) = chgL g (l.take k) ++ (if (g x).2.1 < (g x).2.2 then [g x] else []) := by
  unfold chgL
  rw [List.take_add_one, h, List.map_append, List.filter_append]
  congr 1
  simp only [Option.toList, List.map_cons, List.map_nil, List.filter_cons, List.filter_nil, decide_eq_true_eq]
theorem chgL_all (g : Nt → Nt) (l : List Nt) (h : ∀ x ∈ l, (g x).2.1 < (g x).2.2) : chgL g l = l.map g := by
  unfold chgL
  rw [List.filter_eq_self]
  intro y hy
  obtain ⟨x, hx, rfl⟩ := List.mem_map.1 hy
  simpa using h x hx

def moveN (b : Int) (x : Nt) : Nt := (x.1, x.2.1 + b, x.2.2 + b)
def revN (n : Int) (x : Nt) : Nt := (x.1, n - x.2.2, n - x.2.1)
def mirN (x : Nt) : Nt := (19 - x.1, x.2.1, x.2.2)
def cutN (f t : Int) (x : Nt) : Nt := (x.1, mxI x.2.1 f - f, mnI x.2.2 t - f)

theorem moved_srt {l : List Nt} (b : Int) (h : Srt l) : Srt (l.map (moveN b)) := by
  unfold Srt at *
  rw [List.pairwise_map]
  refine h.imp ?_
  intro x y hxy
  rw [befN_false] at *
  simp only [moveN]
  omega
/-- A part of a sheet is a sheet. -/
theorem cut_good {l : List Nt} (f t : Int) (hg : Good l) (hf : 0 ≤ f) (ht : t ≤ 2000) : goodB (canon (chgL (cutN f t) l)) = true := by
  rw [goodB_iff]
  have hp := canon_perm (chgL (cutN f t) l)
  refine good_of_srt (canon_srt _) ?_ ?_ ?_
  · intro x hx
    have hx' := hp.mem_iff.1 hx
    unfold chgL at hx'
    rw [List.mem_filter] at hx'
    obtain ⟨h1, h2⟩ := hx'
    obtain ⟨z, hz, rfl⟩ := List.mem_map.1 h1
    have hv := (noteN_iff z).1 (hg.valid z hz)
    rw [noteN_iff]
    have h2 : (cutN f t z).2.1 < (cutN f t z).2.2 := of_decide_eq_true h2
    simp only [cutN] at h2 ⊢
    have a1 := mxI_spec z.2.1 f
    have a2 := mnI_spec z.2.2 t
    refine ⟨hv.1, hv.2.1, ?_⟩
    omega
  · refine (hp.pairwise_iff fun {x y} h => apart_symm h).2 ?_
    unfold chgL
    rw [List.pairwise_filter, List.pairwise_map]
    refine hg.apart.imp ?_
    intro x y hxy hx hy hm
    refine hxy ?_
    have hx : (cutN f t x).2.1 < (cutN f t x).2.2 := of_decide_eq_true hx
    have hy : (cutN f t y).2.1 < (cutN f t y).2.2 := of_decide_eq_true hy
    simp only [cutN] at hx hy hm
    have a1 := mxI_spec x.2.1 f
    have a2 := mnI_spec x.2.2 t
    have a3 := mxI_spec y.2.1 f
    have a4 := mnI_spec y.2.2 t
    obtain ⟨h1, h2, h3⟩ := hm
    refine ⟨h1, ?_⟩
    omega
  · rw [canon_length]
    exact Nat.le_trans (chgL_length _ _) hg.2
/-- A list in order is what it is when it is put in order, where one of them is a sheet. -/
theorem canon_same {l : List Nt} (hs : Srt l) : goodB (canon l) = goodB l ∧ (if goodB (canon l) = true then canon l else []) = (if goodB l = true then l else []) := by
  obtain ⟨h1, h2⟩ := canon_good (List.Perm.refl l) hs
  exact ⟨h1.symm, h2.symm⟩
/-- A hole that is none keeps the whole from being a sheet. -/
theorem canon_bad {l : List Nt} {x : Nt} (hx : noteN x = false) : goodB (canon (l ++ [x])) = false := by
  cases h : goodB (canon (l ++ [x])) with
  | false => rfl
  | true =>
    have := ((goodB_iff _).1 h).valid x ((canon_perm _).mem_iff.2 (by simp))
    rw [hx] at this
    cases this
end Go.Proofs.YtkfgmkgbicahgaaGreatDoor.H

namespace Go.Proofs.YtkfgmkgbicahgaaGreatDoor.H
open Go.RowKit Go.Sort Go.Shelf Go.Lib
set_option linter.unusedVariables false
set_option linter.unusedSimpArgs false

def cfN (x y : Nt) : Int := cmpN x.1 x.2.1 y.1 y.2.1
theorem cmpZ_neg (x y : Int) : cmpZ x y < 0 ↔ x < y := by unfold cmpZ; by_cases h1 : x < y <;> by_cases h2 : y < x <;> simp [h1, h2] <;> omega
theorem cmpZ_zero (x y : Int) : cmpZ x y = 0 ↔ x = y := by unfold cmpZ; by_cases h1 : x < y <;> by_cases h2 : y < x <;> simp [h1, h2] <;> omega
theorem ltN (x y : Nt) : ltOf cfN x y = befN x y := by
  rw [Bool.eq_iff_iff, befN_iff]
  simp only [ltOf, cfN, cmpN, orZ, decide_eq_true_eq]
  split
  · rename_i h
    rw [cmpZ_zero] at h
    rw [decide_eq_true_eq, cmpZ_neg]
    omega
  · rename_i h
    rw [cmpZ_zero] at h
    rw [decide_eq_true_eq, cmpZ_neg]
    omega
theorem swoN : SWO (ltOf cfN) where
  irrefl x := by rw [ltN]; exact befN_irr x
  trans x y z h1 h2 := by rw [ltN] at *; exact befN_trans h1 h2
  ntrans x y z h1 h2 := by rw [ltN] at *; exact befN_ntrans h1 h2

set_option maxRecDepth 100000 in
set_option maxHeartbeats 1000000 in
theorem cmpNotes_grow (p s n p' s' n' : Int) (w : World) :
    Calls Tryz.prog 70 #[.agg #[.int .i64 p, .int .i64 s, .int .i64 n], .agg #[.int .i64 p', .int .i64 s', .int .i64 n']] w
      fun e w' => e = .returned (.int .i64 (cmpN p s p' s')) ∧ ∃ q os', w' = grow (w.drewN q) os' := by
  go_enter Tryz.func70, Tryz.ntmps70
  go_wp2_with fail
  refine wp_region_still_tail 10 (by kernel_rfl) (by kernel_rfl) ?_
  change wpStill _ _ (World.drew _) (fun a' => wpList _ _ _ _ a' (World.drew _)) _ _
  simp only [List.take_succ_cons, List.take_zero, List.drop_succ_cons, List.drop_zero]
  repeat still_step
  still_call (cmpCompare_same _ _ _)
  repeat still_step
  still_call (cmpCompare_same _ _ _)
  repeat still_step
  try refine wpStill_nil ?_
  go_wp2_with (go_at_call 77; refine (cmpOr_any _ (cmpZ s s') (cmpZ p p') _ (by go_simp) (by go_simp)).mono ?_; rintro e w1 ⟨rfl, rfl⟩)
  go_ret
  exact ⟨rfl, 1, _, by simp only [alloc_eq_grow, grow_grow, drew_grow]; rfl⟩

theorem cmpLaysN (blk off size : Nat) (w : World) : CmpLays Tryz.prog 70 #[] nc 3 cfN blk off size w :=
  fun _ _ _ _ x y => cmpNotes_grow x.1 x.2.1 x.2.2 y.1 y.2.1 y.2.2 _

theorem flat_cl (l : List Nt) : flatK nc 3 l.toArray = (cl l).toArray := by
  apply Array.ext
  · simp [cl_length]
  · intro t h1 h2
    simp only [size_flatK, List.size_toArray] at h1
    have e1 : (flatK nc 3 l.toArray)[t] = (flatK nc 3 l.toArray)[t]! := by rw [getElem!_pos]
    rw [e1, get_flatK _ _ _ _ (by simpa using h1)]
    have hx : l[t / 3]? = some (l[t / 3]'(by omega)) := List.getElem?_eq_getElem _
    have hx2 : l.toArray[t / 3]! = l[t / 3]'(by omega) := by rw [getElem!_pos _ _ (by simp; omega)]; simp
    rw [hx2]
    generalize l[t / 3]'(by omega) = x at hx
    obtain ⟨c0, c1, c2⟩ := cl_get l _ x hx
    have hr : t % 3 = 0 ∨ t % 3 = 1 ∨ t % 3 = 2 := by omega
    have hg : ∀ u, (cl l)[t]? = some u → (cl l).toArray[t] = u := by
      intro u hu
      have := (List.getElem?_eq_some_iff.1 hu).2
      simpa using this
    rcases hr with hr | hr | hr
    · rw [show t / 3 * 3 = t from by omega] at c0
      rw [hg _ c0, hr]; rfl
    · rw [show t / 3 * 3 + 1 = t from by omega] at c1
      rw [hg _ c1, hr]; rfl
    · rw [show t / 3 * 3 + 2 = t from by omega] at c2
      rw [hg _ c2, hr]; rfl

theorem holdsV {w : World} {g : Nat} {cur : Array Value} {e : TypeId} {cs : List Value} (hb : w.heap[g]? = some (.cells cur e (0, 0))) (ht : cur.toList.take cs.length = cs) : Holds id w g 0 cs.toArray := by
  intro j hj
  have hj' : j < cs.length := by simpa using hj
  refine ⟨?_, by simp [World.frozen?, hb]⟩
  have h1 : (cur.toList.take cs.length)[j]? = cs[j]? := by rw [ht]
  rw [List.getElem?_take_of_lt hj'] at h1
  simp only [World.cell?, hb, Nat.zero_add]
  simp only [Option.isSome_none, Bool.false_eq_true, if_false]
  rw [← Array.getElem?_toList, h1]
  simp [hj']
theorem heapV {w : World} {g n : Nat} {os : Array Obj} {cur : Array Value} {e : TypeId} {fr : Nat × Nat} (d : Array Value) (hb : w.heap[g]? = some (.cells cur e fr)) :
    (grow (putRow id (Sort.ahead w n) g 0 d) os).heap[g]? = some (.cells (putCells id 0 d cur) e fr) := by
  have hg : g < w.heap.size := (Array.getElem?_eq_some_iff.1 hb).1
  rw [heap_grow_old _ _ (by simpa using hg)]
  simp [putRow, mapBlock, Sort.ahead, Array.getElem?_modify, hb, onCells]
theorem grownV {w : World} {g n : Nat} {os : Array Obj} (d : Array Value) : w.grownBy (grow (putRow id (Sort.ahead w n) g 0 d) os) (some g) := by
  refine ⟨rfl, rfl, rfl, by simp, fun k hk hne => ?_⟩
  rw [heap_grow_old _ _ (by simpa using hk)]
  have : g ≠ k := fun e => hne (by rw [e])
  simp [putRow, mapBlock, Sort.ahead, Array.getElem?_modify, this]
theorem takeV (cur : Array Value) (ts : List Value) (h : ts.length ≤ cur.size) : (putCells id 0 ts.toArray cur).toList.take ts.length = ts := by
  apply List.ext_getElem?
  intro j
  by_cases hj : j < ts.length
  · rw [List.getElem?_take_of_lt hj, Array.getElem?_toList]
    simp [putCells, hj, show j < cur.size by omega]
  · rw [List.getElem?_take_eq_none (by omega), List.getElem?_eq_none (by omega)]

theorem eg43 (args : Array Value) (w : World) : (callFunc 70 args).run Tryz.prog w = .ok (.enter 70 args) w :=
  enters_of Tryz.func70 (by kernel_rfl) rfl args w

theorem sortN_any (g cap : Nat) (zs : List Nt) (base : Nat) (w : World) (hl : zs.length ≤ 1000000) (hv : Own w base 54 (.slice (some ⟨g, 0, none⟩) zs.length cap) zs) :
    Calls Tryz.prog 71 #[.slice (some ⟨g, 0, none⟩) zs.length cap, .func (.func 70) #[] #[]] w
      fun e w' => e = .returned (.tuple #[]) ∧ ∃ ys : List Nt, ys.Perm zs ∧ Srt ys ∧ Own w' base 54 (.slice (some ⟨g, 0, none⟩) zs.length cap) ys ∧ w.grownBy w' (some g) := by
  rcases hv.2 with ⟨hf, _⟩ | ⟨g', cap', cur, hf, hg, hh, hnc, hm, hs, ht⟩
  · cases hf
  injection hf with e1 e2 e3
  injection e1 with e1
  injection e1 with e1
  subst e1 e3
  have ht' : cur.toList.take (cl zs).length = cl zs := by rw [cl_length]; exact ht
  have hH : HoldsK nc 3 w g 0 zs.toArray := by unfold HoldsK; rw [flat_cl]; exact holdsV hh ht'
  have hcon := AnyQ.slices_SortFunc Tryz.sortNotesF 3 Tryz.isAgg54 Tryz.sizeOf54 nc (fun _ => rfl) (fun x v hv => by simp [nc] at hv; rcases hv with rfl | rfl | rfl <;> rfl) cfN swoN 70 #[] g 0 cap zs.toArray w eg43 (cmpLaysN g 0 _ w) hH ((hv.lt _ rfl).2) (by simp; omega)
  change Calls Tryz.prog 71 _ _ _ at hcon
  rw [List.size_toArray] at hcon
  refine hcon.mono ?_
  rintro e w' ⟨rfl, d', n, os, hp, hsd, rfl⟩
  obtain ⟨hsz, _, hpm⟩ := hp
  simp only [List.size_toArray] at hsz
  have hfull : ∀ a : Array Nt, a.size = zs.length → (a.extract 0 zs.length).toList = a.toList := by
    intro a ha
    rw [← ha]
    simp
  rw [hfull d' hsz, hfull zs.toArray (by simp)] at hpm
  have hdl : d'.toList.length = zs.length := by simpa using hsz
  have hflat : flatK nc 3 d' = (cl d'.toList).toArray := by
    have := flat_cl d'.toList
    simpa using this
  refine ⟨rfl, d'.toList, by simpa using hpm, ?_, ?_, ?_⟩
  · unfold Srt
    rw [List.pairwise_iff_getElem]
    intro i j hi hj hij
    have h := hsd i j (Nat.zero_le _) hij (by omega)
    rw [ltN] at h
    have ei : d'[i]! = d'.toList[i] := by rw [getElem!_pos d' i (by simpa using hi)]; simp
    have ej : d'[j]! = d'.toList[j] := by rw [getElem!_pos d' j (by simpa using hj)]; simp
    rw [← ei, ← ej]
    exact h
  · unfold sortWorldK putRowK
    rw [hflat]
    refine ⟨by rw [hdl, cl_length, hdl], .inr ⟨g, cap, _, by rw [hdl], hg, heapV _ hh, by rw [hdl]; exact hnc, hm, by simp [putCells, hs], ?_⟩⟩
    have h := takeV cur (cl d'.toList) (by rw [cl_length, hdl, hs]; exact Nat.mul_le_mul_right 3 hnc)
    rw [cl_length] at h
    exact h
  · unfold sortWorldK putRowK
    exact grownV _
end Go.Proofs.YtkfgmkgbicahgaaGreatDoor.H

namespace Go.Proofs.YtkfgmkgbicahgaaGreatDoor.H
open Go.RowKit Go.Sort
set_option linter.unusedVariables false
set_option linter.unusedSimpArgs false

def allT (_ : Nt) : Bool := true
/-- The tracks of all holes. -/
def tracksL (l : List Nt) : List Int := atF allT l

theorem tracksL_length (l : List Nt) : (tracksL l).length ≤ l.length := by
  have := atF_length allT l l.length (Nat.le_refl _)
  rw [List.take_length] at this
  exact this
end Go.Proofs.YtkfgmkgbicahgaaGreatDoor.H

namespace Go.Proofs.YtkfgmkgbicahgaaGreatDoor
open Go.RowKit
set_option linter.unusedVariables false
set_option linter.unusedSimpArgs false

theorem Tryz.info_intL : (Tryz.prog.info? 3).map (fun i => (i.zero, i.size, i.bytes)) = some (some (.int .i64 0), 1, 8) := by kernel_rfl

theorem make_ints (n : Nat) (hn : n ≤ 1048576) (W : World) :
    (Instr.makeSlice 22 (.int .i64 (n : Int)) (.int .i64 (n : Int))).run Tryz.prog W = .ok (.slice (some ⟨W.heap.size, 0, none⟩) n n) (W.alloc (.cells (madeCells #[.int .i64 0] (n * 1)) 3)) := by
  obtain ⟨i, hi, hz, hs, hb⟩ := info_parts Tryz.info_intL
  have h := run_make (P := Tryz.prog) W 22 3 i _ Tryz.underlying22 hi hz .i64 .i64 (n : Int) (n : Int) (by omega) (by omega) (by rw [hb]; omega) (by omega)
  rw [hs] at h
  simp only [Int.toNat_natCast] at h
  exact h
theorem made_ci (n : Nat) : (madeCells #[.int .i64 0] (n * 1)).toList = ci (List.replicate n 0) := by
  apply List.ext_getElem?
  intro i
  by_cases hi : i < n
  · simp [madeCells, ci, hi, Nat.mod_one]
  · rw [List.getElem?_eq_none (by simp [size_madeCells]; omega), List.getElem?_eq_none (by rw [ci_length]; simp; omega)]

set_option maxHeartbeats 400000 in
theorem szIntS_any (A : Option Addr) (n c : Nat) (left : Int) (w : World) (hn : n ≤ 9223372036854775807) (h0 : 0 ≤ left) (h1 : left ≤ 1048576) :
    Calls Tryz.prog 17 #[.slice A n c, .int .i64 left] w fun e w' => e = .returned (.int .i64 (if left - n < 0 then -1 else left - n)) ∧ w = w' := by
  by_cases h : left - n < 0
  all_goals
    go_enter Tryz.func17, Tryz.ntmps17
    go_wp2
    go_ret
    exact ⟨ret_int (by simp), rfl⟩

theorem takeI_set (l m : List Int) (k : Nat) (x : Int) (h : l[k]? = some x) (hm : k < m.length) : (l.take k ++ m.drop k).set k x = l.take (k + 1) ++ m.drop (k + 1) := by
  have hk : k < l.length := (List.getElem?_eq_some_iff.1 h).1
  rw [List.set_append_right _ _ (by simp; omega), List.length_take, Nat.min_eq_left (by omega), Nat.sub_self, List.drop_eq_getElem_cons hm, List.set_cons_zero, List.take_add_one, h]
  simp

set_option maxRecDepth 100000 in
set_option maxHeartbeats 1000000 in
theorem toIntS_any (A : Option Addr) (l : List Int) (c : Nat) (w : World) (hn : l.length ≤ 1048576) (hA : RI w A l) :
    Calls Tryz.prog 21 #[.slice A l.length c] w fun e w' => e = .returned (.slice (some ⟨w.heap.size, 0, none⟩) l.length l.length) ∧
      OwnI w' w.heap.size 3 (.slice (some ⟨w.heap.size, 0, none⟩) l.length l.length) l ∧ Below w.heap.size w w' := by
  have hmk := make_ints l.length hn
  go_enter Tryz.func21, Tryz.ntmps21
  go_wp2
  go_loopw [4] (fun i wr => ∃ k : Nat, k ≤ l.length ∧ i = .int .i64 k ∧ OwnI wr w.heap.size 3 (.slice (some ⟨w.heap.size, 0, none⟩) l.length l.length) (l.take k ++ (List.replicate l.length 0).drop k) ∧ Below w.heap.size w wr)
    (fun i _ => l.length - (intOf i).toNat)
  case atStart =>
    refine ⟨0, Nat.zero_le _, rfl, ?_, (Below.refl _ _).alloc (Nat.le_refl _) _⟩
    have h := World.ownsRow_lit (base := w.heap.size) (e := 3) (size := 1) w (madeCells #[.int .i64 0] (l.length * 1)) l.length (Nat.le_refl _) (by unfold maxLen; omega) (size_madeCells _ _)
    rw [made_ci] at h
    simpa [OwnI] using h
  case round =>
    obtain ⟨k, hk, rfl, hown, hb⟩ := hrel
    by_cases hlt : k < l.length
    · have hx : l[k]? = some l[k] := List.getElem?_eq_getElem hlt
      generalize l[k] = x at hx
      obtain ⟨g, o, rfl, hg, h0⟩ := (hA.below hb) k _ hx
      have hz1 : w.heap.size < wr.heap.size := (hown.lt _ rfl).2
      have hL : (l.take k ++ (List.replicate l.length (0 : Int)).drop k).length = l.length := by simp; omega
      unfold OwnI at hown
      rw [hL] at hown
      have f0 := hown.frozenAt k
      have c0 : ∃ u, wr.cell? ⟨w.heap.size, k, none⟩ = some u := by rw [hown.cellAt _ (by omega)]; exact ⟨_, List.getElem?_eq_getElem (by rw [ci_length, hL]; omega)⟩
      obtain ⟨u0, c0⟩ := c0
      have i1 : (0 : Int) ≤ (k : Int) := by omega
      have i2 : (k : Int) < (l.length : Int) := by omega
      have H := Lib.hid hown
      have HX := Lib.hid hx
      clear hown hL hx hA
      go_wp2
      go_roundw
      case rel =>
        have s1 := H.out.stored k (.int .i64 x)
        have k2 := s1.1
        have e1 : (ci (l.take k ++ (List.replicate l.length (0 : Int)).drop k)).set k (.int .i64 x) = ci (l.take (k + 1) ++ (List.replicate l.length (0 : Int)).drop (k + 1)) := by
          rw [← takeI_set l _ k x HX.out (by simpa using hlt)]; simp [ci, List.map_set]
        rw [e1] at k2
        have hL' : (l.take (k + 1) ++ (List.replicate l.length (0 : Int)).drop (k + 1)).length = l.length := by simp; omega
        refine ⟨k + 1, by omega, by go_num, ?_, hb.setCell (by simp) _⟩
        unfold OwnI
        rw [hL']
        exact k2
      case measure => simp [intOf]; omega
    · obtain rfl : k = l.length := by omega
      go_wp2
      go_ret
      exact ⟨rfl, by simpa using hown, hb⟩

set_option maxHeartbeats 400000 in
theorem szIns_any (A : Option Addr) (n c : Nat) (r left : Int) (w : World) (hn : n ≤ 9223372036854775807) (h0 : 0 ≤ left) (h1 : left ≤ 1048576) :
    Calls Tryz.prog 4 #[.agg #[.slice A n c, .int .i64 r], .int .i64 left] w fun e w' => e = .returned (.int .i64 (if left - n < 0 then -1 else left - n)) ∧ Below w.heap.size w w' := by
  by_cases h : left - n < 0
  all_goals
    go_enter Tryz.func4, Tryz.ntmps4
    go_wp2_with (go_at_call 17; refine (szIntS_any _ _ _ _ _ hn h0 h1).mono ?_; rintro e w1 ⟨rfl, rfl⟩)
    go_ret
    exact ⟨ret_int (by simp [*]), (Below.refl _ _).alloc (Nat.le_refl _) _⟩

set_option maxRecDepth 100000 in
set_option maxHeartbeats 1000000 in
theorem toIns_any (A : Option Addr) (l : List Int) (c : Nat) (r : Int) (w : World) (hn : l.length ≤ 1048576) (hA : RI w A l) :
    Calls Tryz.prog 7 #[.agg #[.slice A l.length c, .int .i64 r]] w fun e w' => ∃ g, w.heap.size ≤ g ∧ e = .returned (.agg #[.slice (some ⟨g, 0, none⟩) l.length l.length, .int .i64 r]) ∧
      OwnI w' w.heap.size 3 (.slice (some ⟨g, 0, none⟩) l.length l.length) l ∧ Below w.heap.size w w' := by
  have hb3 : Below w.heap.size w (((w.alloc (.cells #[.slice A l.length c, .int .i64 r] 24)).alloc (.cells #[.slice none 0 0, .int .i64 0] 31)).alloc (.cells #[.slice none 0 0, .int .i64 0] 31)) := (((Below.refl _ _).alloc (Nat.le_refl _) _).alloc (by simp) _).alloc (by simp; omega) _
  have a1 : (((w.alloc (.cells #[.slice A l.length c, .int .i64 r] 24)).alloc (.cells #[.slice none 0 0, .int .i64 0] 31)).alloc (.cells #[.slice none 0 0, .int .i64 0] 31)).cell? ⟨w.heap.size, 1, none⟩ = some (.int .i64 r) := by go_simp
  have d0 : (((w.alloc (.cells #[.slice A l.length c, .int .i64 r] 24)).alloc (.cells #[.slice none 0 0, .int .i64 0] 31)).alloc (.cells #[.slice none 0 0, .int .i64 0] 31)).cell? ⟨w.heap.size + 1, 0, none⟩ = some (.slice none 0 0) := by go_simp
  have d1 : (((w.alloc (.cells #[.slice A l.length c, .int .i64 r] 24)).alloc (.cells #[.slice none 0 0, .int .i64 0] 31)).alloc (.cells #[.slice none 0 0, .int .i64 0] 31)).cell? ⟨w.heap.size + 1, 1, none⟩ = some (.int .i64 0) := by go_simp
  have e0 : (((w.alloc (.cells #[.slice A l.length c, .int .i64 r] 24)).alloc (.cells #[.slice none 0 0, .int .i64 0] 31)).alloc (.cells #[.slice none 0 0, .int .i64 0] 31)).cell? ⟨w.heap.size + 1 + 1, 0, none⟩ = some (.slice none 0 0) := by go_simp
  have e1 : (((w.alloc (.cells #[.slice A l.length c, .int .i64 r] 24)).alloc (.cells #[.slice none 0 0, .int .i64 0] 31)).alloc (.cells #[.slice none 0 0, .int .i64 0] 31)).cell? ⟨w.heap.size + 1 + 1, 1, none⟩ = some (.int .i64 0) := by go_simp
  have fd0 : (((w.alloc (.cells #[.slice A l.length c, .int .i64 r] 24)).alloc (.cells #[.slice none 0 0, .int .i64 0] 31)).alloc (.cells #[.slice none 0 0, .int .i64 0] 31)).frozen? ⟨w.heap.size + 1, 0, none⟩ = false := by go_simp
  have fd1 : (((w.alloc (.cells #[.slice A l.length c, .int .i64 r] 24)).alloc (.cells #[.slice none 0 0, .int .i64 0] 31)).alloc (.cells #[.slice none 0 0, .int .i64 0] 31)).frozen? ⟨w.heap.size + 1, 1, none⟩ = false := by go_simp
  have fe0 : (((w.alloc (.cells #[.slice A l.length c, .int .i64 r] 24)).alloc (.cells #[.slice none 0 0, .int .i64 0] 31)).alloc (.cells #[.slice none 0 0, .int .i64 0] 31)).frozen? ⟨w.heap.size + 1 + 1, 0, none⟩ = false := by go_simp
  have fe1 : (((w.alloc (.cells #[.slice A l.length c, .int .i64 r] 24)).alloc (.cells #[.slice none 0 0, .int .i64 0] 31)).alloc (.cells #[.slice none 0 0, .int .i64 0] 31)).frozen? ⟨w.heap.size + 1 + 1, 1, none⟩ = false := by go_simp
  have hz : (((w.alloc (.cells #[.slice A l.length c, .int .i64 r] 24)).alloc (.cells #[.slice none 0 0, .int .i64 0] 31)).alloc (.cells #[.slice none 0 0, .int .i64 0] 31)).heap.size = w.heap.size + 1 + 1 + 1 := by simp
  go_enter Tryz.func7, Tryz.ntmps7
  go_wp2_with fail
  have hA3 := hA.below hb3
  generalize (((w.alloc (.cells #[.slice A l.length c, .int .i64 r] 24)).alloc (.cells #[.slice none 0 0, .int .i64 0] 31)).alloc (.cells #[.slice none 0 0, .int .i64 0] 31)) = W at *
  refine (toIntS_any _ _ _ _ hn hA3).mono ?_
  rintro e w1 ⟨rfl, ho1, hb1⟩
  rw [hz] at ho1
  have h0 : w.heap.size < W.heap.size := by omega
  have h1 : w.heap.size + 1 < W.heap.size := by omega
  have h2 : w.heap.size + 1 + 1 < W.heap.size := by omega
  have a1 := (hb1.cell (p := ⟨w.heap.size, 1, none⟩) h0).trans a1
  have d0 := (hb1.cell (p := ⟨w.heap.size + 1, 0, none⟩) h1).trans d0
  have d1 := (hb1.cell (p := ⟨w.heap.size + 1, 1, none⟩) h1).trans d1
  have e0 := (hb1.cell (p := ⟨w.heap.size + 1 + 1, 0, none⟩) h2).trans e0
  have e1 := (hb1.cell (p := ⟨w.heap.size + 1 + 1, 1, none⟩) h2).trans e1
  have fd0 := (hb1.frozen (p := ⟨w.heap.size + 1, 0, none⟩) h1).trans fd0
  have fd1 := (hb1.frozen (p := ⟨w.heap.size + 1, 1, none⟩) h1).trans fd1
  have fe0 := (hb1.frozen (p := ⟨w.heap.size + 1 + 1, 0, none⟩) h2).trans fe0
  have fe1 := (hb1.frozen (p := ⟨w.heap.size + 1 + 1, 1, none⟩) h2).trans fe1
  have hB := hb3.trans (hb1.mono hb3.size)
  rw [hz]
  have HO := Lib.hid ho1
  have HB := Lib.hid hB
  have HZ := Lib.hid hz
  clear ho1 hb1 hA3 hA hb3 hz h0 h1 h2 hB
  go_wp2
  have n1 : w.heap.size + 1 + 1 + 1 ≠ w.heap.size + 1 + 1 := by omega
  have n2 : w.heap.size + 1 + 1 + 1 ≠ w.heap.size + 1 := by omega
  have n3 : w.heap.size + 1 + 1 ≠ w.heap.size := by omega
  have n4 : w.heap.size + 1 ≠ w.heap.size := by omega
  refine bodyPost_ret (v := .agg #[.slice (some ⟨w.heap.size + 1 + 1 + 1, 0, none⟩) l.length l.length, .int .i64 r]) (by simp [results, Tryz.results7, go_sem, *]) rfl ⟨w.heap.size + 1 + 1 + 1, by omega, rfl, ?_, ?_⟩
  · refine OwnI.mono ?_ (show w.heap.size ≤ w.heap.size + 1 + 1 + 1 by omega)
    exact (((HO.out.grown (Lib.grownBy_setCell _ _ _ _) (.inr (by simp [Value.ownBlock] <;> omega))).grown (Lib.grownBy_setCell _ _ _ _) (.inr (by simp [Value.ownBlock] <;> omega))).grown (Lib.grownBy_setCell _ _ _ _) (.inr (by simp [Value.ownBlock] <;> omega))).grown (Lib.grownBy_setCell _ _ _ _) (.inr (by simp [Value.ownBlock] <;> omega))
  · have m1 : w.heap.size ≤ w.heap.size + 1 + 1 := by omega
    have m2 : w.heap.size ≤ w.heap.size + 1 := by omega
    exact (((HB.out.setCell m1 _).setCell m1 _).setCell m2 _).setCell m2 _

set_option maxRecDepth 100000 in
set_option maxHeartbeats 1000000 in
theorem eqIns_any (A B : Option Addr) (l m : List Int) (c d : Nat) (r s : Int) (w : World) (hl : l.length ≤ 9223372036854775807) (hm : m.length ≤ 9223372036854775807) (hA : RI w A l) (hB : RI w B m) :
    Calls Tryz.prog 11 #[.agg #[.slice A l.length c, .int .i64 r], .agg #[.slice B m.length d, .int .i64 s]] w fun e w' => e = .returned (.bool (decide (l = m) && decide (r = s))) ∧ Below w.heap.size w w' := by
  have hb2 : Below w.heap.size w ((w.alloc (.cells #[.slice A l.length c, .int .i64 r] 31)).alloc (.cells #[.slice B m.length d, .int .i64 s] 31)) := ((Below.refl _ _).alloc (Nat.le_refl _) _).alloc (by simp) _
  have a1 : ((w.alloc (.cells #[.slice A l.length c, .int .i64 r] 31)).alloc (.cells #[.slice B m.length d, .int .i64 s] 31)).cell? ⟨w.heap.size, 1, none⟩ = some (.int .i64 r) := by
    rw [World.cell?_alloc_old _ _ _ (by simp), World.cell?_alloc_new]; rfl
  have b1 : ((w.alloc (.cells #[.slice A l.length c, .int .i64 r] 31)).alloc (.cells #[.slice B m.length d, .int .i64 s] 31)).cell? ⟨w.heap.size + 1, 1, none⟩ = some (.int .i64 s) := by
    go_simp
  have hA2 := hA.below hb2
  have hB2 := hB.below hb2
  have hz : w.heap.size + 1 < ((w.alloc (.cells #[.slice A l.length c, .int .i64 r] 31)).alloc (.cells #[.slice B m.length d, .int .i64 s] 31)).heap.size := by simp
  go_enter Tryz.func11, Tryz.ntmps11
  go_wp2_with fail
  generalize ((w.alloc (.cells #[.slice A l.length c, .int .i64 r] 31)).alloc (.cells #[.slice B m.length d, .int .i64 s] 31)) = W at *
  refine (eqIntS_any _ _ _ _ _ _ _ hl hm hA2 hB2).mono ?_
  rintro e w1 ⟨rfl, hb1⟩
  have a2 := (hb1.cell (p := ⟨w.heap.size, 1, none⟩) (by show w.heap.size < _; omega)).trans a1
  have b2 := (hb1.cell (p := ⟨w.heap.size + 1, 1, none⟩) hz).trans b1
  have hB := hb2.trans (hb1.mono hb2.size)
  clear a1 b1 hA2 hA hb1 hb2
  cases hd : decide (l = m) with
  | false =>
    go_wp2
    go_ret
    exact ⟨ret_bool (by simp [of_decide_eq_false hd]), hB⟩
  | true =>
    by_cases hrs : r = s
    · subst hrs
      go_wp2
      go_ret
      exact ⟨ret_bool (by simp), hB⟩
    · have hne : (r != s) = true := by simp [hrs]
      go_wp2
      go_ret
      exact ⟨ret_bool (by simp [hrs]), hB⟩
end Go.Proofs.YtkfgmkgbicahgaaGreatDoor

namespace Go.Proofs.YtkfgmkgbicahgaaGreatDoor
open Go.RowKit Go.Sort
set_option linter.unusedVariables false

def zero97 : Array Value := Array.mk (List.replicate 97 (.int .i64 0))
theorem zero97_size : zero97.size = 97 := by kernel_rfl
theorem zero97_ne : zero97 ≠ #[] := fun h => by have := congrArg Array.size h; rw [zero97_size] at this; simp at this
theorem zeroV97 (w : World) : (zeroValue 100).run Tryz.prog w = .ok (.agg zero97) w := by kernel_rfl
theorem zeros97 : zero97.toList = List.replicate 97 (.int .i64 0) := rfl
/-- The array of ends: for each pitch the end of its last note among the first k ones. -/
def Ends (w : World) (g : Nat) (l : List Nt) (k : Nat) : Prop := w.rowIs g 100 97 (fun j => .int .i64 (endsF (j : Int) (l.take k) 0))
theorem Ends.zero (w : World) (l : List Nt) : Ends (w.alloc (.cells zero97 100)) w.heap.size l 0 := by
  have hs : zero97.size = 97 := by rw [← Array.length_toList, zeros97]; rfl
  have h := World.rowIs_alloc w zero97 100 (fun j => .int .i64 (endsF (j : Int) (l.take 0) 0)) (fun i hi => by
    rw [← Array.getElem?_toList, zeros97, List.getElem?_replicate, if_pos (by omega)]; rfl)
  rw [hs] at h
  exact h
theorem Ends.below {w w' : World} {g : Nat} {l : List Nt} {k : Nat} (h : Ends w g l k) (hb : Below w.heap.size w w') : Ends w' g l k := World.rowIs.of_block h (hb.block g h.lt)
theorem Ends.step {w : World} {g : Nat} {l : List Nt} {k : Nat} {p s n : Int} (h : Ends w g l k) (hx : l[k]? = some (p, s, n)) (hp : 0 ≤ p) : Ends (w.setCell ⟨g, p.toNat, none⟩ (.int .i64 (s + n))) g l (k + 1) := by
  refine (World.rowIs.set h p.toNat (.int .i64 (s + n))).congr fun i hi => ?_
  rw [endsF_take _ _ _ _ hx]
  by_cases hip : i = p.toNat
  · subst hip
    rw [if_pos rfl, if_pos (by simp only; omega)]
  · rw [if_neg hip, if_neg (by simp only; omega)]

set_option maxRecDepth 100000 in
set_option maxHeartbeats 2000000 in
theorem isScore_any (A : Option Addr) (l : List Nt) (c : Nat) (w : World) (hn : l.length ≤ 1048576) (hA : RA w A l) :
    Calls Tryz.prog 61 #[.slice A l.length c] w fun e w' => e = .returned (.bool (goodB l)) ∧ Below w.heap.size w w' := by
  by_cases h30 : l.length ≤ 30
  · go_enter Tryz.func61, Tryz.ntmps61
    have hq : ¬ (30 < (l.length : Int)) := by omega
    have hzv := zeroV97
    have hzn := zero97_ne
    go_wp2_with fail
    clear hzv hzn
    have hE0 := Ends.zero w l
    have hb0 : Below w.heap.size w (w.alloc (.cells zero97 100)) := (Below.refl _ _).alloc (Nat.le_refl _) _
    generalize w.alloc (.cells zero97 100) = W0 at *
    go_loopw [11] (fun i wr => ∃ k : Nat, k ≤ l.length ∧ i = .int .i64 k ∧ GoodTo l k ∧ Ends wr w.heap.size l k ∧ Below w.heap.size w wr)
      (fun i _ => l.length - (intOf i).toNat)
    case atStart => exact ⟨0, Nat.zero_le _, rfl, GoodTo.zero l, hE0, hb0⟩
    case round =>
      obtain ⟨k, hk, rfl, hgood, hE, hb⟩ := hrel
      have HG := Lib.hid hgood
      clear hgood
      by_cases hlt : k < l.length
      · have hx : l[k]? = some l[k] := List.getElem?_eq_getElem hlt
        generalize l[k] = x at hx
        obtain ⟨p, s, n⟩ := x
        obtain ⟨g, o, rfl, hg, h0, h1, h2⟩ := (hA.below hb) k _ hx
        simp only at h0 h1 h2
        have HX := Lib.hid hx
        have i1 : (0 : Int) ≤ (k : Int) := by omega
        have i2 : (k : Int) < (l.length : Int) := by omega
        clear hx
        go_wp2_with fail
        have hRA : RA (wr.alloc (.cells #[.int .i64 p, .int .i64 s, .int .i64 n] 47)) (some ⟨g, o, none⟩) l := (hA.below hb).alloc _
        have hxc : ∀ j, (wr.alloc (.cells #[.int .i64 p, .int .i64 s, .int .i64 n] 47)).cell? ⟨wr.heap.size, j, none⟩ = #[Value.int .i64 p, .int .i64 s, .int .i64 n][j]? := fun j => World.cell?_alloc_new wr _ _ j
        have hbW : Below w.heap.size w (wr.alloc (.cells #[.int .i64 p, .int .i64 s, .int .i64 n] 47)) := hb.alloc hb.size _
        have hzW : wr.heap.size < (wr.alloc (.cells #[.int .i64 p, .int .i64 s, .int .i64 n] 47)).heap.size := by simp
        have hEW : Ends (wr.alloc (.cells #[.int .i64 p, .int .i64 s, .int .i64 n] 47)) w.heap.size l k := World.rowIs.alloc hE _
        generalize wr.alloc (.cells #[.int .i64 p, .int .i64 s, .int .i64 n] 47) = W at *
        have hEx : w.heap.size < wr.heap.size := World.rowIs.lt hE
        generalize wr.heap.size = xb at *
        have x0 := cell_regrown ((hxc 0).trans rfl)
        have x1 := cell_regrown ((hxc 1).trans rfl)
        have x2 := cell_regrown ((hxc 2).trans rfl)
        have cN : ∀ d os, Calls Tryz.prog 51 #[.agg #[.int .i64 p, .int .i64 s, .int .i64 n]] (grow (redrawn W d) os) fun e w'' => e = .returned (.bool (noteB p s n)) ∧ ∃ q : Regrown, w'' = grow (redrawn W q.d) q.os :=
          fun d os => Calls.regrown_of (implIsNote_any p s n _)
        clear h0 h1 h2
        cases hv : noteB p s n with
        | false =>
          refine wp_region_quiet_below (by kernel_rfl) (by kernel_rfl) ?_
          repeat (go_big_quiet_step (exact (cN _ _)))
          refine wpQuiet_nil ?_
          intro _ hw'
          obtain ⟨q, hw''⟩ := hw'
          subst hw''
          go_wp2
          go_ret
          refine ⟨ret_bool (goodB_false (Good.not_of HX.out fun h => ?_)).symm, hbW.trans ((below_regrown W q.d q.os).mono hbW.size)⟩
          have := h.1
          simp [noteN, hv] at this
        | true =>
          have hv' := (noteN_iff (p, s, n)).1 hv
          simp only at hv'
          have hp1 : (0 : Int) ≤ p := by omega
          have hp2 : p < 97 := by omega
          have e0 := hEW.cell (i := p.toNat) (by omega)
          have hpp : ((p.toNat : Nat) : Int) = p := by omega
          rw [hpp] at e0
          have e0 := cell_regrown e0
          by_cases hse : s < endsF p (l.take k) 0
          · generalize hEE : endsF p (l.take k) 0 = E at *
            have HEE := Lib.hid hEE
            have HPP := Lib.hid hpp
            clear hEE hpp
            refine wp_region_quiet_below (by kernel_rfl) (by kernel_rfl) ?_
            repeat (go_big_quiet_step (exact (cN _ _)))
            refine wpQuiet_nil ?_
            intro _ hw'
            obtain ⟨q, hw''⟩ := hw'
            subst hw''
            go_wp2
            go_ret
            refine ⟨ret_bool (goodB_false (Good.not_of HX.out fun h => ?_)).symm, hbW.trans ((below_regrown W q.d q.os).mono hbW.size)⟩
            have := (okAt_iff HG.out (by omega) h.1 h.2.1).1 h
            rw [HEE.out] at this
            exact this hse
          · have HSE := Lib.hid hse
            generalize hEE : endsF p (l.take k) 0 = E at *
            have HEE := Lib.hid hEE
            have HPP := Lib.hid hpp
            clear hEE hpp
            refine wp_region_quiet_below (by kernel_rfl) (by kernel_rfl) ?_
            repeat (go_big_quiet_step (exact (cN _ _)))
            refine wpQuiet_nil ?_
            intro _ hw'
            obtain ⟨q, hw''⟩ := hw'
            subst hw''
            go_wp2_with fail
            have hbU := hbW.trans ((below_regrown W q.d q.os).mono hbW.size)
            have hxU := fun j => ((below_regrown W q.d q.os).cell (p := ⟨xb, j, none⟩) hzW).trans (hxc j)
            have hRU := hRA.below (below_regrown W q.d q.os)
            have heU := hEW.below (below_regrown W q.d q.os)
            have hzU : xb < (grow (redrawn W q.d) q.os).heap.size := Nat.lt_of_lt_of_le hzW (below_regrown W q.d q.os).size
            generalize grow (redrawn W q.d) q.os = U at *
            have hxU0 := cell_regrown ((hxU 0).trans rfl)
            have hxU1 := cell_regrown ((hxU 1).trans rfl)
            have hxU2 := cell_regrown ((hxU 2).trans rfl)
            clear x0 x1 x2 cN e0
            rcases Nat.eq_zero_or_pos k with hk0 | hk0
            · have hd : decide (0 < k) = false := by simp [hk0]
              have HBEF := Lib.hid (show ∀ y, 0 < k → l[k - 1]? = some y → befN y (p, s, n) = true from fun y h => absurd h (by omega))
              clear hk0
              refine wp_region_quiet_below (by kernel_rfl) (by kernel_rfl) ?_
              repeat (go_big_quiet_step (fail))
              refine wpQuiet_nil ?_
              intro _ hw'
              obtain ⟨q2, hw''⟩ := hw'
              subst hw''
              go_wp2_with fail
              have hbV := hbU.trans ((below_regrown U q2.d q2.os).mono hbU.size)
              have hxV := fun j => ((below_regrown U q2.d q2.os).cell (p := ⟨xb, j, none⟩) hzU).trans (hxU j)
              have heV := heU.below (below_regrown U q2.d q2.os)
              have hzV : xb < (grow (redrawn U q2.d) q2.os).heap.size := Nat.lt_of_lt_of_le hzU (below_regrown U q2.d q2.os).size
              generalize grow (redrawn U q2.d) q2.os = V at *
              have ux0 := (hxV 0).trans rfl
              have ux1 := (hxV 1).trans rfl
              have ux2 := (hxV 2).trans rfl
              simp only [List.getElem?_toArray] at ux0 ux1 ux2
              have ue := heV.cell (i := p.toNat) (by omega)
              have uf := heV.frozen p.toNat
              have hzE : w.heap.size < V.heap.size := heV.lt
              clear hxU hxV hxc hRA hRU hxU0 hxU1 hxU2
              have hne1 : ¬ (xb = w.heap.size) := by omega
              have hne2 : ¬ (w.heap.size = xb) := by omega
              go_region_held3 (fun w' => w'.cell? ⟨xb, 0, none⟩ = some (.int .i64 p) ∧ w'.cell? ⟨xb, 1, none⟩ = some (.int .i64 s) ∧ w'.cell? ⟨xb, 2, none⟩ = some (.int .i64 n))
                (first | go_keep | (go_split_ands; refine ⟨?_, ?_, ?_⟩ <;> (refine ((bcell hb1).1 _ _ ?_).trans ?_) <;> first | assumption | simpa using hzV))
                (first | (go_at_call 52; refine (endOfNote_any _ _ _ _ (by omega) (by omega) (by omega) (by omega)).mono ?_; rintro e w1 ⟨rfl, hb1⟩; have ue1 := ((bcell hb1).1 _ p.toNat (by simpa using hzE)).trans ue; have uf1 := ((bcell hb1).2 _ p.toNat (by simpa using hzE)).trans uf))
              go_wp2
              go_roundw
              case rel =>
                have hok : okAt l k (p, s, n) := (okAt_iff (x := (p, s, n)) HG.out (by omega) (show noteN (p, s, n) = true from hv) HBEF.out).2 (by rw [HEE.out]; have := HSE.out; simp only; omega)
                have he1 : Ends w1 w.heap.size l k := Ends.below (w := V.drew) heV hb1
                exact ⟨k + 1, by omega, by go_num, HG.out.succ HX.out hok, he1.step HX.out hp1, ((hbV.drew).trans (hb1.mono hbV.size)).setCell (Nat.le_refl _) _⟩
              case measure => simp [intOf]; omega
            · have hd : (0 : Int) < (k : Int) := by omega
              have hy : l[k - 1]? = some l[k - 1] := List.getElem?_eq_getElem (by omega)
              generalize l[k - 1] = y at hy
              obtain ⟨p', s', n'⟩ := y
              obtain ⟨g2, o2, hgo, hg2, y0, y1, y2⟩ := hRU (k - 1) _ hy
              simp only [Option.some.injEq, Addr.mk.injEq, and_true] at hgo
              obtain ⟨rfl, rfl⟩ := hgo
              simp only at y0 y1 y2
              have y0 := cell_regrown y0
              have y1 := cell_regrown y1
              have y2 := cell_regrown y2
              have HY := Lib.hid hy
              have i3 : (0 : Int) ≤ (k : Int) - 1 := by omega
              have i4 : (k : Int) - 1 < (l.length : Int) := by omega
              have cB : ∀ d os, Calls Tryz.prog 73 #[.agg #[.int .i64 p', .int .i64 s', .int .i64 n'], .agg #[.int .i64 p, .int .i64 s, .int .i64 n]] (grow (redrawn U d) os) fun e w'' => e = .returned (.int .i64 (cmpN p' s' p s)) ∧ ∃ q : Regrown, w'' = grow (redrawn U q.d) q.os :=
                fun d os => Calls.regrown_of (compareNotes_any p' s' n' p s n _)
              have hcb := cmpN_bef (p', s', n') (p, s, n)
              simp only at hcb
              clear hy
              generalize cmpN p' s' p s = cz at *
              have HCB := Lib.hid hcb
              clear hcb
              by_cases hcz : cz < 0
              · have HBEF := Lib.hid (show ∀ y, 0 < k → l[k - 1]? = some y → befN y (p, s, n) = true from fun y _ hy => by have e := HY.out.symm.trans hy; injection e with e; subst e; exact HCB.out.1 hcz)
                refine wp_region_quiet_below (by kernel_rfl) (by kernel_rfl) ?_
                repeat (go_big_quiet_step (exact (cB _ _)))
                refine wpQuiet_nil ?_
                intro _ hw'
                obtain ⟨q2, hw''⟩ := hw'
                subst hw''
                go_wp2_with fail
                have hbV := hbU.trans ((below_regrown U q2.d q2.os).mono hbU.size)
                have hxV := fun j => ((below_regrown U q2.d q2.os).cell (p := ⟨xb, j, none⟩) hzU).trans (hxU j)
                have heV := heU.below (below_regrown U q2.d q2.os)
                have hzV : xb < (grow (redrawn U q2.d) q2.os).heap.size := Nat.lt_of_lt_of_le hzU (below_regrown U q2.d q2.os).size
                generalize grow (redrawn U q2.d) q2.os = V at *
                have ux0 := (hxV 0).trans rfl
                have ux1 := (hxV 1).trans rfl
                have ux2 := (hxV 2).trans rfl
                simp only [List.getElem?_toArray] at ux0 ux1 ux2
                have ue := heV.cell (i := p.toNat) (by omega)
                have uf := heV.frozen p.toNat
                have hzE : w.heap.size < V.heap.size := heV.lt
                clear hxU hxV hxc hRA hRU hxU0 hxU1 hxU2
                have hne1 : ¬ (xb = w.heap.size) := by omega
                have hne2 : ¬ (w.heap.size = xb) := by omega
                go_region_held3 (fun w' => w'.cell? ⟨xb, 0, none⟩ = some (.int .i64 p) ∧ w'.cell? ⟨xb, 1, none⟩ = some (.int .i64 s) ∧ w'.cell? ⟨xb, 2, none⟩ = some (.int .i64 n))
                  (first | go_keep | (go_split_ands; refine ⟨?_, ?_, ?_⟩ <;> (refine ((bcell hb1).1 _ _ ?_).trans ?_) <;> first | assumption | simpa using hzV))
                  (first | (go_at_call 52; refine (endOfNote_any _ _ _ _ (by omega) (by omega) (by omega) (by omega)).mono ?_; rintro e w1 ⟨rfl, hb1⟩; have ue1 := ((bcell hb1).1 _ p.toNat (by simpa using hzE)).trans ue; have uf1 := ((bcell hb1).2 _ p.toNat (by simpa using hzE)).trans uf))
                go_wp2
                go_roundw
                case rel =>
                  have hok : okAt l k (p, s, n) := (okAt_iff (x := (p, s, n)) HG.out (by omega) (show noteN (p, s, n) = true from hv) HBEF.out).2 (by rw [HEE.out]; have := HSE.out; simp only; omega)
                  have he1 : Ends w1 w.heap.size l k := Ends.below (w := V.drew) heV hb1
                  exact ⟨k + 1, by omega, by go_num, HG.out.succ HX.out hok, he1.step HX.out hp1, ((hbV.drew).trans (hb1.mono hbV.size)).setCell (Nat.le_refl _) _⟩
                case measure => simp [intOf]; omega
              · have hcz : 0 ≤ cz := by omega
                refine wp_region_quiet_below (by kernel_rfl) (by kernel_rfl) ?_
                repeat (go_big_quiet_step (exact (cB _ _)))
                refine wpQuiet_nil ?_
                intro _ hw'
                obtain ⟨q2, hw''⟩ := hw'
                subst hw''
                go_wp2
                go_ret
                refine ⟨ret_bool (goodB_false (Good.not_of HX.out fun h => ?_)).symm, hbU.trans ((below_regrown U q2.d q2.os).mono hbU.size)⟩
                have := HCB.out.2 (h.2.1 _ hk0 HY.out)
                omega
      · obtain rfl : k = l.length := by omega
        go_wp2
        go_ret
        exact ⟨ret_bool ((goodB_iff l).2 ⟨HG.out, h30⟩).symm, hb⟩
  · go_enter Tryz.func61, Tryz.ntmps61
    have hq : 30 < (l.length : Int) := by omega
    go_wp2
    go_ret
    exact ⟨ret_bool (goodB_false fun h => h30 h.2).symm, Below.refl _ _⟩
end Go.Proofs.YtkfgmkgbicahgaaGreatDoor
