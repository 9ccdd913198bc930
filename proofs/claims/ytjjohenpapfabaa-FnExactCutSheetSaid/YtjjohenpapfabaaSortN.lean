/- slices.SortFunc at notes with the program's order: the row holds the notes in order. -/
import Derived.Test.YtjjohenpapfabaaSrtP
import Derived.Test.YtjjohenpapfabaaCmp
import Derived.Test.YtjjohenpapfabaaRet
import Derived.Test.YtjjohenpapfabaaSortF
import Derived.Sort.OwnSortedInts
import Derived.Laws.CopyRow
namespace Go.Proofs.Ytjjohenpapfabaa
open Go.RowKit Go.Sort Go.Shelf Go.Lib
set_option linter.unusedVariables false
set_option linter.unusedSimpArgs false

def cfN (x y : Nt) : Int := cmpN x.1 x.2.1 y.1 y.2.1
theorem cmpZ_neg (x y : Int) : cmpZ x y < 0 ↔ x < y := by unfold cmpZ; by_cases h1 : x < y <;> by_cases h2 : y < x <;> simp [h1, h2] <;> omega
theorem cmpZ_zero (x y : Int) : cmpZ x y = 0 ↔ x = y := by unfold cmpZ; by_cases h1 : x < y <;> by_cases h2 : y < x <;> simp [h1, h2] <;> omega
theorem ltN (x y : Nt) : ltOf cfN x y = befN x y := by
  rw [Bool.eq_iff_iff, befN_iff]
  simp only [ltOf, cfN, cmpN, orZ, decide_eq_true_eq]
  split
  · rename_i h
    rw [cmpZ_zero] at h
    rw [decide_eq_true_eq, cmpZ_neg]
    omega
  · rename_i h
    rw [cmpZ_zero] at h
    rw [decide_eq_true_eq, cmpZ_neg]
    omega
theorem swoN : SWO (ltOf cfN) where
  irrefl x := by rw [ltN]; exact befN_irr x
  trans x y z h1 h2 := by rw [ltN] at *; exact befN_trans h1 h2
  ntrans x y z h1 h2 := by rw [ltN] at *; exact befN_ntrans h1 h2

set_option maxRecDepth 100000 in
set_option maxHeartbeats 1000000 in
theorem cmpNotes_grow (p s n p' s' n' : Int) (w : World) :
    Calls Try.prog 65 #[.agg #[.int .i64 p, .int .i64 s, .int .i64 n], .agg #[.int .i64 p', .int .i64 s', .int .i64 n']] w
      fun e w' => e = .returned (.int .i64 (cmpN p s p' s')) ∧ ∃ q os', w' = grow (w.drewN q) os' := by
  go_enter Try.func65, Try.ntmps65
  go_wp2_with fail
  refine wp_region_still_tail 10 (by kernel_rfl) (by kernel_rfl) ?_
  change wpStill _ _ (World.drew _) (fun a' => wpList _ _ _ _ a' (World.drew _)) _ _
  simp only [List.take_succ_cons, List.take_zero, List.drop_succ_cons, List.drop_zero]
  repeat still_step
  still_call (cmpCompare_same _ _ _)
  repeat still_step
  still_call (cmpCompare_same _ _ _)
  repeat still_step
  try refine wpStill_nil ?_
  go_wp2_with (go_at_call 85; refine (cmpOr_any _ (cmpZ s s') (cmpZ p p') _ (by go_simp) (by go_simp)).mono ?_; rintro e w1 ⟨rfl, rfl⟩)
  go_ret
  exact ⟨rfl, 1, _, by simp only [alloc_eq_grow, grow_grow, drew_grow]; rfl⟩

theorem cmpLaysN (blk off size : Nat) (w : World) : CmpLays Try.prog 65 #[] nc 3 cfN blk off size w :=
  fun _ _ _ _ x y => cmpNotes_grow x.1 x.2.1 x.2.2 y.1 y.2.1 y.2.2 _

theorem flat_cl (l : List Nt) : flatK nc 3 l.toArray = (cl l).toArray := by
  apply Array.ext
  · simp [cl_length]
  · intro t h1 h2
    simp only [size_flatK, List.size_toArray] at h1
    have e1 : (flatK nc 3 l.toArray)[t] = (flatK nc 3 l.toArray)[t]! := by rw [getElem!_pos]
    rw [e1, get_flatK _ _ _ _ (by simpa using h1)]
    have hx : l[t / 3]? = some (l[t / 3]'(by omega)) := List.getElem?_eq_getElem _
    have hx2 : l.toArray[t / 3]! = l[t / 3]'(by omega) := by rw [getElem!_pos _ _ (by simp; omega)]; simp
    rw [hx2]
    generalize l[t / 3]'(by omega) = x at hx
    obtain ⟨c0, c1, c2⟩ := cl_get l _ x hx
    have hr : t % 3 = 0 ∨ t % 3 = 1 ∨ t % 3 = 2 := by omega
    have hg : ∀ u, (cl l)[t]? = some u → (cl l).toArray[t] = u := by
      intro u hu
      have := (List.getElem?_eq_some_iff.1 hu).2
      simpa using this
    rcases hr with hr | hr | hr
    · rw [show t / 3 * 3 = t from by omega] at c0
      rw [hg _ c0, hr]; rfl
    · rw [show t / 3 * 3 + 1 = t from by omega] at c1
      rw [hg _ c1, hr]; rfl
    · rw [show t / 3 * 3 + 2 = t from by omega] at c2
      rw [hg _ c2, hr]; rfl

theorem holdsV {w : World} {g : Nat} {cur : Array Value} {e : TypeId} {cs : List Value} (hb : w.heap[g]? = some (.cells cur e (0, 0))) (ht : cur.toList.take cs.length = cs) : Holds id w g 0 cs.toArray := by
  intro j hj
  have hj' : j < cs.length := by simpa using hj
  refine ⟨?_, by simp [World.frozen?, hb]⟩
  have h1 : (cur.toList.take cs.length)[j]? = cs[j]? := by rw [ht]
  rw [List.getElem?_take_of_lt hj'] at h1
  simp only [World.cell?, hb, Nat.zero_add]
  simp only [Option.isSome_none, Bool.false_eq_true, if_false]
  rw [← Array.getElem?_toList, h1]
  simp [hj']
theorem heapV {w : World} {g n : Nat} {os : Array Obj} {cur : Array Value} {e : TypeId} {fr : Nat × Nat} (d : Array Value) (hb : w.heap[g]? = some (.cells cur e fr)) :
    (grow (putRow id (Sort.ahead w n) g 0 d) os).heap[g]? = some (.cells (putCells id 0 d cur) e fr) := by
  have hg : g < w.heap.size := (Array.getElem?_eq_some_iff.1 hb).1
  rw [heap_grow_old _ _ (by simpa using hg)]
  simp [putRow, mapBlock, Sort.ahead, Array.getElem?_modify, hb, onCells]
theorem grownV {w : World} {g n : Nat} {os : Array Obj} (d : Array Value) : w.grownBy (grow (putRow id (Sort.ahead w n) g 0 d) os) (some g) := by
  refine ⟨rfl, rfl, rfl, by simp, fun k hk hne => ?_⟩
  rw [heap_grow_old _ _ (by simpa using hk)]
  have : g ≠ k := fun e => hne (by rw [e])
  simp [putRow, mapBlock, Sort.ahead, Array.getElem?_modify, this]
theorem takeV (cur : Array Value) (ts : List Value) (h : ts.length ≤ cur.size) : (putCells id 0 ts.toArray cur).toList.take ts.length = ts := by
  apply List.ext_getElem?
  intro j
  by_cases hj : j < ts.length
  · rw [List.getElem?_take_of_lt hj, Array.getElem?_toList]
    simp [putCells, hj, show j < cur.size by omega]
  · rw [List.getElem?_take_eq_none (by omega), List.getElem?_eq_none (by omega)]

theorem eg43 (args : Array Value) (w : World) : (callFunc 65 args).run Try.prog w = .ok (.enter 65 args) w :=
  enters_of Try.func65 (by kernel_rfl) rfl args w

theorem sortN_any (g cap : Nat) (zs : List Nt) (base : Nat) (w : World) (hl : zs.length ≤ 1000000) (hv : Own w base 34 (.slice (some ⟨g, 0, none⟩) zs.length cap) zs) :
    Calls Try.prog 87 #[.slice (some ⟨g, 0, none⟩) zs.length cap, .func (.func 65) #[] #[]] w
      fun e w' => e = .returned (.tuple #[]) ∧ ∃ ys : List Nt, ys.Perm zs ∧ Srt ys ∧ Own w' base 34 (.slice (some ⟨g, 0, none⟩) zs.length cap) ys ∧ w.grownBy w' (some g) := by
  rcases hv.2 with ⟨hf, _⟩ | ⟨g', cap', cur, hf, hg, hh, hnc, hm, hs, ht⟩
  · cases hf
  injection hf with e1 e2 e3
  injection e1 with e1
  injection e1 with e1
  subst e1 e3
  have ht' : cur.toList.take (cl zs).length = cl zs := by rw [cl_length]; exact ht
  have hH : HoldsK nc 3 w g 0 zs.toArray := by unfold HoldsK; rw [flat_cl]; exact holdsV hh ht'
  have hcon := AnyQ.slices_SortFunc Try.sortNotesF 3 Try.isAgg34 Try.sizeOf34 nc (fun _ => rfl) (fun x v hv => by simp [nc] at hv; rcases hv with rfl | rfl | rfl <;> rfl) cfN swoN 65 #[] g 0 cap zs.toArray w eg43 (cmpLaysN g 0 _ w) hH ((hv.lt _ rfl).2) (by simp; omega)
  change Calls Try.prog 87 _ _ _ at hcon
  rw [List.size_toArray] at hcon
  refine hcon.mono ?_
  rintro e w' ⟨rfl, d', n, os, hp, hsd, rfl⟩
  obtain ⟨hsz, _, hpm⟩ := hp
  simp only [List.size_toArray] at hsz
  have hfull : ∀ a : Array Nt, a.size = zs.length → (a.extract 0 zs.length).toList = a.toList := by
    intro a ha
    rw [← ha]
    simp
  rw [hfull d' hsz, hfull zs.toArray (by simp)] at hpm
  have hdl : d'.toList.length = zs.length := by simpa using hsz
  have hflat : flatK nc 3 d' = (cl d'.toList).toArray := by
    have := flat_cl d'.toList
    simpa using this
  refine ⟨rfl, d'.toList, by simpa using hpm, ?_, ?_, ?_⟩
  · unfold Srt
    rw [List.pairwise_iff_getElem]
    intro i j hi hj hij
    have h := hsd i j (Nat.zero_le _) hij (by omega)
    rw [ltN] at h
    have ei : d'[i]! = d'.toList[i] := by rw [getElem!_pos d' i (by simpa using hi)]; simp
    have ej : d'[j]! = d'.toList[j] := by rw [getElem!_pos d' j (by simpa using hj)]; simp
    rw [← ei, ← ej]
    exact h
  · unfold sortWorldK putRowK
    rw [hflat]
    refine ⟨by rw [hdl, cl_length, hdl], .inr ⟨g, cap, _, by rw [hdl], hg, heapV _ hh, by rw [hdl]; exact hnc, hm, by simp [putCells, hs], ?_⟩⟩
    have h := takeV cur (cl d'.toList) (by rw [cl_length, hdl, hs]; exact Nat.mul_le_mul_right 3 hnc)
    rw [cl_length] at h
    exact h
  · unfold sortWorldK putRowK
    exact grownV _
end Go.Proofs.Ytjjohenpapfabaa
