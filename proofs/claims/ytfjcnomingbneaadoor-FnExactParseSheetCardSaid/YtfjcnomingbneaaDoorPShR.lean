/- Contracts: words and lines read one by one, the program's way. -/
import Derived.Test.YtfjcnomingbneaaDoorPShP
import Derived.Test.YtfjcnomingbneaaDoorPut
import Derived.Test.YtfjcnomingbneaaDoorHoleApp
import Derived.Test.YtfjcnomingbneaaDoorIsScore
import Derived.WalkSmall
namespace Go.Proofs.YtfjcnomingbneaaDoor
open Go.RowKit Go.Sort
set_option linter.unusedVariables false
set_option linter.unusedSimpArgs false

theorem below_dr {B : Nat} {a w : World} (h : RowKit.Below B a w) (n : Nat) : RowKit.Below B a (w.drewN n) := h.trans ⟨rfl, rfl, rfl, Nat.le_refl _, fun _ _ => rfl⟩
/-- What the parsers ask of the world: tables, sentinels, and that bytealg.MaxLen is a number. -/
structure PW (w : World) : Prop where
  tabs : Tabs w
  errs : Errs w
  maxc : ∃ m : Int, w.cell? ⟨1, 0, none⟩ = some (.int .i64 m)
theorem PW.below {w w' : World} (h : PW w) (hb : Below w.heap.size w w') : PW w' := by
  obtain ⟨m, hm⟩ := h.maxc
  exact ⟨h.tabs.below hb, h.errs.below hb, m, (hb.cell (World.block_lt_of_cell? w _ hm)).trans hm⟩

theorem split_any (b : UInt8) (u : List UInt8) (w : World) (hu : u.length ≤ 2000000) (hP : PW w) :
    Calls Tryd.prog 35 #[.string (bs u), .string (bs [b])] w fun e w' => e = .returned (.slice (some ⟨w.heap.size, 0, none⟩) (splitB b u).length (splitB b u).length) ∧ w' = w.alloc (.cells ((splitB b u).map fun x => Value.string (bs x)).toArray 9) := by
  obtain ⟨m, hm⟩ := hP.maxc
  refine (Tryd.strings_Split (bs u) (bs [b]) m w (by rw [bs_size]; omega) hm (by rw [bs_size]; simp)).mono ?_
  rintro e w' ⟨rfl, rfl⟩
  rw [countB_lib, splitB_lib, List.map_map]
  exact ⟨rfl, rfl⟩
/-- The strings that a slice at A reads. -/
def RSs (w : World) (A : Option Addr) (l : List (List UInt8)) : Prop :=
  ∀ (k : Nat) (x : List UInt8), l[k]? = some x → ∃ g o, A = some ⟨g, o, none⟩ ∧ g < w.heap.size ∧ w.cell? ⟨g, o + k, none⟩ = some (.string (bs x))
theorem RSs.below {w w' : World} {A : Option Addr} {l : List (List UInt8)} (h : RSs w A l) (hb : Below w.heap.size w w') : RSs w' A l := by
  intro k x hx
  obtain ⟨g, o, hA, hg, h0⟩ := h k x hx
  exact ⟨g, o, hA, Nat.lt_of_lt_of_le hg hb.size, (hb.cell hg).trans h0⟩
theorem RSs.take {w : World} {A : Option Addr} {l : List (List UInt8)} (h : RSs w A l) (n : Nat) : RSs w A (l.take n) := by
  intro k x hx
  rw [List.getElem?_take] at hx
  split at hx
  · exact h k x hx
  · cases hx
theorem OwnS.form {w : World} {base : Nat} {v : Value} {l : List (List UInt8)} (h : OwnS w base v l) : ∃ A c, v = .slice A l.length c ∧ RSs w A l ∧ l.length ≤ c ∧ c ≤ maxLen ∧ (A = none → c = 0) ∧ (l ≠ [] → ∃ g, A = some ⟨g, 0, none⟩) := by
  rcases h.2 with ⟨rfl, hn⟩ | ⟨g, cap, cur, rfl, hg, hh, hnc, hm, hs, ht⟩
  · refine ⟨none, 0, by rw [hn], ?_, by omega, Nat.zero_le _, fun _ => rfl, fun h => absurd (List.length_eq_zero_iff.1 hn) h⟩
    intro k x hx
    have := (List.getElem?_eq_some_iff.1 hx).1
    omega
  · refine ⟨_, _, rfl, ?_, hnc, hm, fun h => (by cases h), fun _ => ⟨g, rfl⟩⟩
    intro k x hx
    have hk := (List.getElem?_eq_some_iff.1 hx).1
    have hlt : g < w.heap.size := (Array.getElem?_eq_some_iff.1 hh).1
    exact ⟨g, 0, rfl, hlt, by rw [Nat.zero_add, h.cellAt _ (by omega)]; simp [cS, hx]⟩

theorem splitB_mem_len (b : UInt8) (s : List UInt8) : ∀ x ∈ splitB b s, x.length ≤ s.length := by
  induction s with
  | nil => intro x hx; simp [splitB] at hx; subst hx; simp
  | cons y s ih =>
    intro x hx
    unfold splitB at hx
    split at hx
    · rcases List.mem_cons.1 hx with rfl | hx
      · simp
      · have := ih x hx; simp only [List.length_cons]; omega
    · cases hc : splitB b s with
      | nil => exact absurd hc (splitB_ne _ _)
      | cons h t =>
        rw [hc] at hx ih
        simp only at hx
        rcases List.mem_cons.1 hx with rfl | hx
        · have := ih h (by simp); simp only [List.length_cons]; omega
        · have := ih x (by simp [hx]); simp only [List.length_cons]; omega

theorem keep_app {w w4 : World} {v : Value} {o : Obj} (hg : (w.alloc o).grownBy w4 v.ownBlock) (g k : Nat) {x : Value} (hlt : g < w.heap.size) (hne : some g ≠ v.ownBlock) (h : w.cell? ⟨g, k, none⟩ = some x) : w4.cell? ⟨g, k, none⟩ = some x := by
  have hblk : w4.heap[g]? = w.heap[g]? := (hg.block g (by simp; omega) hne).trans (Lib.alloc_old w o g hlt)
  rw [World.cell?_of_block (a := ⟨g, k, none⟩) hblk]
  exact h


theorem numR_eq (s : List UInt8) : numR s = #[.int .i64 (if numOk s = true then (valL s : Int) else 0), .bool (numOk s)] := by
  unfold numR; cases h : numOk s <;> simp
theorem numsL_snoc {us : List (List UInt8)} {k : Nat} {u : List UInt8} {ns : List Int} (hu : us[k]? = some u) (h : numsL (us.take k) = some ns) : numsL (us.take (k + 1)) = if numOk u = true then some (ns ++ [(valL u : Int)]) else none := by
  have key : ∀ (vs : List (List UInt8)) (ns : List Int), numsL vs = some ns → numsL (vs ++ [u]) = if numOk u = true then some (ns ++ [(valL u : Int)]) else none := by
    intro vs
    induction vs with
    | nil => intro ns h; simp [numsL] at h; subst h; simp only [List.nil_append, numsL]; split <;> rfl
    | cons v vs ih =>
      intro ns h
      unfold numsL at h
      split at h
      · rename_i hv
        obtain ⟨m, hm, rfl⟩ := Option.map_eq_some_iff.1 h
        rw [List.cons_append, numsL, if_pos hv, ih m hm]
        split <;> rfl
      · cases h
  rw [List.take_add_one, hu]
  exact key _ _ h
theorem numsL_none {us : List (List UInt8)} {k : Nat} {u : List UInt8} (hu : us[k]? = some u) (h : numOk u = false) : numsL us = none := by
  induction us generalizing k with
  | nil => simp at hu
  | cons v vs ih =>
    unfold numsL
    cases k with
    | zero => simp at hu; subst hu; rw [h]; rfl
    | succ k =>
      split
      · rw [ih (by simpa using hu)]; rfl
      · rfl
theorem readAll_snoc {us : List (List UInt8)} {k : Nat} {u : List UInt8} {l : List Nt} (hu : us[k]? = some u) (h : readAll (us.take k) = some l) : readAll (us.take (k + 1)) = (ntL u).map (fun x => l ++ [x]) := by
  have key : ∀ (vs : List (List UInt8)) (l : List Nt), readAll vs = some l → readAll (vs ++ [u]) = (ntL u).map (fun x => l ++ [x]) := by
    intro vs
    induction vs with
    | nil => intro l h; simp [readAll] at h; subst h; simp only [List.nil_append, readAll]; cases ntL u <;> rfl
    | cons v vs ih =>
      intro l h
      unfold readAll at h
      split at h
      · rename_i x hx
        obtain ⟨m, hm, rfl⟩ := Option.map_eq_some_iff.1 h
        rw [List.cons_append, readAll, hx]
        simp only
        rw [ih m hm]
        cases ntL u <;> rfl
      · cases h
  rw [List.take_add_one, hu]
  exact key _ _ h
theorem readAll_none {us : List (List UInt8)} {k : Nat} {u : List UInt8} (hu : us[k]? = some u) (h : ntL u = none) : readAll us = none := by
  induction us generalizing k with
  | nil => simp at hu
  | cons v vs ih =>
    unfold readAll
    cases k with
    | zero => simp at hu; subst hu; rw [h]
    | succ k =>
      split
      · rw [ih (by simpa using hu)]; rfl
      · rfl

theorem egNum (args : Array Value) (w : World) : (callFunc 38 args).run Tryd.prog w = .ok (.enter 38 args) w := enters_of Tryd.func38 (by kernel_rfl) rfl args w
theorem egHole (args : Array Value) (w : World) : (callFunc 24 args).run Tryd.prog w = .ok (.enter 24 args) w := enters_of Tryd.func24 (by kernel_rfl) rfl args w

def intsV (o : Option (List Int)) : List Int := o.getD []
set_option maxRecDepth 100000 in
set_option maxHeartbeats 2000000 in
theorem eachInt_any (A : Option Addr) (us : List (List UInt8)) (n c : Nat) (w : World) (hn : us.length = n) (hn2 : n ≤ 2000001) (hul : ∀ u ∈ us, u.length ≤ 2000000) (hA : RSs w A us) (hP : PW w) :
    Calls Tryd.prog 37 #[.slice A n c, .func (.func 38) #[] #[]] w fun e w' => ∃ v, e = .returned (.tuple #[v, .bool (numsL us).isSome]) ∧ OwnI w' w.heap.size 3 v (intsV (numsL us)) ∧ Below w.heap.size w w' := by
  have hfn := egNum
  go_enter Tryd.func37, Tryd.ntmps37
  go_wp2
  go_loopw [6, 13] (fun out i wr => ∃ (k : Nat) (v : Value) (ns : List Int), k ≤ n ∧ i = .int .i64 k ∧ out = v ∧ Hid (numsL (us.take k) = some ns) ∧ ns.length = k ∧ Hid (OwnI wr w.heap.size 3 v ns) ∧ Hid (RowKit.Below w.heap.size w wr))
    (fun _ i _ => n - (intOf i).toNat)
  case atStart => exact ⟨0, _, [], Nat.zero_le _, rfl, rfl, Lib.hid rfl, rfl, Lib.hid (OwnI.nil _ _ _), Lib.hid (RowKit.Below.refl _ _)⟩
  case round =>
    obtain ⟨k, v, ns, hk, rfl, hvv, HNS, hnl, HO, HB⟩ := hrel
    replace hvv := hvv.symm
    subst hvv
    by_cases hlt : k < n
    · obtain ⟨u, hu⟩ : ∃ u, us[k]? = some u := ⟨us[k]'(by omega), List.getElem?_eq_getElem _⟩
      have hul' := hul u (List.mem_of_getElem? hu)
      obtain ⟨ga, oa, rfl, hgl, hcu⟩ := (hA.below HB.out) k u hu
      have j1 : (0 : Int) ≤ (k : Int) := by omega
      have j2 : (k : Int) < (n : Int) := by omega
      have HU := Lib.hid hu
      have hPk := hP.below HB.out
      clear hu
      cases hok : numOk u with
      | false =>
        have HC := Lib.hid (readNumber_any u wr hul' hPk.tabs hPk.errs)
        rw [numR_eq, hok] at HC
        go_wp2_with (go_at_call 38; refine HC.out.mono ?_; rintro e w2 ⟨rfl, hb2⟩)
        go_ret2
        rw [numsL_none HU.out hok]
        exact ⟨_, rfl, OwnI.nil _ _ _, HB.out.trans (hb2.mono HB.out.size)⟩
      | true =>
        have HC := Lib.hid (readNumber_any u wr hul' hPk.tabs hPk.errs)
        rw [numR_eq, hok] at HC
        have HN2 := Lib.hid ((numsL_snoc HU.out HNS.out).trans (if_pos hok))
        have hnlb : ns.length + 1 ≤ 4000000 := by omega
        go_wp2_with (first
          | (go_at_call 38; refine HC.out.mono ?_; rintro e w2 ⟨rfl, hb2⟩; have HO2 := Lib.hid (HO.out.below hb2 (Nat.le_refl _)); have HB2 := Lib.hid (HB.out.trans (hb2.mono HB.out.size)); have HC3 := Lib.hid (one_new w2 (valL u : Int)); clear hb2)
          | (at_builtin; refine wpList_appI _ rfl (.tmp 25) (.tmp 27) rfl w.heap.size _ _ rfl (HO2.out.below ((RowKit.Below.refl _ _).alloc (Nat.le_refl _) _) (Nat.le_refl _)) (some ⟨w2.heap.size, 0, none⟩) 1 1 [(valL u : Int)] rfl rfl (fun h => by cases h) (fun j y hy => one_at HC3.out hy) (by omega) (Nat.le_trans HB2.out.size (by simp)) ?_; intro v4 w4 ho4 hg4 hv4; have HO4 := Lib.hid ho4; have HB4 := Lib.hid ((HB2.out.alloc HB2.out.size _).grown hg4 (Nat.le_trans HB2.out.size (by simp)) (fun j hj => (HO2.out.lt j hj).1)); clear ho4 hg4))
        go_roundw
        case rel => exact ⟨k + 1, _, ns ++ [(valL u : Int)], by omega, by go_num, rfl, HN2, by simp [hnl], HO4, HB4⟩
        case measure => simp [intOf]; omega
    · obtain rfl : k = n := by omega
      have e1 : numsL us = some ns := by have h := HNS.out; rwa [List.take_of_length_le (by omega)] at h
      have E1 := Lib.hid e1
      clear e1
      go_wp2
      go_ret2
      rw [E1.out]
      exact ⟨_, rfl, HO.out, HB.out⟩

def noteV (o : Option Nt) : Value := .agg #[.int .i64 (o.getD (0, 0, 0)).1, .int .i64 (o.getD (0, 0, 0)).2.1, .int .i64 (o.getD (0, 0, 0)).2.2]
end Go.Proofs.YtfjcnomingbneaaDoor
