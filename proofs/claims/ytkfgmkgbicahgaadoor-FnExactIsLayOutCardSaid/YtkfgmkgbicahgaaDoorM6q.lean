/- Texts of the proof, run together: HShP, HTrk, LayP, Slc, AppN, Last. -/
import Derived.Test.YtkfgmkgbicahgaaDoorM5q
import Derived.Test.YtkfgmkgbicahgaaDoorM2q
import Derived.Test.YtkfgmkgbicahgaaDoorM3q
import Derived.Test.YtkfgmkgbicahgaaDoorM4q
import Derived.Test.YtkfgmkgbicahgaaDoorM1q
import Derived.LoopTactic
import Derived.Maps.AppendAt
import Derived.OwnWalk
import Derived.Deep.AppendLies
import Derived.Deep.RegionLaw
import Derived.Deep.RegionHeld3
import Derived.Lib.QuietBelow
namespace Go.Proofs.YtkfgmkgbicahgaaDoor.H
set_option linter.unusedVariables false

/-- There is a web between two holes, if they have one track. -/
def apart (x y : Nt) : Prop := ¬ (x.1 = y.1 ∧ x.2.1 ≤ y.2.2 ∧ y.2.1 ≤ x.2.2)
theorem apart_symm {x y : Nt} (h : apart x y) : apart y x := fun ⟨a, b, c⟩ => h ⟨a.symm, c, b⟩
theorem Good.apart {l : List Nt} (h : Good l) : l.Pairwise apart := by
  rw [List.pairwise_iff_getElem]
  intro i j hi hj hij hm
  have h1 := (h.1 j l[j] hj (List.getElem?_eq_getElem hj)).2.2 i l[i] hij (List.getElem?_eq_getElem hi)
  have : ¬ (meetN l[j] l[i] = true) := by rw [h1]; simp
  rw [meetN_iff] at this
  exact this ⟨hm.1.symm, hm.2.2⟩
theorem Good.valid {l : List Nt} (h : Good l) (x : Nt) (hx : x ∈ l) : noteN x = true := by
  obtain ⟨i, hi⟩ := List.mem_iff_getElem?.1 hx
  exact (h.1 i x (List.getElem?_eq_some_iff.1 hi).1 hi).1
theorem Good.srt {l : List Nt} (h : Good l) : Srt l := by
  unfold Srt
  rw [List.pairwise_iff_getElem]
  intro i j hi hj hij
  exact befN_asym (h.bef j i _ _ hij (List.getElem?_eq_getElem hi) (List.getElem?_eq_getElem hj))

/-- Valid holes in order, with webs between them, not too many, are a sheet. -/
theorem good_of_srt {ys : List Nt} (hs : Srt ys) (hv : ∀ x ∈ ys, noteN x = true) (ha : ys.Pairwise Go.Proofs.YtkfgmkgbicahgaaDoor.H.apart) (h60 : ys.length ≤ 60) : Good ys := by
  refine ⟨fun i x hi hx => ?_, h60⟩
  have hxe := (List.getElem?_eq_some_iff.1 hx).2
  have key : ∀ (j : Nat) (y : Nt), j < i → ys[j]? = some y → ¬ (x.2.1 < y.2.1 ∨ x.2.1 = y.2.1 ∧ x.1 < y.1) ∧ ¬ (y.1 = x.1 ∧ y.2.1 ≤ x.2.2 ∧ x.2.1 ≤ y.2.2) ∧ (0 ≤ y.2.1 ∧ y.2.1 < y.2.2) := by
    intro j y hj hy
    have hj' := (List.getElem?_eq_some_iff.1 hy).1
    have hye := (List.getElem?_eq_some_iff.1 hy).2
    have h1 := List.pairwise_iff_getElem.1 hs j i hj' hi hj
    have h2 := List.pairwise_iff_getElem.1 ha j i hj' hi hj
    rw [hxe, hye] at h1 h2
    have h3 := (noteN_iff y).1 (hv y (List.mem_iff_getElem?.2 ⟨j, hy⟩))
    exact ⟨(befN_false x y).1 h1, h2, h3.2.2.1, h3.2.2.2.1⟩
  have hvx := (noteN_iff x).1 (hv x (List.mem_iff_getElem?.2 ⟨i, hx⟩))
  refine ⟨hv x (List.mem_iff_getElem?.2 ⟨i, hx⟩), fun y h0 hy => ?_, fun j y hj hy => ?_⟩
  · obtain ⟨h1, h2, h3⟩ := key (i - 1) y (by omega) hy
    rw [befN_iff]
    omega
  · obtain ⟨h1, h2, h3⟩ := key j y hj hy
    cases hm : meetN x y with
    | false => rfl
    | true =>
      rw [meetN_iff] at hm
      exact absurd ⟨hm.1.symm, by omega, hm.2⟩ h2

def mxI (a b : Int) : Int := if a < b then b else a
def mnI (a b : Int) : Int := if b < a then b else a
theorem mxI_spec (a b : Int) : a ≤ mxI a b ∧ b ≤ mxI a b ∧ (mxI a b = a ∨ mxI a b = b) := by unfold mxI; split <;> omega
theorem mnI_spec (a b : Int) : mnI a b ≤ a ∧ mnI a b ≤ b ∧ (mnI a b = a ∨ mnI a b = b) := by unfold mnI; split <;> omega
/-- Holes changed one by one; those that are left. -/
def chgL (g : Nt → Nt) (l : List Nt) : List Nt := (l.map g).filter fun y => decide (y.2.1 < y.2.2)
theorem chgL_length (g : Nt → Nt) (l : List Nt) : (chgL g l).length ≤ l.length := by
  unfold chgL
  exact Nat.le_trans (List.length_filter_le _ _) (by simp)
theorem chgL_snoc (g : Nt → Nt) (l : List Nt) (k : Nat) (x : Nt) (h : l[k]? = some x) : chgL g (l.take (k + 1)) = chgL g (l.take k) ++ (if (g x).2.1 < (g x).2.2 then [g x] else []) := by
  unfold chgL
  rw [List.take_add_one, h, List.map_append, List.filter_append]
  congr 1
  simp only [Option.toList, List.map_cons, List.map_nil, List.filter_cons, List.filter_nil, decide_eq_true_eq]
theorem chgL_all (g : Nt → Nt) (l : List Nt) (h : ∀ x ∈ l, (g x).2.1 < (g x).2.2) : chgL g l = l.map g := by
  unfold chgL
  rw [List.filter_eq_self]
  intro y hy
  obtain ⟨x, hx, rfl⟩ := List.mem_map.1 hy
  simpa using h x hx

def moveN (b : Int) (x : Nt) : Nt := (x.1, x.2.1 + b, x.2.2 + b)
def revN (n : Int) (x : Nt) : Nt := (x.1, n - x.2.2, n - x.2.1)
def mirN (x : Nt) : Nt := (19 - x.1, x.2.1, x.2.2)
def cutN (f t : Int) (x : Nt) : Nt := (x.1, mxI x.2.1 f - f, mnI x.2.2 t - f)

theorem moved_srt {l : List Nt} (b : Int) (h : Srt l) : Srt (l.map (moveN b)) := by
  unfold Srt at *
  rw [List.pairwise_map]
  refine h.imp ?_
  intro x y hxy
  rw [befN_false] at *
  simp only [moveN]
  omega
/-- A part of a sheet is a sheet. -/
theorem cut_good {l : List Nt} (f t : Int) (hg : Good l) (hf : 0 ≤ f) (ht : t ≤ 2000) : goodB (canon (chgL (cutN f t) l)) = true := by
  rw [goodB_iff]
  have hp := canon_perm (chgL (cutN f t) l)
  refine good_of_srt (canon_srt _) ?_ ?_ ?_
  · intro x hx
    have hx' := hp.mem_iff.1 hx
    unfold chgL at hx'
    rw [List.mem_filter] at hx'
    obtain ⟨h1, h2⟩ := hx'
    obtain ⟨z, hz, rfl⟩ := List.mem_map.1 h1
    have hv := (noteN_iff z).1 (hg.valid z hz)
    rw [noteN_iff]
    have h2 : (cutN f t z).2.1 < (cutN f t z).2.2 := of_decide_eq_true h2
    simp only [cutN] at h2 ⊢
    have a1 := mxI_spec z.2.1 f
    have a2 := mnI_spec z.2.2 t
    refine ⟨hv.1, hv.2.1, ?_⟩
    omega
  · refine (hp.pairwise_iff fun {x y} h => apart_symm h).2 ?_
    unfold chgL
    rw [List.pairwise_filter, List.pairwise_map]
    refine hg.apart.imp ?_
    intro x y hxy hx hy hm
    refine hxy ?_
    have hx : (cutN f t x).2.1 < (cutN f t x).2.2 := of_decide_eq_true hx
    have hy : (cutN f t y).2.1 < (cutN f t y).2.2 := of_decide_eq_true hy
    simp only [cutN] at hx hy hm
    have a1 := mxI_spec x.2.1 f
    have a2 := mnI_spec x.2.2 t
    have a3 := mxI_spec y.2.1 f
    have a4 := mnI_spec y.2.2 t
    obtain ⟨h1, h2, h3⟩ := hm
    refine ⟨h1, ?_⟩
    omega
  · rw [canon_length]
    exact Nat.le_trans (chgL_length _ _) hg.2
/-- A list in order is what it is when it is put in order, where one of them is a sheet. -/
theorem canon_same {l : List Nt} (hs : Srt l) : goodB (canon l) = goodB l ∧ (if goodB (canon l) = true then canon l else []) = (if goodB l = true then l else []) := by
  obtain ⟨h1, h2⟩ := canon_good (List.Perm.refl l) hs
  exact ⟨h1.symm, h2.symm⟩
/-- A hole that is none keeps the whole from being a sheet. -/
theorem canon_bad {l : List Nt} {x : Nt} (hx : noteN x = false) : goodB (canon (l ++ [x])) = false := by
  cases h : goodB (canon (l ++ [x])) with
  | false => rfl
  | true =>
    have := ((goodB_iff _).1 h).valid x ((canon_perm _).mem_iff.2 (by simp))
    rw [hx] at this
    cases this
end Go.Proofs.YtkfgmkgbicahgaaDoor.H

namespace Go.Proofs.YtkfgmkgbicahgaaDoor.H
open Go.RowKit Go.Sort
set_option linter.unusedVariables false
set_option linter.unusedSimpArgs false

def allT (_ : Nt) : Bool := true
/-- The tracks of all holes. -/
def tracksL (l : List Nt) : List Int := atF allT l

set_option maxRecDepth 100000 in
set_option maxHeartbeats 2000000 in
theorem laTracks_any (A : Option Addr) (l : List Nt) (c : Nat) (w : World) (hn : l.length ≤ 100000) (hA : RA w A l) :
    Calls Tryd.prog 63 #[.slice A l.length c] w fun e w' => ∃ v, e = .returned v ∧ OwnI w' w.heap.size 3 v (tracksL l) ∧ Below w.heap.size w w' := by
  go_enter Tryd.func63, Tryd.ntmps63
  go_wp2_with fail
  go_loopw [3, 8] (fun a i wr => ∃ k : Nat, k ≤ l.length ∧ i = .int .i64 k ∧ OwnI wr w.heap.size 3 a (atF allT (l.take k)) ∧ Below w.heap.size w wr)
    (fun _ i _ => l.length - (intOf i).toNat)
  case atStart => exact ⟨0, Nat.zero_le _, rfl, OwnI.nil _ _ _, Below.refl _ _⟩
  case round =>
    obtain ⟨k, hk, rfl, hown, hb⟩ := hrel
    by_cases hlt : k < l.length
    · have hx : l[k]? = some l[k] := List.getElem?_eq_getElem hlt
      generalize l[k] = x at hx
      have hs := atF_snoc allT l k x hx
      obtain ⟨p, s, n⟩ := x
      simp only at hs
      obtain ⟨g, o, rfl, hgb, h0, h1, h2⟩ := (hA.below hb) k _ hx
      simp only at h0 h1 h2
      have i1 : (0 : Int) ≤ (k : Int) := by omega
      have i2 : (k : Int) < (l.length : Int) := by omega
      have HS := Lib.hid hs
      have HO := Lib.hid hown
      clear hs hx hown
      have hsz := atF_length allT l k hk
      have hinc := Lib.hid (atF_inc allT l k hk)
      have hnb : Below wr.heap.size wr (wr.alloc (.cells #[.int .i64 p, .int .i64 s, .int .i64 n] 29)) := (Below.refl _ _).alloc (Nat.le_refl _) _
      go_wp2_with fail
      generalize wr.alloc (.cells #[.int .i64 p, .int .i64 s, .int .i64 n] 29) = W1 at *
      refine (l1Put_any _ _ p w.heap.size _ (by omega) (by have := hb.size; have := hnb.size; omega) (HO.out.below hnb (Nat.le_refl _)) hinc.out).mono ?_
      rintro e w3 ⟨v3, rfl, ho3, hb3⟩
      go_wp2_with fail
      go_roundw
      case rel =>
        refine ⟨k + 1, by omega, by go_num, ?_, hb.trans ((hnb.trans (hb3.mono hnb.size)).mono hb.size)⟩
        rw [HS.out, if_pos (show allT (p, s, n) = true from rfl)]
        exact ho3
      case measure => simp [intOf]; omega
    · obtain rfl : k = l.length := by omega
      go_wp2
      go_ret
      rw [List.take_length] at hown
      exact ⟨_, rfl, hown, hb⟩

set_option maxRecDepth 100000 in
set_option maxHeartbeats 4000000 in
theorem implTracks_any (A : Option Addr) (l : List Nt) (c : Nat) (w : World) (hn : l.length ≤ 1048576) (hA : RA w A l) :
    Calls Tryd.prog 65 #[.slice A l.length c] w fun e w' => RetI w (tracksL l) (goodB l) e w' := by
  cases hg : goodB l with
  | false =>
    have HG := isSheet_quick A l c false hn hg
    clear hg
    go_enter Tryd.func65, Tryd.ntmps65
    go_wp2_with fail
    refine (HG.out _ hA).mono ?_
    rintro e w1 ⟨rfl, hb1⟩
    go_wp2
    go_ret2
    exact ⟨_, rfl, by simpa using OwnI.nil _ _ _, hb1⟩
  | true =>
    have HG := isSheet_quick A l c true hn hg
    have h60 := ((goodB_iff l).1 hg).2
    clear hg
    go_enter Tryd.func65, Tryd.ntmps65
    go_wp2_with fail
    refine (HG.out _ hA).mono ?_
    rintro e w1 ⟨rfl, hb1⟩
    have hA1 := hA.below hb1
    go_wp2_with fail
    go_loopw [4, 12] (fun a i wr => ∃ k : Nat, k ≤ l.length ∧ i = .int .i64 k ∧ OwnI wr w1.heap.size 3 a (psF allT (l.take k)) ∧ Below w1.heap.size w1 wr)
      (fun _ i _ => l.length - (intOf i).toNat)
    case atStart => exact ⟨0, Nat.zero_le _, rfl, OwnI.nil _ _ _, Below.refl _ _⟩
    case round =>
      obtain ⟨k, hk, rfl, hown, hb⟩ := hrel
      have HO := Lib.hid hown
      clear hown
      by_cases hlt : k < l.length
      · have hx : l[k]? = some l[k] := List.getElem?_eq_getElem hlt
        generalize l[k] = x at hx
        have hs := psF_snoc allT l k x hx
        obtain ⟨p, s, n⟩ := x
        simp only at hs
        obtain ⟨g, o, rfl, hgb, h0, h1, h2⟩ := (hA1.below hb) k _ hx
        simp only at h0 h1 h2
        have i1 : (0 : Int) ≤ (k : Int) := by omega
        have i2 : (k : Int) < (l.length : Int) := by omega
        have HS := Lib.hid hs
        clear hs hx
        have hsz : (psF allT (l.take k)).length ≤ 60 := by have := psF_length allT (l.take k); simp at this; omega
        have hbr0 : Below wr.heap.size wr (wr.alloc (.cells #[.int .i64 p, .int .i64 s, .int .i64 n] 29)) := (Below.refl _ _).alloc (Nat.le_refl _) _
        have hz0 : (wr.alloc (.cells #[.int .i64 p, .int .i64 s, .int .i64 n] 29)).heap.size = wr.heap.size + 1 := by simp
        have hbr3 := Lib.hid (show Below wr.heap.size wr ((wr.alloc (.cells #[.int .i64 p, .int .i64 s, .int .i64 n] 29)).alloc (.cells #[.int .i64 p] 3)) from hbr0.alloc hbr0.size _)
        have ho3 := Lib.hid (HO.out.below hbr3.out (Nat.le_refl _))
        have hc3 := Lib.hid (one_new (wr.alloc (.cells #[.int .i64 p, .int .i64 s, .int .i64 n] 29)) p)
        rw [hz0] at hc3
        clear hz0 hbr0
        go_wp2_with (at_builtin; go_loud (refine wpList_appI _ rfl (.tmp 16) (.tmp 19) rfl w1.heap.size _ _ rfl ho3.out (some ⟨wr.heap.size + 1, 0, none⟩) 1 1 [p] rfl rfl (fun h => by cases h) (fun j y hy => one_at hc3.out hy) (by simp; omega) (Nat.le_trans hb.size hbr3.out.size) ?_; intro v4 w4 ho4 hg4 hv4))
        go_roundw
        case rel =>
          refine ⟨k + 1, by omega, by go_num, ?_, (hb.trans (hbr3.out.mono hb.size)).grown hg4 (Nat.le_trans hb.size hbr3.out.size) (fun j hj => (ho3.out.lt j hj).1)⟩
          rw [HS.out, if_pos (show allT (p, s, n) = true from rfl)]
          exact ho4
        case measure => simp [intOf]; omega
      · obtain rfl : k = l.length := by omega
        rw [List.take_length] at HO
        have hl := psF_length allT l
        go_wp2_with (first
          | (go_at_call 88; refine (sortI_any _ _ w1.heap.size _ (by omega) HO.out).mono ?_; rintro e w3 ⟨rfl, ho3, hg3⟩)
          | (go_at_call 89; refine (compactI_any _ _ w1.heap.size _ (by rw [List.length_mergeSort]; omega) ho3).mono ?_; rintro e w4 ⟨v4, rfl, ho4, hg4⟩))
        go_ret2
        rw [compact_atF] at ho4
        have hb3 := hb.grown hg3 hb.size (fun j hj => (HO.out.lt j hj).1)
        refine ⟨_, rfl, by simpa [tracksL] using ho4.mono hb1.size, hb1.trans ((hb3.grown hg4 hb3.size (fun j hj => (ho3.lt j hj).1)).mono hb1.size)⟩

theorem tracksL_length (l : List Nt) : (tracksL l).length ≤ l.length := by
  have := atF_length allT l l.length (Nat.le_refl _)
  rw [List.take_length] at this
  exact this
end Go.Proofs.YtkfgmkgbicahgaaDoor.H

namespace Go.Proofs.YtkfgmkgbicahgaaDoor
set_option linter.unusedVariables false

/-- The hole of a note. -/
def holeN (P : List Int) (x : Nt) : Nt := (trk x.1 P, 2 * x.2.1, 2 * (x.2.1 + x.2.2) - 1)
/-- The note of a hole. -/
def noteOf (P : List Int) (h : Nt) : Nt := (P.getD h.1.toNat 0, h.2.1 / 2, (h.2.2 + 1) / 2 - h.2.1 / 2)
/-- A valid hole is that of a note. -/
def isOf (P : List Int) (h : Nt) : Bool := decide (h.1 < (P.length : Int)) && (decide (h.2.1 % 2 = 0) && (decide (h.2.2 % 2 = 1) && noteN (noteOf P h)))
theorem isOf_iff (P : List Int) (h : Nt) : isOf P h = true ↔ h.1 < (P.length : Int) ∧ h.2.1 % 2 = 0 ∧ h.2.2 % 2 = 1 ∧ noteN (noteOf P h) = true := by simp [isOf]

theorem trkF_get (p : Int) : ∀ (l : List Int) (k : Int), p ∈ l → l[(trkF p l k - k).toNat]? = some p
  | [], _, h => by cases h
  | x :: l, k, h => by
    unfold trkF
    by_cases hx : x = p
    · rw [if_pos hx, Int.sub_self]; simp [hx]
    · rw [if_neg hx]
      have hm : p ∈ l := by
        rcases List.mem_cons.1 h with h | h
        · exact absurd h.symm hx
        · exact h
      have ih := trkF_get p l (k + 1) hm
      have hge : k + 1 ≤ trkF p l (k + 1) := by
        have : ∀ (l : List Int) (k : Int), p ∈ l → k ≤ trkF p l k := by
          intro l
          induction l with
          | nil => intro k h; cases h
          | cons y l ih =>
            intro k h
            unfold trkF
            by_cases hy : y = p
            · rw [if_pos hy]; exact Int.le_refl _
            · rw [if_neg hy]
              rcases List.mem_cons.1 h with h | h
              · exact absurd h.symm hy
              · have := ih (k + 1) h; omega
        exact this l (k + 1) hm
      have e : (trkF p l (k + 1) - k).toNat = (trkF p l (k + 1) - (k + 1)).toNat + 1 := by omega
      rw [e, List.getElem?_cons_succ]
      exact ih
theorem trk_get {p : Int} {P : List Int} (h : p ∈ P) : P[(trk p P).toNat]? = some p ∧ 0 ≤ trk p P ∧ trk p P < P.length := by
  have h1 := trkF_get p P 0 h
  rw [Int.sub_zero] at h1
  have h2 := trk_lt p P
  have h3 : ¬ trk p P < 0 := fun h' => (trk_neg p P).1 h' h
  exact ⟨h1, by omega, h2.1⟩
theorem inc_get {P : List Int} (hi : P.Pairwise (fun a b : Int => a < b)) {i j : Nat} {a b : Int} (ha : P[i]? = some a) (hb : P[j]? = some b) : i < j ↔ a < b := by
  obtain ⟨hi1, rfl⟩ := List.getElem?_eq_some_iff.1 ha
  obtain ⟨hj1, rfl⟩ := List.getElem?_eq_some_iff.1 hb
  have hp := List.pairwise_iff_getElem.1 hi
  constructor
  · exact fun h => hp i j hi1 hj1 h
  · intro h
    rcases Nat.lt_trichotomy i j with h' | h' | h'
    · exact h'
    · subst h'; exact absurd h (Int.lt_irrefl _)
    · have := hp j i hj1 hi1 h'; omega
theorem trk_mono {P : List Int} (hi : P.Pairwise (fun a b : Int => a < b)) {a b : Int} (ha : a ∈ P) (hb : b ∈ P) : trk a P < trk b P ↔ a < b := by
  obtain ⟨a1, a2, a3⟩ := trk_get ha
  obtain ⟨b1, b2, b3⟩ := trk_get hb
  rw [← inc_get hi a1 b1]
  omega
theorem trk_inj {P : List Int} {a b : Int} (ha : a ∈ P) (hb : b ∈ P) (h : trk a P = trk b P) : a = b := by
  have h1 := (trk_get ha).1
  rw [h, (trk_get hb).1] at h1
  injection h1 with h1
  exact h1.symm

theorem Good.validN {l : List Nt} (h : Good l) (x : Nt) (hx : x ∈ l) : noteN x = true := by
  obtain ⟨i, hi⟩ := List.mem_iff_getElem?.1 hx
  exact (h.1 i x (List.getElem?_eq_some_iff.1 hi).1 hi).1

theorem holeN_srt {P : List Int} {m : List Nt} (hi : P.Pairwise (fun a b : Int => a < b)) (hm : ∀ x ∈ m, x.1 ∈ P) (hg : Good m) : Srt (m.map (holeN P)) := by
  unfold Srt
  rw [List.pairwise_map, List.pairwise_iff_getElem]
  intro i j hi' hj hij
  have hb := (befN_iff _ _).1 (hg.bef j i _ _ hij (List.getElem?_eq_getElem hi') (List.getElem?_eq_getElem hj))
  rw [befN_false]
  simp only [holeN]
  have h1 := hm _ (List.getElem_mem hi')
  have h2 := hm _ (List.getElem_mem hj)
  have h3 := trk_mono hi h1 h2
  omega
theorem holeN_apart {P : List Int} {m : List Nt} (hm : ∀ x ∈ m, x.1 ∈ P) (hg : Good m) : (m.map (holeN P)).Pairwise H.apart := by
  rw [List.pairwise_map, List.pairwise_iff_getElem]
  intro i j hi' hj hij h
  obtain ⟨h1, h2, h3⟩ := h
  simp only [holeN] at h1 h2 h3
  have e := trk_inj (hm _ (List.getElem_mem hi')) (hm _ (List.getElem_mem hj)) h1
  have hq := (hg.1 j _ hj (List.getElem?_eq_getElem hj)).2.2 i _ hij (List.getElem?_eq_getElem hi')
  have : meetN m[j] m[i] = true := by
    rw [meetN_iff]
    exact ⟨e.symm, by omega, by omega⟩
  rw [hq] at this
  cases this
/-- The holes of a score are a sheet, if each is a hole. -/
theorem lay_good {P : List Int} {m : List Nt} (hi : P.Pairwise (fun a b : Int => a < b)) (hm : ∀ x ∈ m, x.1 ∈ P) (hg : Good m) (hv : ∀ x ∈ m, H.noteN (holeN P x) = true) : H.Good (m.map (holeN P)) := by
  refine H.good_of_srt (holeN_srt hi hm hg) ?_ (holeN_apart hm hg) ?_
  · intro x hx
    obtain ⟨y, hy, rfl⟩ := List.mem_map.1 hx
    exact hv y hy
  · have := hg.2
    simp
    omega
/-- Put in order, moved holes of a score are what they are. -/
theorem lay_canon {P : List Int} {m : List Nt} (b : Int) (hi : P.Pairwise (fun a b : Int => a < b)) (hm : ∀ x ∈ m, x.1 ∈ P) (hg : Good m) :
    H.goodB (canon ((m.map (holeN P)).map (H.moveN b))) = H.goodB ((m.map (holeN P)).map (H.moveN b)) ∧ (if H.goodB (canon ((m.map (holeN P)).map (H.moveN b))) = true then canon ((m.map (holeN P)).map (H.moveN b)) else []) = (if H.goodB ((m.map (holeN P)).map (H.moveN b)) = true then ((m.map (holeN P)).map (H.moveN b)) else []) :=
  H.canon_same (H.moved_srt b (holeN_srt hi hm hg))
theorem move_zero (l : List Nt) : l.map (H.moveN 0) = l := by
  have : H.moveN 0 = id := by funext x; obtain ⟨a, b, c⟩ := x; simp [H.moveN]
  rw [this, List.map_id]

theorem getD_of {P : List Int} {i : Nat} (h : i < P.length) : P[i]? = some (P.getD i 0) := by
  rw [List.getElem?_eq_getElem h, List.getD_eq_getElem?_getD, List.getElem?_eq_getElem h]; rfl
/-- The notes of a sheet's holes are in order. -/
theorem noteOf_srt {P : List Int} {s : List Nt} (hi : P.Pairwise (fun a b : Int => a < b)) (hs : H.Good s) (ho : ∀ x ∈ s, isOf P x = true) : Srt (s.map (noteOf P)) := by
  unfold Srt
  have hb := hs.srt
  have hv : ∀ x ∈ s, _ := fun x hx => (H.noteN_iff x).1 (hs.valid x hx)
  rw [List.pairwise_map]
  rw [List.pairwise_iff_getElem]
  intro i j hi' hj hij
  have hbe := (befN_iff _ _).1 (hs.bef j i _ _ hij (List.getElem?_eq_getElem hi') (List.getElem?_eq_getElem hj))
  have v1 := hv _ (List.getElem_mem hi')
  have v2 := hv _ (List.getElem_mem hj)
  have o1 := (isOf_iff P _).1 (ho _ (List.getElem_mem hi'))
  have o2 := (isOf_iff P _).1 (ho _ (List.getElem_mem hj))
  rw [befN_false]
  simp only [noteOf]
  generalize s[i] = x at *
  generalize s[j] = y at *
  have g1 := getD_of (P := P) (i := x.1.toNat) (by omega)
  have g2 := getD_of (P := P) (i := y.1.toNat) (by omega)
  have g3 := inc_get hi g1 g2
  generalize P.getD x.1.toNat 0 = a at *
  generalize P.getD y.1.toNat 0 = b at *
  omega
/-- The hole of a hole's note is that hole, exactly if it is that of a note. -/
theorem holeN_noteOf {P : List Int} {h : Nt} (hi : P.Pairwise (fun a b : Int => a < b)) (hv : H.noteN h = true) (hl : h.1 < (P.length : Int)) :
    (holeN P (P.getD h.1.toNat 0, h.2.1 / 2, (h.2.2 - h.2.1 + 1) / 2) = h) ↔ (h.2.1 % 2 = 0 ∧ h.2.2 % 2 = 1) := by
  have v := (H.noteN_iff h).1 hv
  have g1 := getD_of (P := P) (i := h.1.toNat) (by omega)
  have hmem : P.getD h.1.toNat 0 ∈ P := List.mem_iff_getElem?.2 ⟨_, g1⟩
  have g2 := trk_get hmem
  have e : trk (P.getD h.1.toNat 0) P = h.1 := by
    have a := inc_get hi g1 g2.1
    have b := inc_get hi g2.1 g1
    have c : ¬ (P.getD h.1.toNat 0 < P.getD h.1.toNat 0) := Int.lt_irrefl _
    omega
  obtain ⟨t, f, u⟩ := h
  simp only [holeN, Prod.mk.injEq] at *
  rw [e]
  simp only [true_and]
  omega
theorem half_same {h : Nt} (h1 : h.2.1 % 2 = 0) (h2 : h.2.2 % 2 = 1) : (h.2.2 - h.2.1 + 1) / 2 = (h.2.2 + 1) / 2 - h.2.1 / 2 := by omega
end Go.Proofs.YtkfgmkgbicahgaaDoor

namespace Go.Proofs.YtkfgmkgbicahgaaDoor
open Go.RowKit
set_option linter.unusedVariables false

theorem Tryd.info_Note : (Tryd.prog.info? 34).map (fun i => (i.zero, i.size, i.bytes)) = some (some (.agg #[.int .i64 0, .int .i64 0, .int .i64 0]), 3, 24) := by kernel_rfl

theorem make_notes (n : Nat) (hn : n ≤ 1048576) (W : World) :
    (Instr.makeSlice 50 (.int .i64 (n : Int)) (.int .i64 (n : Int))).run Tryd.prog W = .ok (.slice (some ⟨W.heap.size, 0, none⟩) n n) (W.alloc (.cells (madeCells #[.int .i64 0, .int .i64 0, .int .i64 0] (n * 3)) 34)) := by
  obtain ⟨i, hi, hz, hs, hb⟩ := info_parts Tryd.info_Note
  have h := run_make (P := Tryd.prog) W 50 34 i _ Tryd.underlying50 hi hz .i64 .i64 (n : Int) (n : Int) (by omega) (by omega) (by rw [hb]; omega) (by omega)
  rw [hs] at h
  simp only [Int.toNat_natCast] at h
  exact h

set_option maxHeartbeats 400000 in
theorem szNoteS_any (A : Option Addr) (n c : Nat) (left : Int) (w : World) (hn : n ≤ 9223372036854775807) (h0 : 0 ≤ left) (h1 : left ≤ 1048576) :
    Calls Tryd.prog 20 #[.slice A n c, .int .i64 left] w fun e w' => e = .returned (.int .i64 (if left - n < 0 then -1 else left - n)) ∧ w = w' := by
  by_cases h : left - n < 0
  all_goals
    go_enter Tryd.func20, Tryd.ntmps20
    go_wp2
    go_ret
    exact ⟨ret_int (by simp), rfl⟩

set_option maxHeartbeats 1000000 in
theorem toNoteS_any (A : Option Addr) (l : List Nt) (c : Nat) (w : World) (hn : l.length ≤ 1048576) (hA : RA w A l) :
    Calls Tryd.prog 22 #[.slice A l.length c] w fun e w' => e = .returned (.slice (some ⟨w.heap.size, 0, none⟩) l.length l.length) ∧
      Own w' w.heap.size 34 (.slice (some ⟨w.heap.size, 0, none⟩) l.length l.length) l ∧ Below w.heap.size w w' := by
  have hmk := make_notes l.length hn
  go_enter Tryd.func22, Tryd.ntmps22
  go_wp2
  go_loopw [4] (fun i wr => ∃ k : Nat, k ≤ l.length ∧ i = .int .i64 k ∧ Own wr w.heap.size 34 (.slice (some ⟨w.heap.size, 0, none⟩) l.length l.length) (l.take k ++ (List.replicate l.length (0, 0, 0)).drop k) ∧ Below w.heap.size w wr)
    (fun i _ => l.length - (intOf i).toNat)
  case atStart =>
    refine ⟨0, Nat.zero_le _, rfl, ?_, (Below.refl _ _).alloc (Nat.le_refl _) _⟩
    have h := World.ownsRow_lit (base := w.heap.size) (e := 34) (size := 3) w (madeCells #[.int .i64 0, .int .i64 0, .int .i64 0] (l.length * 3)) l.length (Nat.le_refl _) (by unfold maxLen; omega) (size_madeCells _ _)
    rw [made_cl] at h
    simpa [Own] using h
  case round =>
    obtain ⟨k, hk, rfl, hown, hb⟩ := hrel
    by_cases hlt : k < l.length
    · have hx : l[k]? = some l[k] := List.getElem?_eq_getElem hlt
      generalize l[k] = x at hx
      obtain ⟨p, s, n⟩ := x
      obtain ⟨g, o, rfl, hg, h0, h1, h2⟩ := (hA.below hb) k _ hx
      simp only at h0 h1 h2
      go_wp2_with fail
      refine (toNote_any _ _ _ _).mono ?_
      rintro e w1 ⟨rfl, hb1⟩
      have hown1 := hown.below hb1 (Nat.le_refl _)
      have hz1 : w.heap.size < w1.heap.size := (hown1.lt _ rfl).2
      have hL : (l.take k ++ (List.replicate l.length ((0, 0, 0) : Nt)).drop k).length = l.length := by simp; omega
      have hs : (List.replicate l.length ((0, 0, 0) : Nt))[k]? = some (0, 0, 0) := by rw [List.getElem?_replicate, if_pos hlt]
      unfold Own at hown1
      rw [hL] at hown1
      have f := fun j => hown1.frozenAt j
      have c0 : ∃ u, w1.cell? ⟨w.heap.size, k * 3, none⟩ = some u := by rw [hown1.cellAt _ (by omega)]; exact ⟨_, List.getElem?_eq_getElem (by rw [cl_length, hL]; omega)⟩
      have c1 : ∃ u, w1.cell? ⟨w.heap.size, k * 3 + 1, none⟩ = some u := by rw [hown1.cellAt _ (by omega)]; exact ⟨_, List.getElem?_eq_getElem (by rw [cl_length, hL]; omega)⟩
      have c2 : ∃ u, w1.cell? ⟨w.heap.size, k * 3 + 2, none⟩ = some u := by rw [hown1.cellAt _ (by omega)]; exact ⟨_, List.getElem?_eq_getElem (by rw [cl_length, hL]; omega)⟩
      obtain ⟨u0, c0⟩ := c0
      obtain ⟨u1, c1⟩ := c1
      obtain ⟨u2, c2⟩ := c2
      have f0 := f (k * 3)
      have f1 := f (k * 3 + 1)
      have f2 := f (k * 3 + 2)
      have H := Lib.hid hown1
      have HL := Lib.hid hL
      have HX := Lib.hid hx
      clear f hown1 hL hx hs hA hown
      go_wp2
      go_roundw
      case rel =>
        refine ⟨k + 1, by omega, by go_num, ?_, ((hb.trans (hb1.mono hb.size)).setCell (by simp) _ |>.setCell (by simp) _).setCell (by simp) _⟩
        have k1 := ((H.out.stored (k * 3) (.int .i64 p)).1.stored (k * 3 + 1) (.int .i64 s)).1.stored (k * 3 + 2) (.int .i64 n)
        have k2 := k1.1
        rw [cl_set _ _ (p, s, n) (by rw [HL.out]; exact hlt), take_set l _ k _ HX.out (by simpa using hlt)] at k2
        unfold Own
        have hL' : (l.take (k + 1) ++ (List.replicate l.length ((0, 0, 0) : Nt)).drop (k + 1)).length = l.length := by simp; omega
        rw [hL']
        exact k2
      case measure => simp [intOf]; omega
    · obtain rfl : k = l.length := by omega
      go_wp2
      go_ret
      exact ⟨rfl, by simpa using hown, hb⟩

set_option maxRecDepth 100000 in
set_option maxHeartbeats 1000000 in
theorem eqNoteS_any (A B : Option Addr) (l m : List Nt) (c d : Nat) (w : World) (hl : l.length ≤ 9223372036854775807) (hm : m.length ≤ 9223372036854775807) (hA : RA w A l) (hB : RA w B m) :
    Calls Tryd.prog 25 #[.slice A l.length c, .slice B m.length d] w fun e w' => e = .returned (.bool (decide (l = m))) ∧ Below w.heap.size w w' := by
  by_cases hlen : l.length = m.length
  · go_enter Tryd.func25, Tryd.ntmps25
    have hne : ((l.length : Int) != (m.length : Int)) = false := by simp [hlen]
    have HLEN := Lib.hid hlen
    clear hlen
    go_wp2
    go_loopw [5] (fun i wr => ∃ k : Nat, k ≤ l.length ∧ i = .int .i64 k ∧ l.take k = m.take k ∧ Below w.heap.size w wr)
      (fun i _ => l.length - (intOf i).toNat)
    case atStart => exact ⟨0, Nat.zero_le _, rfl, by simp, Below.refl _ _⟩
    case round =>
      obtain ⟨k, hk, rfl, htake, hb⟩ := hrel
      have HT := Lib.hid htake
      clear htake
      by_cases hlt : k < l.length
      · have hlt' : k < m.length := by have := HLEN.out; omega
        have hx : l[k]? = some l[k] := List.getElem?_eq_getElem hlt
        have hy : m[k]? = some m[k] := List.getElem?_eq_getElem hlt'
        generalize l[k] = x at hx
        generalize m[k] = y at hy
        obtain ⟨p, s, n⟩ := x
        obtain ⟨p', s', n'⟩ := y
        obtain ⟨g, o, rfl, hg, h0, h1, h2⟩ := (hA.below hb) k _ hx
        obtain ⟨g', o', rfl, hg', h0', h1', h2'⟩ := (hB.below hb) k _ hy
        simp only at h0 h1 h2 h0' h1' h2'
        have i1 : (0 : Int) ≤ (k : Int) := by omega
        have i2 : (k : Int) < (l.length : Int) := by omega
        have i3 : (k : Int) < (m.length : Int) := by omega
        have HX := Lib.hid hx
        have HY := Lib.hid hy
        clear hx hy hA hB
        go_wp2_with fail
        refine wp_region_still_tail 8 (by kernel_rfl) (by kernel_rfl) ?_
        change wpStill _ _ (World.drew _) (fun a' => wpList _ _ _ _ a' (World.drew _)) _ _
        simp only [List.take_succ_cons, List.take_zero, List.drop_succ_cons, List.drop_zero]
        repeat still_step
        try refine wpStill_nil ?_
        by_cases he : eqB p s n p' s' n' = true
        · go_wp2_with (go_at_call 19; refine (eqNote_any _ _ _ _ _ _ _).mono ?_; rintro e w1 ⟨rfl, hb1⟩)
          go_roundw
          case rel =>
            refine ⟨k + 1, by omega, by go_num, ?_, hb.drew.trans (hb1.mono hb.size)⟩
            rw [List.take_add_one, List.take_add_one, HT.out, HX.out, HY.out]
            simp [eqB] at he
            obtain ⟨rfl, rfl, rfl⟩ := he
            rfl
          case measure => simp [intOf]; omega
        · go_wp2_with (go_at_call 19; refine (eqNote_any _ _ _ _ _ _ _).mono ?_; rintro e w1 ⟨rfl, hb1⟩)
          go_ret
          refine ⟨ret_bool ?_, hb.drew.trans (hb1.mono hb.size)⟩
          have : l ≠ m := by
            rintro rfl
            have := HX.out.symm.trans HY.out
            simp at this
            obtain ⟨rfl, rfl, rfl⟩ := this
            simp [eqB] at he
          simp [this]
      · obtain rfl : k = l.length := by omega
        go_wp2
        go_ret
        refine ⟨ret_bool ?_, hb⟩
        have : l = m := by
          have h := HT.out
          rw [List.take_length, HLEN.out, List.take_length] at h
          exact h
        simp [this]
  · go_enter Tryd.func25, Tryd.ntmps25
    have hne : ((l.length : Int) != (m.length : Int)) = true := by simp; omega
    go_wp2
    go_ret
    exact ⟨ret_bool (by simp; intro h; exact hlen (by rw [h])), Below.refl _ _⟩

set_option maxRecDepth 100000 in
set_option maxHeartbeats 1000000 in
theorem heldNoteS_any (A : Option Addr) (K : Int) (n c : Nat) (w : World) (hn : n ≤ 1048576) (hK : 0 ≤ K) (hK' : K ≤ 1048576) (hA : RA w A (mk n K)) :
    Calls Tryd.prog 34 #[.slice A n c, .int .i64 K] w fun e w' => e = .returned (.int .i64 (K + 3 * n)) ∧ w = w' := by
  go_enter Tryd.func34, Tryd.ntmps34
  go_wp2
  go_loop [1, 5] (fun q i => ∃ k : Nat, k ≤ n ∧ i = .int .i64 k ∧ q = .int .i64 (K + 3 * k))
    (fun _ i => n - (intOf i).toNat)
  case atStart => exact ⟨0, Nat.zero_le _, rfl, by simp⟩
  case round =>
    obtain ⟨k, hk, rfl, rfl⟩ := hrel
    by_cases hlt : k < n
    · obtain ⟨g, o, rfl, hg, h0, h1, h2⟩ := hA k _ (mk_get n K k hlt)
      simp only at h0 h1 h2
      clear hA
      go_wp2
      go_round
      case rel => exact ⟨k + 1, by omega, by go_num, by first | go_num | (congr 1; omega)⟩
      case measure => simp [intOf]; omega
    · obtain rfl : k = n := by omega
      go_wp2
      go_ret
      exact ⟨rfl, rfl⟩

set_option maxRecDepth 100000 in
set_option maxHeartbeats 1000000 in
theorem markNoteS_any (v : Value) (l : List Nt) (K : Int) (base : Nat) (w : World) (hn : l.length ≤ 1048576) (hK : 0 ≤ K) (hK' : K ≤ 1048576) (hv : Own w base 34 v l) :
    Calls Tryd.prog 27 #[v, .int .i64 K] w fun e w' => e = .returned (.int .i64 (K + 3 * l.length)) ∧ Own w' base 34 v (mk l.length K) ∧ w.grownBy w' v.ownBlock := by
  have hv0 := hv
  rcases hv.2 with ⟨rfl, h0⟩ | ⟨g, cap, cur, rfl, hg, hh, hnc, hm, hs, ht⟩
  · obtain rfl : l = [] := List.eq_nil_of_length_eq_zero h0
    go_enter Tryd.func27, Tryd.ntmps27
    go_wp2
    go_rounds 1
    go_ret
    exact ⟨ret_int (by simp), hv0, World.grownBy.refl w _⟩
  · have hlt : g < w.heap.size := (hv0.lt _ rfl).2
    clear hh hs ht cur
    go_enter Tryd.func27, Tryd.ntmps27
    go_wp2
    go_loopw [1, 5] (fun q i wr => ∃ k : Nat, k ≤ l.length ∧ i = .int .i64 k ∧ q = .int .i64 (K + 3 * k) ∧ Own wr base 34 (.slice (some ⟨g, 0, none⟩) l.length cap) (mk k K ++ l.drop k) ∧ w.grownBy wr (some g))
      (fun _ i _ => l.length - (intOf i).toNat)
    case atStart => exact ⟨0, Nat.zero_le _, rfl, by simp, by simpa [mk] using hv0, World.grownBy.refl w _⟩
    case round =>
      obtain ⟨k, hk, rfl, rfl, hown, hgr⟩ := hrel
      have hL : (mk k K ++ l.drop k).length = l.length := by simp [mk_length]; omega
      by_cases hk2 : k < l.length
      · unfold Own at hown
        rw [hL] at hown
        have f := fun j => hown.frozenAt j
        have c0 : ∃ u, wr.cell? ⟨g, k * 3, none⟩ = some u := by rw [hown.cellAt _ (by omega)]; exact ⟨_, List.getElem?_eq_getElem (by rw [cl_length, hL]; omega)⟩
        have c1 : ∃ u, wr.cell? ⟨g, k * 3 + 1, none⟩ = some u := by rw [hown.cellAt _ (by omega)]; exact ⟨_, List.getElem?_eq_getElem (by rw [cl_length, hL]; omega)⟩
        have c2 : ∃ u, wr.cell? ⟨g, k * 3 + 2, none⟩ = some u := by rw [hown.cellAt _ (by omega)]; exact ⟨_, List.getElem?_eq_getElem (by rw [cl_length, hL]; omega)⟩
        obtain ⟨u0, c0⟩ := c0
        obtain ⟨u1, c1⟩ := c1
        obtain ⟨u2, c2⟩ := c2
        have f0 := f (k * 3)
        have f1 := f (k * 3 + 1)
        have f2 := f (k * 3 + 2)
        have H := Lib.hid hown
        have HL := Lib.hid hL
        clear f hown hL hv hv0
        go_wp2
        go_roundw
        case rel =>
          have s1 := H.out.stored (k * 3) (.int .i64 (K + 3 * k))
          have s2 := s1.1.stored (k * 3 + 1) (.int .i64 (K + 3 * k + 1))
          have s3 := s2.1.stored (k * 3 + 2) (.int .i64 (K + 3 * k + 2))
          have k2 := s3.1
          rw [cl_set _ _ (K + 3 * k, K + 3 * k + 1, K + 3 * k + 2) (by rw [HL.out]; exact hk2), mk_set l K k hk2] at k2
          have hL' : (mk (k + 1) K ++ l.drop (k + 1)).length = l.length := by simp [mk_length]; omega
          have e2 : K + 3 * (k : Int) + 1 + 1 = K + 3 * k + 2 := by omega
          refine ⟨k + 1, by omega, by go_num, by first | go_num | (congr 1; omega), ?_, ?_⟩
          · unfold Own
            rw [hL']
            first | exact k2 | (rw [e2]; exact k2)
          · first | exact ((hgr.trans s1.2).trans s2.2).trans s3.2 | (rw [e2]; exact ((hgr.trans s1.2).trans s2.2).trans s3.2)
        case measure => simp [intOf]; omega
      · obtain rfl : k = l.length := by omega
        go_wp2
        go_ret
        exact ⟨rfl, by simpa using hown, hgr⟩

end Go.Proofs.YtkfgmkgbicahgaaDoor

namespace Go.Proofs.YtkfgmkgbicahgaaDoor
open Go.RowKit
set_option linter.unusedVariables false
set_option linter.unusedSimpArgs false

theorem wp_appN (w : World) {o : Oper} {a : Act} {K : Act → World → Prop} {Q : Exit → Act → World → Prop} (s x : Operand)
    (ho : o.op = .call { callee := .builtin .append, args := #[s, x], argTypes := #[50, 50] })
    (base : Nat) (v : Value) (xs : List Nt) (hs : a.eval s = v) (hown : Own w base 34 v xs)
    (A : Option Addr) (m c : Nat) (news : List Nt) (hx : a.eval x = .slice A m c) (hl : news.length = m) (hA : A = none → c = 0)
    (hnews : RA w A news) (hsz : xs.length + m ≤ 4000000) (hbase : base ≤ w.heap.size)
    (h : ∀ v' w', Own w' base 34 v' (xs ++ news) → w.grownBy w' v.ownBlock → K (a.put o.dst v') w') : o.wp Tryd.prog a w K Q := by
  obtain ⟨i, hi, hz, hs1, hb1⟩ := info_parts Tryd.info_Note
  refine wp_app w s x 50 ho base 34 i _ 3 24 Tryd.underlying50 hi hz hs1 hb1 rfl (by decide) v xs.length (cl xs) hs hown A m c (cl news) hx (by rw [cl_length, hl]) hA (fun j u hu => hnews.cells j u hu) (cl_one news) (by unfold maxLen; omega) (by omega) hbase ?_
  intro v' w' h1 h2 h3
  refine h v' w' ?_ h2
  unfold Own
  rw [cl_append, List.length_append, hl]
  exact h1

theorem step_appN {w : World} {ops : Array Oper} {o : Oper} {a : Act} {K : Act → World → Prop} {Q : Exit → Act → World → Prop} {E : Prop} (hgd : o.guard = none) (s x : Operand)
    (ho : o.op = .call { callee := .builtin .append, args := #[s, x], argTypes := #[50, 50] })
    (base : Nat) (v : Value) (xs : List Nt) (hs : a.eval s = v) (hown : Own w base 34 v xs)
    (A : Option Addr) (m c : Nat) (news : List Nt) (hx : a.eval x = .slice A m c) (hl : news.length = m) (hA : A = none → c = 0)
    (hnews : RA w A news) (hsz : xs.length + m ≤ 4000000) (hbase : base ≤ w.heap.size)
    (h : ∀ v' w', Own w' base 34 v' (xs ++ news) → w.grownBy w' v.ownBlock → K (a.put o.dst v') w') :
    if Region.wanted o (yielded ops a.tmps) = true then Oper.wp Tryd.prog o a w K Q else E := by
  have hw : Region.wanted o (yielded ops a.tmps) = true := by simp [Region.wanted, hgd]
  rw [if_pos hw]
  exact wp_appN w s x ho base v xs hs hown A m c news hx hl hA hnews hsz hbase h

theorem wpList_appN (w : World) {ops : Array Oper} {rest : List Oper} {o : Oper} {a : Act} {Q : Exit → Act → World → Prop} (hgd : o.guard = none) (s x : Operand)
    (ho : o.op = .call { callee := .builtin .append, args := #[s, x], argTypes := #[50, 50] })
    (base : Nat) (v : Value) (xs : List Nt) (hs : a.eval s = v) (hown : Own w base 34 v xs)
    (A : Option Addr) (m c : Nat) (news : List Nt) (hx : a.eval x = .slice A m c) (hl : news.length = m) (hA : A = none → c = 0)
    (hnews : RA w A news) (hsz : xs.length + m ≤ 4000000) (hbase : base ≤ w.heap.size)
    (h : ∀ v' w', Own w' base 34 v' (xs ++ news) → w.grownBy w' v.ownBlock → wpList Tryd.prog ops Q rest (a.put o.dst v') w') : wpList Tryd.prog ops Q (o :: rest) a w :=
  wpList_plain hgd fun _ hK => wp_appN w s x ho base v xs hs hown A m c news hx hl hA hnews hsz hbase fun v' w' h2 h3 => hK _ _ (h v' w' h2 h3)
end Go.Proofs.YtkfgmkgbicahgaaDoor

namespace Go.Proofs.YtkfgmkgbicahgaaDoor
open Go.RowKit Go.Sort
set_option linter.unusedVariables false
set_option linter.unusedSimpArgs false

set_option maxRecDepth 100000 in
set_option maxHeartbeats 1000000 in
theorem inLast_any (A : Option Addr) (l : List Nt) (c : Nat) (i : Nat) (x : Nt) (w : World) (hn : l.length ≤ 1048576) (hA : RA w A l) (hx : l[i]? = some x) :
    Calls Tryd.prog 98 #[.slice A l.length c, .int .i64 (i : Int)] w fun e w' => e = .returned (.int .i64 (lastIx x.1 l i)) ∧ Below w.heap.size w w' := by
  have hil := (List.getElem?_eq_some_iff.1 hx).1
  obtain ⟨p, s, n⟩ := x
  obtain ⟨g, o, rfl, hg, x0, x1, x2⟩ := hA i _ hx
  simp only at x0 x1 x2
  have i1 : (0 : Int) ≤ (i : Int) := by omega
  have i2 : (i : Int) < (l.length : Int) := by omega
  have hw : IntKind.i64.wrap ((i : Int) - 1) = (i : Int) - 1 := IntWalk.i64_in _ (by omega)
  clear x1 x2
  have HX := Lib.hid hx
  clear hx
  go_enter Tryd.func98, Tryd.ntmps98
  go_wp2
  go_loopw [5] (fun j wr => ∃ m : Nat, m ≤ i ∧ j = .int .i64 ((m : Int) - 1) ∧ lastIx p l i = lastIx p l m ∧ Below w.heap.size w wr)
    (fun j _ => (intOf j + 1).toNat)
  case atStart => exact ⟨i, Nat.le_refl _, rfl, rfl, Below.refl _ _⟩
  case round =>
    obtain ⟨m, hm, rfl, hl, hb⟩ := hrel
    have HL := Lib.hid hl
    clear hl
    rcases Nat.eq_zero_or_pos m with hm0 | hm0
    · subst hm0
      have hd : ¬ ((0 : Int) ≤ ((0 : Nat) : Int) - 1) := by omega
      go_wp2
      go_ret
      exact ⟨ret_int (by rw [HL.out]; rfl), hb⟩
    · have hy : l[m - 1]? = some l[m - 1] := List.getElem?_eq_getElem (by omega)
      generalize l[m - 1] = y at hy
      obtain ⟨py, sy, ny⟩ := y
      obtain ⟨g2, o2, hgo, hg2, y0, y1, y2⟩ := (hA.below hb) (m - 1) _ hy
      simp only [Option.some.injEq, Addr.mk.injEq, and_true] at hgo
      obtain ⟨rfl, rfl⟩ := hgo
      simp only at y0 y1 y2
      have xr := (hb.cell (p := ⟨g, o + i * 3, none⟩) hg).trans x0
      have hmm : ((m : Int) - 1) = ((m - 1 : Nat) : Int) := by omega
      have j1 : (0 : Int) ≤ ((m - 1 : Nat) : Int) := by omega
      have j2 : ((m - 1 : Nat) : Int) < (l.length : Int) := by omega
      have hs := lastIx_succ (p := p) hy
      rw [show m - 1 + 1 = m by omega] at hs
      have HS := Lib.hid hs
      have HM := Lib.hid hmm
      have hM := hm0
      rw [hmm]
      generalize hk : m - 1 = k at *
      have HK := Lib.hid hk
      clear hs hmm hy y1 y2 x0 hA hk
      have hwk : IntKind.i64.wrap ((k : Int) - 1) = (k : Int) - 1 := IntWalk.i64_in _ (by omega)
      by_cases he : py = p
      · have hbe : (py == p) = true := by simp [he]
        go_wp2_with fail
        go_region
        all_goals
          go_wp2
          go_ret
          exact ⟨ret_int (by rw [HL.out, HS.out]; simp [he]), hb.drew⟩
      · have hbe : (py == p) = false := by simp [he]
        go_wp2_with fail
        go_region
        all_goals
          go_wp2
          go_roundw
          case rel => exact ⟨k, by have := HK.out; omega, by go_num, by rw [HL.out, HS.out]; simp [he], hb.drew⟩
          case measure => simp [intOf]
end Go.Proofs.YtkfgmkgbicahgaaDoor
