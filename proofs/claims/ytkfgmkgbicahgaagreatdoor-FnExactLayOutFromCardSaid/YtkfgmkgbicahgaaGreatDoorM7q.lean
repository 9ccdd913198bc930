/- Texts of the proof, run together: HLen, HOrd, Last, LayP, LimR, Mark, NtGood, OpenV. -/
import Derived.Test.YtkfgmkgbicahgaaGreatDoorM5q
import Derived.Test.YtkfgmkgbicahgaaGreatDoorM6q
import Derived.Shelf.SlSortCmp.NoneTotal
import Derived.Test.YtkfgmkgbicahgaaGreatDoorM4q
import Derived.Lib.QuietBelow
import Derived.Test.YtkfgmkgbicahgaaGreatDoorM2q
import Derived.Test.YtkfgmkgbicahgaaGreatDoorM1q
import Derived.LaidMore
import Derived.OpenShut
import Derived.ChangeVars
import Derived.Lib.LaidU8
import Derived.Stop.Joined
import Derived.ProofKit
import Derived.Lib.SmallJoins
import Derived.Deep.Slices
import Derived.Deep.Fields
import Derived.ChangeSame
import Derived.Test.YtkfgmkgbicahgaaGreatDoorM3q
namespace Go.Proofs.YtkfgmkgbicahgaaGreatDoor.H
open Go.RowKit
set_option linter.unusedVariables false
set_option linter.unusedSimpArgs false

def endOf (l : List Nt) : Int := l.foldl (fun a x => mxI a x.2.2) 0
theorem endOf_snoc (l : List Nt) (k : Nat) (x : Nt) (h : l[k]? = some x) : endOf (l.take (k + 1)) = mxI (endOf (l.take k)) x.2.2 := by
  unfold endOf; rw [List.take_add_one, h, Option.toList_some, List.foldl_append]; rfl

end Go.Proofs.YtkfgmkgbicahgaaGreatDoor.H

namespace Go.Proofs.YtkfgmkgbicahgaaGreatDoor.H
open Go.RowKit Go.Sort Go.Shelf
set_option linter.unusedVariables false
set_option linter.unusedSimpArgs false

theorem sortN_none (p : Option Addr) (cap : Nat) (fv : Value) (w : World) :
    Calls Tryz.prog 71 #[.slice p 0 cap, fv] w fun e w' => e = .returned (.tuple #[]) ∧ w' = w :=
  AnyF.slices_SortFunc_none Tryz.sortNotesF p cap fv w
theorem canon_nil : canon [] = [] := List.eq_nil_of_length_eq_zero (by rw [canon_length]; rfl)
theorem goodB_nil : goodB [] = true := rfl

set_option maxRecDepth 100000 in
set_option maxHeartbeats 2000000 in
theorem ordered_any (v : Value) (zs : List Nt) (base : Nat) (w : World) (hn : zs.length ≤ 1000000) (hv : Own w base 54 v zs) (hbase : base ≤ w.heap.size) :
    Calls Tryz.prog 56 #[v] w fun e w' => ∃ u, e = .returned (.tuple #[u, .bool (goodB (canon zs))]) ∧ Own w' base 54 u (if goodB (canon zs) = true then canon zs else []) ∧ Below base w w' := by
  have hv0 := hv
  rcases hv.2 with ⟨rfl, h0⟩ | ⟨g, cap, cur, rfl, hg, hh, hnc, hm, hs, ht⟩
  · obtain rfl : zs = [] := List.eq_nil_of_length_eq_zero h0
    rw [canon_nil, goodB_nil]
    have HQ := isSheet_quick none [] 0 true (by simp) goodB_nil
    have HR : Hid (∀ W, RA W none []) := Lib.hid fun W => RA.nil W none
    go_enter Tryz.func56, Tryz.ntmps56
    go_wp2_with (first
      | (go_at_call 71; refine (sortN_none _ _ _ _).mono ?_; rintro e w1 ⟨rfl, rfl⟩)
      | (go_at_call 54; refine (HQ.out _ (HR.out _)).mono ?_; rintro e w2 ⟨rfl, hb2⟩))
    go_ret2
    exact ⟨_, rfl, by simpa using Own.nil _ _ _, hb2.mono hbase⟩
  · clear hh hnc hm hs ht
    have HV := Lib.hid hv0
    have HN := Lib.hid hn
    clear hv hv0
    cases hgb : goodB (canon zs) with
    | false =>
      go_enter Tryz.func56, Tryz.ntmps56
      go_wp2_with (first
        | (go_at_call 71; refine (sortN_any _ _ zs base _ hn HV.out).mono ?_; rintro e w1 ⟨rfl, ys, hp, hs, ho1, hg1⟩; obtain ⟨hc1, hc2⟩ := canon_good hp hs; rw [hgb] at hc1; have HQ := isSheet_quick (some ⟨g, 0, none⟩) ys cap false (by rw [hp.length_eq]; omega) hc1; have HLE := hp.length_eq; rw [← HLE]; have HO1 := Lib.hid ho1; have HB1 := Lib.hid ((Below.refl base w).grown hg1 hbase (fun j hj => by have := Option.some.inj hj; omega)); clear HLE hc1 hc2 hp hs ho1 hg1)
        | (go_at_call 54; refine (HQ.out _ HO1.out.ra).mono ?_; rintro e w2 ⟨rfl, hb2⟩))
      go_ret2
      exact ⟨_, rfl, by simpa using Own.nil _ _ _, HB1.out.trans (hb2.mono (Nat.le_trans hbase HB1.out.size))⟩
    | true =>
      go_enter Tryz.func56, Tryz.ntmps56
      go_wp2_with (first
        | (go_at_call 71; refine (sortN_any _ _ zs base _ hn HV.out).mono ?_; rintro e w1 ⟨rfl, ys, hp, hs, ho1, hg1⟩; obtain ⟨hc1, hc2⟩ := canon_good hp hs; rw [hgb] at hc1 hc2; rw [hc1, if_pos rfl, if_pos rfl] at hc2; have HC2 := Lib.hid hc2; have HQ := isSheet_quick (some ⟨g, 0, none⟩) ys cap true (by rw [hp.length_eq]; omega) hc1; have HLE := hp.length_eq; rw [← HLE] at ho1 ⊢; have HO1 := Lib.hid ho1; have HB1 := Lib.hid ((Below.refl base w).grown hg1 hbase (fun j hj => by have := Option.some.inj hj; omega)); clear hc2 HLE hc1 hp hs ho1 hg1)
        | (go_at_call 54; refine (HQ.out _ HO1.out.ra).mono ?_; rintro e w2 ⟨rfl, hb2⟩))
      go_ret2
      refine ⟨_, rfl, by simpa [← HC2.out] using HO1.out.below hb2 (Nat.le_refl _), HB1.out.trans (hb2.mono (Nat.le_trans hbase HB1.out.size))⟩
end Go.Proofs.YtkfgmkgbicahgaaGreatDoor.H

namespace Go.Proofs.YtkfgmkgbicahgaaGreatDoor
open Go.RowKit Go.Sort
set_option linter.unusedVariables false
set_option linter.unusedSimpArgs false

set_option maxRecDepth 100000 in
set_option maxHeartbeats 1000000 in
theorem inLast_any (A : Option Addr) (l : List Nt) (c : Nat) (i : Nat) (x : Nt) (w : World) (hn : l.length ≤ 1048576) (hA : RA w A l) (hx : l[i]? = some x) :
    Calls Tryz.prog 59 #[.slice A l.length c, .int .i64 (i : Int)] w fun e w' => e = .returned (.int .i64 (lastIx x.1 l i)) ∧ Below w.heap.size w w' := by
  have hil := (List.getElem?_eq_some_iff.1 hx).1
  obtain ⟨p, s, n⟩ := x
  obtain ⟨g, o, rfl, hg, x0, x1, x2⟩ := hA i _ hx
  simp only at x0 x1 x2
  have i1 : (0 : Int) ≤ (i : Int) := by omega
  have i2 : (i : Int) < (l.length : Int) := by omega
  have hw : IntKind.i64.wrap ((i : Int) - 1) = (i : Int) - 1 := IntWalk.i64_in _ (by omega)
  clear x1 x2
  have HX := Lib.hid hx
  clear hx
  go_enter Tryz.func59, Tryz.ntmps59
  go_wp2
  go_loopw [5] (fun j wr => ∃ m : Nat, m ≤ i ∧ j = .int .i64 ((m : Int) - 1) ∧ lastIx p l i = lastIx p l m ∧ Below w.heap.size w wr)
    (fun j _ => (intOf j + 1).toNat)
  case atStart => exact ⟨i, Nat.le_refl _, rfl, rfl, Below.refl _ _⟩
  case round =>
    obtain ⟨m, hm, rfl, hl, hb⟩ := hrel
    have HL := Lib.hid hl
    clear hl
    rcases Nat.eq_zero_or_pos m with hm0 | hm0
    · subst hm0
      have hd : ¬ ((0 : Int) ≤ ((0 : Nat) : Int) - 1) := by omega
      go_wp2
      go_ret
      exact ⟨ret_int (by rw [HL.out]; rfl), hb⟩
    · have hy : l[m - 1]? = some l[m - 1] := List.getElem?_eq_getElem (by omega)
      generalize l[m - 1] = y at hy
      obtain ⟨py, sy, ny⟩ := y
      obtain ⟨g2, o2, hgo, hg2, y0, y1, y2⟩ := (hA.below hb) (m - 1) _ hy
      simp only [Option.some.injEq, Addr.mk.injEq, and_true] at hgo
      obtain ⟨rfl, rfl⟩ := hgo
      simp only at y0 y1 y2
      have xr := (hb.cell (p := ⟨g, o + i * 3, none⟩) hg).trans x0
      have hmm : ((m : Int) - 1) = ((m - 1 : Nat) : Int) := by omega
      have j1 : (0 : Int) ≤ ((m - 1 : Nat) : Int) := by omega
      have j2 : ((m - 1 : Nat) : Int) < (l.length : Int) := by omega
      have hs := lastIx_succ (p := p) hy
      rw [show m - 1 + 1 = m by omega] at hs
      have HS := Lib.hid hs
      have HM := Lib.hid hmm
      have hM := hm0
      rw [hmm]
      generalize hk : m - 1 = k at *
      have HK := Lib.hid hk
      clear hs hmm hy y1 y2 x0 hA hk
      have hwk : IntKind.i64.wrap ((k : Int) - 1) = (k : Int) - 1 := IntWalk.i64_in _ (by omega)
      by_cases he : py = p
      · have hbe : (py == p) = true := by simp [he]
        go_wp2_with fail
        go_region
        all_goals
          go_wp2
          go_ret
          exact ⟨ret_int (by rw [HL.out, HS.out]; simp [he]), hb.drew⟩
      · have hbe : (py == p) = false := by simp [he]
        go_wp2_with fail
        go_region
        all_goals
          go_wp2
          go_roundw
          case rel => exact ⟨k, by have := HK.out; omega, by go_num, by rw [HL.out, HS.out]; simp [he], hb.drew⟩
          case measure => simp [intOf]
end Go.Proofs.YtkfgmkgbicahgaaGreatDoor

namespace Go.Proofs.YtkfgmkgbicahgaaGreatDoor
set_option linter.unusedVariables false

/-- The hole of a note. -/
def holeN (P : List Int) (x : Nt) : Nt := (trk x.1 P, 2 * x.2.1, 2 * (x.2.1 + x.2.2) - 1)
/-- The note of a hole. -/
def noteOf (P : List Int) (h : Nt) : Nt := (P.getD h.1.toNat 0, h.2.1 / 2, (h.2.2 + 1) / 2 - h.2.1 / 2)
/-- A valid hole is that of a note. -/
def isOf (P : List Int) (h : Nt) : Bool := decide (h.1 < (P.length : Int)) && (decide (h.2.1 % 2 = 0) && (decide (h.2.2 % 2 = 1) && noteN (noteOf P h)))
theorem isOf_iff (P : List Int) (h : Nt) : isOf P h = true ↔ h.1 < (P.length : Int) ∧ h.2.1 % 2 = 0 ∧ h.2.2 % 2 = 1 ∧ noteN (noteOf P h) = true := by simp [isOf]

theorem trkF_get (p : Int) : ∀ (l : List Int) (k : Int), p ∈ l → l[(trkF p l k - k).toNat]? = some p
  | [], _, h => by cases h
  | x :: l, k, h => by
    unfold trkF
    by_cases hx : x = p
    · rw [if_pos hx, Int.sub_self]; simp [hx]
    · rw [if_neg hx]
      have hm : p ∈ l := by
        rcases List.mem_cons.1 h with h | h
        · exact absurd h.symm hx
        · exact h
      have ih := trkF_get p l (k + 1) hm
      have hge : k + 1 ≤ trkF p l (k + 1) := by
        have : ∀ (l : List Int) (k : Int), p ∈ l → k ≤ trkF p l k := by
          intro l
          induction l with
          | nil => intro k h; cases h
          | cons y l ih =>
            intro k h
            unfold trkF
            by_cases hy : y = p
            · rw [if_pos hy]; exact Int.le_refl _
            · rw [if_neg hy]
              rcases List.mem_cons.1 h with h | h
              · exact absurd h.symm hy
              · have := ih (k + 1) h; omega
        exact this l (k + 1) hm
      have e : (trkF p l (k + 1) - k).toNat = (trkF p l (k + 1) - (k + 1)).toNat + 1 := by omega
      rw [e, List.getElem?_cons_succ]
      exact ih
theorem trk_get {p : Int} {P : List Int} (h : p ∈ P) : P[(trk p P).toNat]? = some p ∧ 0 ≤ trk p P ∧ trk p P < P.length := by
  have h1 := trkF_get p P 0 h
  rw [Int.sub_zero] at h1
  have h2 := trk_lt p P
  have h3 : ¬ trk p P < 0 := fun h' => (trk_neg p P).1 h' h
  exact ⟨h1, by omega, h2.1⟩
theorem inc_get {P : List Int} (hi : P.Pairwise (fun a b : Int => a < b)) {i j : Nat} {a b : Int} (ha : P[i]? = some a) (hb : P[j]? = some b) : i < j ↔ a < b := by
  obtain ⟨hi1, rfl⟩ := List.getElem?_eq_some_iff.1 ha
  obtain ⟨hj1, rfl⟩ := List.getElem?_eq_some_iff.1 hb
  have hp := List.pairwise_iff_getElem.1 hi
  constructor
  · exact fun h => hp i j hi1 hj1 h
  · intro h
    rcases Nat.lt_trichotomy i j with h' | h' | h'
    · exact h'
    · subst h'; exact absurd h (Int.lt_irrefl _)
    · have := hp j i hj1 hi1 h'; omega
theorem trk_mono {P : List Int} (hi : P.Pairwise (fun a b : Int => a < b)) {a b : Int} (ha : a ∈ P) (hb : b ∈ P) : trk a P < trk b P ↔ a < b := by
  obtain ⟨a1, a2, a3⟩ := trk_get ha
  obtain ⟨b1, b2, b3⟩ := trk_get hb
  rw [← inc_get hi a1 b1]
  omega
theorem trk_inj {P : List Int} {a b : Int} (ha : a ∈ P) (hb : b ∈ P) (h : trk a P = trk b P) : a = b := by
  have h1 := (trk_get ha).1
  rw [h, (trk_get hb).1] at h1
  injection h1 with h1
  exact h1.symm

theorem Good.validN {l : List Nt} (h : Good l) (x : Nt) (hx : x ∈ l) : noteN x = true := by
  obtain ⟨i, hi⟩ := List.mem_iff_getElem?.1 hx
  exact (h.1 i x (List.getElem?_eq_some_iff.1 hi).1 hi).1

theorem holeN_srt {P : List Int} {m : List Nt} (hi : P.Pairwise (fun a b : Int => a < b)) (hm : ∀ x ∈ m, x.1 ∈ P) (hg : Good m) : Srt (m.map (holeN P)) := by
  unfold Srt
  rw [List.pairwise_map, List.pairwise_iff_getElem]
  intro i j hi' hj hij
  have hb := (befN_iff _ _).1 (hg.bef j i _ _ hij (List.getElem?_eq_getElem hi') (List.getElem?_eq_getElem hj))
  rw [befN_false]
  simp only [holeN]
  have h1 := hm _ (List.getElem_mem hi')
  have h2 := hm _ (List.getElem_mem hj)
  have h3 := trk_mono hi h1 h2
  omega
theorem holeN_apart {P : List Int} {m : List Nt} (hm : ∀ x ∈ m, x.1 ∈ P) (hg : Good m) : (m.map (holeN P)).Pairwise H.apart := by
  rw [List.pairwise_map, List.pairwise_iff_getElem]
  intro i j hi' hj hij h
  obtain ⟨h1, h2, h3⟩ := h
  simp only [holeN] at h1 h2 h3
  have e := trk_inj (hm _ (List.getElem_mem hi')) (hm _ (List.getElem_mem hj)) h1
  have hq := (hg.1 j _ hj (List.getElem?_eq_getElem hj)).2.2 i _ hij (List.getElem?_eq_getElem hi')
  have : meetN m[j] m[i] = true := by
    rw [meetN_iff]
    exact ⟨e.symm, by omega, by omega⟩
  rw [hq] at this
  cases this
/-- The holes of a score are a sheet, if each is a hole. -/
theorem lay_good {P : List Int} {m : List Nt} (hi : P.Pairwise (fun a b : Int => a < b)) (hm : ∀ x ∈ m, x.1 ∈ P) (hg : Good m) (hv : ∀ x ∈ m, H.noteN (holeN P x) = true) : H.Good (m.map (holeN P)) := by
  refine H.good_of_srt (holeN_srt hi hm hg) ?_ (holeN_apart hm hg) ?_
  · intro x hx
    obtain ⟨y, hy, rfl⟩ := List.mem_map.1 hx
    exact hv y hy
  · have := hg.2
    simp
    omega
/-- Put in order, moved holes of a score are what they are. -/
theorem lay_canon {P : List Int} {m : List Nt} (b : Int) (hi : P.Pairwise (fun a b : Int => a < b)) (hm : ∀ x ∈ m, x.1 ∈ P) (hg : Good m) :
    H.goodB (canon ((m.map (holeN P)).map (H.moveN b))) = H.goodB ((m.map (holeN P)).map (H.moveN b)) ∧ (if H.goodB (canon ((m.map (holeN P)).map (H.moveN b))) = true then canon ((m.map (holeN P)).map (H.moveN b)) else []) = (if H.goodB ((m.map (holeN P)).map (H.moveN b)) = true then ((m.map (holeN P)).map (H.moveN b)) else []) :=
  H.canon_same (H.moved_srt b (holeN_srt hi hm hg))
theorem move_zero (l : List Nt) : l.map (H.moveN 0) = l := by
  have : H.moveN 0 = id := by funext x; obtain ⟨a, b, c⟩ := x; simp [H.moveN]
  rw [this, List.map_id]

theorem getD_of {P : List Int} {i : Nat} (h : i < P.length) : P[i]? = some (P.getD i 0) := by
  rw [List.getElem?_eq_getElem h, List.getD_eq_getElem?_getD, List.getElem?_eq_getElem h]; rfl
/-- The notes of a sheet's holes are in order. -/
theorem noteOf_srt {P : List Int} {s : List Nt} (hi : P.Pairwise (fun a b : Int => a < b)) (hs : H.Good s) (ho : ∀ x ∈ s, isOf P x = true) : Srt (s.map (noteOf P)) := by
  unfold Srt
  have hb := hs.srt
  have hv : ∀ x ∈ s, _ := fun x hx => (H.noteN_iff x).1 (hs.valid x hx)
  rw [List.pairwise_map]
  rw [List.pairwise_iff_getElem]
  intro i j hi' hj hij
  have hbe := (befN_iff _ _).1 (hs.bef j i _ _ hij (List.getElem?_eq_getElem hi') (List.getElem?_eq_getElem hj))
  have v1 := hv _ (List.getElem_mem hi')
  have v2 := hv _ (List.getElem_mem hj)
  have o1 := (isOf_iff P _).1 (ho _ (List.getElem_mem hi'))
  have o2 := (isOf_iff P _).1 (ho _ (List.getElem_mem hj))
  rw [befN_false]
  simp only [noteOf]
  generalize s[i] = x at *
  generalize s[j] = y at *
  have g1 := getD_of (P := P) (i := x.1.toNat) (by omega)
  have g2 := getD_of (P := P) (i := y.1.toNat) (by omega)
  have g3 := inc_get hi g1 g2
  generalize P.getD x.1.toNat 0 = a at *
  generalize P.getD y.1.toNat 0 = b at *
  omega
/-- The hole of a hole's note is that hole, exactly if it is that of a note. -/
theorem holeN_noteOf {P : List Int} {h : Nt} (hi : P.Pairwise (fun a b : Int => a < b)) (hv : H.noteN h = true) (hl : h.1 < (P.length : Int)) :
    (holeN P (P.getD h.1.toNat 0, h.2.1 / 2, (h.2.2 - h.2.1 + 1) / 2) = h) ↔ (h.2.1 % 2 = 0 ∧ h.2.2 % 2 = 1) := by
  have v := (H.noteN_iff h).1 hv
  have g1 := getD_of (P := P) (i := h.1.toNat) (by omega)
  have hmem : P.getD h.1.toNat 0 ∈ P := List.mem_iff_getElem?.2 ⟨_, g1⟩
  have g2 := trk_get hmem
  have e : trk (P.getD h.1.toNat 0) P = h.1 := by
    have a := inc_get hi g1 g2.1
    have b := inc_get hi g2.1 g1
    have c : ¬ (P.getD h.1.toNat 0 < P.getD h.1.toNat 0) := Int.lt_irrefl _
    omega
  obtain ⟨t, f, u⟩ := h
  simp only [holeN, Prod.mk.injEq] at *
  rw [e]
  simp only [true_and]
  omega
theorem half_same {h : Nt} (h1 : h.2.1 % 2 = 0) (h2 : h.2.2 % 2 = 1) : (h.2.2 - h.2.1 + 1) / 2 = (h.2.2 + 1) / 2 - h.2.1 / 2 := by omega
end Go.Proofs.YtkfgmkgbicahgaaGreatDoor

namespace Go.Proofs.YtkfgmkgbicahgaaGreatDoor
open Go.ChangeShapes Go.WideShapes Go.ChangeAt Go.RowKit Go.Sort Go.Deep
set_option linter.unusedVariables false

theorem gLim : Tryz.prog.globalNamed "loop.example/g00949/impl.instrumentLimits" = some 0 := by kernel_rfl
theorem tLim : (Tryz.prog.globals[0]?).map (·.type) = some 112 := by kernel_rfl
theorem cLim : Tryz.prog.cellsOf 111 = 2 := by kernel_rfl
theorem cIntV : Tryz.prog.cellsOf 3 = 1 := by kernel_rfl
theorem datum_lim {H : Type} : (Rows.laid_loop_example_g00949_impl_instrumentLimits : DataW H) = .agg [.agg [.lit (.int .i64 1), .lit (.int .i64 20)], .agg [.lit (.int .i64 1), .lit (.int .i64 20)]] := rfl

theorem four_of {α : Type} {l : List α} (h : l.length = 4) : ∃ a b c d, l = [a, b, c, d] := by
  match l, h with
  | [a, b, c, d], _ => exact ⟨a, b, c, d, rfl⟩
theorem two_of {α : Type} {l : List α} (h : l.length = 2) : ∃ a b, l = [a, b] := by
  match l, h with
  | [a, b], _ => exact ⟨a, b, rfl⟩

set_option maxRecDepth 100000 in
theorem lim_of_reads {W : World} (h : Lib.VarReads Tryz.prog W "loop.example/g00949/impl.instrumentLimits" Rows.laid_loop_example_g00949_impl_instrumentLimits) : Lim W := by
  obtain ⟨g, t, cs, fuel, p, hg, ht, hv, hd⟩ := h
  obtain rfl := Option.some.inj (gLim.symm.trans hg)
  obtain rfl := Option.some.inj (tLim.symm.trans ht)
  have hc := fun r => World.var?_cell hg hv r
  generalize hD : (Rows.laid_loop_example_g00949_impl_instrumentLimits : DataW Unit) = D at hd
  rw [datum_lim] at hD
  obtain ⟨xs, m1, rfl, hx1, hlen, hn, hel⟩ := DataW.trod_array Tryz.underlying112 hd
  subst hD
  have h4 : cs.toList.length = 4 := hlen.trans (by kernel_rfl)
  obtain ⟨c0, c1, c2, c3, hcs⟩ := four_of h4
  obtain ⟨x0, x1, rfl⟩ := two_of hn
  have h0 := hel 0 (by omega)
  have h1 := hel 1 (by omega)
  rw [cLim, hcs] at h0 h1
  obtain ⟨y0, y1, n, e1, e2, e3, e4⟩ := trod_struct2 Tryz.underlying111 (h0.trans rfl)
  obtain ⟨z0, z1, n', k1, k2, k3, k4⟩ := trod_struct2 Tryz.underlying111 (h1.trans rfl)
  simp only [cIntV] at e3 e4 k3 k4
  obtain ⟨a0, p0, q0, _⟩ := DataW.trod_int Tryz.underlying3 (e3.trans rfl)
  obtain ⟨a1, p1, q1, _⟩ := DataW.trod_int Tryz.underlying3 (e4.trans rfl)
  obtain ⟨a2, p2, q2, _⟩ := DataW.trod_int Tryz.underlying3 (k3.trans rfl)
  obtain ⟨a3, p3, q3, _⟩ := DataW.trod_int Tryz.underlying3 (k4.trans rfl)
  simp at p0 p1 p2 p3
  simp only [Prod.mk.injEq, DataW.agg.injEq, List.map_cons, List.map_nil, List.cons.injEq, and_true] at hx1
  rw [e1, k1] at hx1
  simp only [DataW.agg.injEq, List.cons.injEq, and_true] at hx1
  rw [q0, q1, q2, q3] at hx1
  simp at hx1
  obtain ⟨⟨⟨rfl, rfl⟩, rfl, rfl⟩, _⟩ := hx1
  have hr : ∀ r v, [c0, c1, c2, c3][r]? = some v → W.cell? ⟨0, r, none⟩ = some v := fun r v h => by
    rw [hc r, ← Array.getElem?_toList, hcs]; exact h
  have w0 := hr 0 _ rfl
  refine ⟨hr 0 _ ?_, hr 1 _ ?_, hr 2 _ ?_, hr 3 _ ?_, World.block_lt_of_cell? W _ w0⟩
  · rw [p0]; rfl
  · rw [p1]; rfl
  · rw [p2]; rfl
  · rw [p3]; rfl
end Go.Proofs.YtkfgmkgbicahgaaGreatDoor

namespace Go.Proofs.YtkfgmkgbicahgaaGreatDoor
open Go.RowKit
set_option linter.unusedVariables false


set_option maxRecDepth 100000 in
set_option maxHeartbeats 1000000 in
theorem markIns_any (A : Option Addr) (l : List Int) (c : Nat) (r K : Int) (base : Nat) (w : World) (hn : l.length ≤ 1048576) (hK : 0 ≤ K) (hK' : K ≤ 1048576) (hv : OwnI w base 3 (.slice A l.length c) l) :
    Calls Tryz.prog 13 #[.agg #[.slice A l.length c, .int .i64 r], .int .i64 K] w fun e w' => e = .returned (.int .i64 (K + l.length)) ∧ OwnI w' base 3 (.slice A l.length c) (mki l.length K) ∧ w.grownBy w' (Value.slice A l.length c).ownBlock := by
  have hg0 := World.grownBy_alloc w (.cells #[.slice A l.length c, .int .i64 r] 31) (Value.slice A l.length c).ownBlock
  have hv0 : OwnI (w.alloc (.cells #[.slice A l.length c, .int .i64 r] 31)) base 3 (.slice A l.length c) l := hv.below ((Below.refl _ _).alloc (Nat.le_refl _) _) (Nat.le_refl _)
  go_enter Tryz.func13, Tryz.ntmps13
  go_wp2_with fail
  generalize w.alloc (.cells #[.slice A l.length c, .int .i64 r] 31) = W at *
  refine (markIntS_any _ _ _ _ _ hn hK hK' hv0).mono ?_
  rintro e w1 ⟨rfl, hv1, hg1⟩
  go_wp2
  go_ret
  exact ⟨rfl, hv1, hg0.trans hg1⟩

set_option maxRecDepth 100000 in
set_option maxHeartbeats 1000000 in
theorem markNoteS_wide (v : Value) (l : List Nt) (K : Int) (base : Nat) (w : World) (hn : l.length ≤ 1048576) (hK : 0 ≤ K) (hK' : K ≤ 2097152) (hv : Own w base 47 v l) :
    Calls Tryz.prog 14 #[v, .int .i64 K] w fun e w' => e = .returned (.int .i64 (K + 3 * l.length)) ∧ Own w' base 47 v (mk l.length K) ∧ w.grownBy w' v.ownBlock := by
  have hv0 := hv
  rcases hv.2 with ⟨rfl, h0⟩ | ⟨g, cap, cur, rfl, hg, hh, hnc, hm, hs, ht⟩
  · obtain rfl : l = [] := List.eq_nil_of_length_eq_zero h0
    go_enter Tryz.func14, Tryz.ntmps14
    go_wp2
    go_rounds 1
    go_ret
    exact ⟨ret_int (by simp), hv0, World.grownBy.refl w _⟩
  · have hlt : g < w.heap.size := (hv0.lt _ rfl).2
    clear hh hs ht cur
    go_enter Tryz.func14, Tryz.ntmps14
    go_wp2
    go_loopw [1, 5] (fun q i wr => ∃ k : Nat, k ≤ l.length ∧ i = .int .i64 k ∧ q = .int .i64 (K + 3 * k) ∧ Own wr base 47 (.slice (some ⟨g, 0, none⟩) l.length cap) (mk k K ++ l.drop k) ∧ w.grownBy wr (some g))
      (fun _ i _ => l.length - (intOf i).toNat)
    case atStart => exact ⟨0, Nat.zero_le _, rfl, by simp, by simpa [mk] using hv0, World.grownBy.refl w _⟩
    case round =>
      obtain ⟨k, hk, rfl, rfl, hown, hgr⟩ := hrel
      have hL : (mk k K ++ l.drop k).length = l.length := by simp [mk_length]; omega
      by_cases hk2 : k < l.length
      · unfold Own at hown
        rw [hL] at hown
        have f := fun j => hown.frozenAt j
        have c0 : ∃ u, wr.cell? ⟨g, k * 3, none⟩ = some u := by rw [hown.cellAt _ (by omega)]; exact ⟨_, List.getElem?_eq_getElem (by rw [cl_length, hL]; omega)⟩
        have c1 : ∃ u, wr.cell? ⟨g, k * 3 + 1, none⟩ = some u := by rw [hown.cellAt _ (by omega)]; exact ⟨_, List.getElem?_eq_getElem (by rw [cl_length, hL]; omega)⟩
        have c2 : ∃ u, wr.cell? ⟨g, k * 3 + 2, none⟩ = some u := by rw [hown.cellAt _ (by omega)]; exact ⟨_, List.getElem?_eq_getElem (by rw [cl_length, hL]; omega)⟩
        obtain ⟨u0, c0⟩ := c0
        obtain ⟨u1, c1⟩ := c1
        obtain ⟨u2, c2⟩ := c2
        have f0 := f (k * 3)
        have f1 := f (k * 3 + 1)
        have f2 := f (k * 3 + 2)
        have H := Lib.hid hown
        have HL := Lib.hid hL
        clear f hown hL hv hv0
        go_wp2
        go_roundw
        case rel =>
          have s1 := H.out.stored (k * 3) (.int .i64 (K + 3 * k))
          have s2 := s1.1.stored (k * 3 + 1) (.int .i64 (K + 3 * k + 1))
          have s3 := s2.1.stored (k * 3 + 2) (.int .i64 (K + 3 * k + 2))
          have k2 := s3.1
          rw [cl_set _ _ (K + 3 * k, K + 3 * k + 1, K + 3 * k + 2) (by rw [HL.out]; exact hk2), mk_set l K k hk2] at k2
          have hL' : (mk (k + 1) K ++ l.drop (k + 1)).length = l.length := by simp [mk_length]; omega
          have e2 : K + 3 * (k : Int) + 1 + 1 = K + 3 * k + 2 := by omega
          refine ⟨k + 1, by omega, by go_num, by first | go_num | (congr 1; omega), ?_, ?_⟩
          · unfold Own
            rw [hL']
            first | exact k2 | (rw [e2]; exact k2)
          · first | exact ((hgr.trans s1.2).trans s2.2).trans s3.2 | (rw [e2]; exact ((hgr.trans s1.2).trans s2.2).trans s3.2)
        case measure => simp [intOf]; omega
      · obtain rfl : k = l.length := by omega
        go_wp2
        go_ret
        exact ⟨rfl, by simpa using hown, hgr⟩

end Go.Proofs.YtkfgmkgbicahgaaGreatDoor

namespace Go.Proofs.YtkfgmkgbicahgaaGreatDoor
open Go.RowKit Go.Sort
set_option linter.unusedVariables false

set_option maxRecDepth 100000 in
set_option maxHeartbeats 2000000 in
theorem ntGood_any (A : Option Addr) (l : List Nt) (c : Nat) (w : World) (hn : l.length ≤ 1048576) (hc : l.length ≤ c) (hc' : c ≤ 9223372036854775807) (hA : RA w A l) :
    Calls Tryz.prog 31 #[.slice A l.length c] w fun e w' => e = .returned (.bool (goodB l)) ∧ Below w.heap.size w w' := by
  go_enter Tryz.func31, Tryz.ntmps31
  go_wp2
  go_loopw [9] (fun i wr => ∃ k : Nat, k ≤ l.length ∧ i = .int .i64 k ∧ GoodTo l k ∧ Below w.heap.size w wr)
    (fun i _ => l.length - (intOf i).toNat)
  case atStart => exact ⟨0, Nat.zero_le _, rfl, GoodTo.zero l, Below.refl _ _⟩
  case round =>
    obtain ⟨k, hk, rfl, hgood, hb⟩ := hrel
    have HG := Lib.hid hgood
    clear hgood
    by_cases hlt : k < l.length
    · have hx : l[k]? = some l[k] := List.getElem?_eq_getElem hlt
      generalize l[k] = x at hx
      obtain ⟨p, s, n⟩ := x
      obtain ⟨g, o, rfl, hg, h0, h1, h2⟩ := (hA.below hb) k _ hx
      simp only at h0 h1 h2
      have HX := Lib.hid hx
      have i1 : (0 : Int) ≤ (k : Int) := by omega
      have i2 : (k : Int) < (l.length : Int) := by omega
      clear hx
      go_wp2_with fail
      have hRA : RA (wr.alloc (.cells #[.int .i64 p, .int .i64 s, .int .i64 n] 47)) (some ⟨g, o, none⟩) l := (hA.below hb).alloc _
      have hxc : ∀ j, (wr.alloc (.cells #[.int .i64 p, .int .i64 s, .int .i64 n] 47)).cell? ⟨wr.heap.size, j, none⟩ = #[Value.int .i64 p, .int .i64 s, .int .i64 n][j]? := fun j => World.cell?_alloc_new wr _ _ j
      have hbW : Below w.heap.size w (wr.alloc (.cells #[.int .i64 p, .int .i64 s, .int .i64 n] 47)) := hb.alloc hb.size _
      have hzW : wr.heap.size < (wr.alloc (.cells #[.int .i64 p, .int .i64 s, .int .i64 n] 47)).heap.size := by simp
      generalize wr.alloc (.cells #[.int .i64 p, .int .i64 s, .int .i64 n] 47) = W at *
      generalize wr.heap.size = xb at *
      have x0 := cell_regrown ((hxc 0).trans rfl)
      have x1 := cell_regrown ((hxc 1).trans rfl)
      have x2 := cell_regrown ((hxc 2).trans rfl)
      have cN : ∀ d os, Calls Tryz.prog 39 #[.agg #[.int .i64 p, .int .i64 s, .int .i64 n]] (grow (redrawn W d) os) fun e w'' => e = .returned (.bool (noteB p s n)) ∧ ∃ q : Regrown, w'' = grow (redrawn W q.d) q.os :=
        fun d os => Calls.regrown_of (ntNote_any p s n _)
      have hlt' : xb < W.heap.size := hzW
      clear h0 h1 h2 hA
      have HXC := Lib.hid hxc
      clear hxc
      cases hv : noteB p s n with
      | false =>
        have CN := Lib.hid cN
        clear cN
        refine wp_region_quiet_below (by kernel_rfl) (by kernel_rfl) ?_
        repeat (go_big_quiet_step (exact (CN.out _ _)))
        refine wpQuiet_nil ?_
        intro _ hw'
        obtain ⟨q, hw''⟩ := hw'
        subst hw''
        go_wp2
        go_ret
        refine ⟨ret_bool (goodB_false (Good.not_of HX.out fun h => ?_)).symm, hbW.trans ((below_regrown W q.d q.os).mono hbW.size)⟩
        have := h.1
        simp [noteN, hv] at this
      | true =>
        rcases Nat.eq_zero_or_pos k with hk0 | hk0
        · have hd : decide (0 < k) = false := by simp [hk0]
          have HK0 := Lib.hid hk0
          clear hk0
          refine wp_region_quiet_below (by kernel_rfl) (by kernel_rfl) ?_
          repeat (go_big_quiet_step (exact (cN _ _)))
          refine wpQuiet_nil ?_
          intro _ hw'
          obtain ⟨q, hw''⟩ := hw'
          subst hw''
          have HBEF := Lib.hid (show ∀ y, 0 < k → l[k - 1]? = some y → befN y (p, s, n) = true from fun y h => absurd h (by have := HK0.out; omega))
          have hxc := HXC.out
          go_wp2_with fail
          have hbV := hbW.trans ((below_regrown W q.d q.os).mono hbW.size)
          have hxV := fun j => ((below_regrown W q.d q.os).cell (p := ⟨xb, j, none⟩) hzW).trans (hxc j)
          have hRV := hRA.below (below_regrown W q.d q.os)
          have hzV : xb < (grow (redrawn W q.d) q.os).heap.size := Nat.lt_of_lt_of_le hzW (below_regrown W q.d q.os).size
          generalize grow (redrawn W q.d) q.os = V at *
          clear x0 x1 x2 hRA cN
          go_loopw [35] (fun i vr => ∃ j : Nat, j ≤ k ∧ i = .int .i64 j ∧ (∀ i' y, i' < j → l[i']? = some y → meetN (p, s, n) y = false) ∧ Below V.heap.size V vr)
            (fun i _ => k - (intOf i).toNat)
          case atStart => exact ⟨0, Nat.zero_le _, rfl, fun _ _ h => absurd h (by omega), Below.refl _ _⟩
          case round =>
            obtain ⟨j, hj, rfl, hmeet, hbr⟩ := hrel
            have HM := Lib.hid hmeet
            clear hmeet
            by_cases hjk : j < k
            · have hyj : l[j]? = some l[j] := List.getElem?_eq_getElem (by omega)
              generalize l[j] = yj at hyj
              have hvy := (noteN_iff yj).1 (HG.out j yj hjk hyj).1
              obtain ⟨pj, sj, nj⟩ := yj
              simp only at hvy
              have hvx := (noteN_iff (p, s, n)).1 hv
              simp only at hvx
              obtain ⟨g3, o3, hgo3, hg3, z0, z1, z2⟩ := (hRV.below hbr) j _ hyj
              simp only [Option.some.injEq, Addr.mk.injEq, and_true] at hgo3
              obtain ⟨rfl, rfl⟩ := hgo3
              simp only at z0 z1 z2
              have xr0 := (hbr.cell (p := ⟨xb, 0, none⟩) hzV).trans (hxV 0)
              have xr1 := (hbr.cell (p := ⟨xb, 1, none⟩) hzV).trans (hxV 1)
              have xr2 := (hbr.cell (p := ⟨xb, 2, none⟩) hzV).trans (hxV 2)
              have hzr : xb < _ := Nat.lt_of_lt_of_le hzV hbr.size
              have j1 : (0 : Int) ≤ (j : Int) := by omega
              have j2 : (j : Int) < (k : Int) := by omega
              have HYJ := Lib.hid hyj
              have HXV := Lib.hid hxV
              have HVC := Lib.hid hv
              clear hyj hxV hv
              go_wp2_with fail
              refine (ntMeet_any _ _ _ _ _ _ _ (by omega) (by omega) (by omega) (by omega) (by omega) (by omega) (by omega) (by omega)).mono ?_
              rintro e w1 ⟨rfl, hb1⟩
              cases hm : meetB p s n pj sj nj with
              | true =>
                go_wp2
                go_ret
                refine ⟨ret_bool (goodB_false (Good.not_of HX.out fun h => ?_)).symm, hbV.trans ((hbr.mono hbV.size).trans (((Below.refl _ _).alloc (Nat.le_trans hbV.size hbr.size) _).trans (hb1.mono (by simp; have := hbV.size; have := hbr.size; omega))))⟩
                have := h.2.2 j _ hjk HYJ.out
                simp [meetN, hm] at this
              | false =>
                go_wp2
                go_roundw
                case rel =>
                  refine ⟨j + 1, by omega, by go_num, ?_, hbr.trans (((Below.refl _ _).alloc hbr.size _).trans (hb1.mono (by simp; have := hbr.size; omega)))⟩
                  intro i' y hi hy
                  rcases Nat.lt_or_ge i' j with h | h
                  · exact HM.out i' y h hy
                  · obtain rfl : i' = j := by omega
                    have e := HYJ.out.symm.trans hy
                    injection e with e
                    subst e
                    exact hm
                case measure => simp [intOf]; omega
            · obtain rfl : j = k := by omega
              go_wp2
              go_roundw
              case rel => exact ⟨j + 1, by omega, by go_num, HG.out.succ HX.out ⟨hv, HBEF.out, HM.out⟩, hbV.trans (hbr.mono hbV.size)⟩
              case measure => simp [intOf]; omega
        · have hd : (0 : Int) < (k : Int) := by omega
          have hy : l[k - 1]? = some l[k - 1] := List.getElem?_eq_getElem (by omega)
          generalize l[k - 1] = y at hy
          obtain ⟨p', s', n'⟩ := y
          obtain ⟨g2, o2, hgo, hg2, y0, y1, y2⟩ := hRA (k - 1) _ hy
          simp only [Option.some.injEq, Addr.mk.injEq, and_true] at hgo
          obtain ⟨rfl, rfl⟩ := hgo
          simp only at y0 y1 y2
          have y0 := cell_regrown y0
          have y1 := cell_regrown y1
          have y2 := cell_regrown y2
          have HY := Lib.hid hy
          have i3 : (0 : Int) ≤ (k : Int) - 1 := by omega
          have i4 : (k : Int) - 1 < (l.length : Int) := by omega
          have cB : ∀ d os, Calls Tryz.prog 40 #[.agg #[.int .i64 p', .int .i64 s', .int .i64 n'], .agg #[.int .i64 p, .int .i64 s, .int .i64 n]] (grow (redrawn W d) os) fun e w'' => e = .returned (.bool (befB p' s' p s)) ∧ ∃ q : Regrown, w'' = grow (redrawn W q.d) q.os :=
            fun d os => Calls.regrown_of (ntBefore_any p' s' n' p s n _)
          clear hy
          cases hbf : befB p' s' p s with
          | false =>
            refine wp_region_quiet_below (by kernel_rfl) (by kernel_rfl) ?_
            repeat (go_big_quiet_step (first | exact (cN _ _) | exact (cB _ _)))
            refine wpQuiet_nil ?_
            intro _ hw'
            obtain ⟨q, hw''⟩ := hw'
            subst hw''
            go_wp2
            go_ret
            refine ⟨ret_bool (goodB_false (Good.not_of HX.out fun h => ?_)).symm, hbW.trans ((below_regrown W q.d q.os).mono hbW.size)⟩
            have := h.2.1 _ hk0 HY.out
            simp [befN, hbf] at this
          | true =>
            refine wp_region_quiet_below (by kernel_rfl) (by kernel_rfl) ?_
            repeat (go_big_quiet_step (first | exact (cN _ _) | exact (cB _ _)))
            refine wpQuiet_nil ?_
            intro _ hw'
            obtain ⟨q, hw''⟩ := hw'
            subst hw''
            have HBEF := Lib.hid (show ∀ y, 0 < k → l[k - 1]? = some y → befN y (p, s, n) = true from fun y _ hy => by have e := HY.out.symm.trans hy; injection e with e; subst e; exact hbf)
            have hxc := HXC.out
            go_wp2_with fail
            clear hbf
            go_wp2_with fail
            have hbV := hbW.trans ((below_regrown W q.d q.os).mono hbW.size)
            have hxV := fun j => ((below_regrown W q.d q.os).cell (p := ⟨xb, j, none⟩) hzW).trans (hxc j)
            have hRV := hRA.below (below_regrown W q.d q.os)
            have hzV : xb < (grow (redrawn W q.d) q.os).heap.size := Nat.lt_of_lt_of_le hzW (below_regrown W q.d q.os).size
            generalize grow (redrawn W q.d) q.os = V at *
            clear x0 x1 x2 hRA cN cB y0 y1 y2
            go_loopw [35] (fun i vr => ∃ j : Nat, j ≤ k ∧ i = .int .i64 j ∧ (∀ i' y, i' < j → l[i']? = some y → meetN (p, s, n) y = false) ∧ Below V.heap.size V vr)
              (fun i _ => k - (intOf i).toNat)
            case atStart => exact ⟨0, Nat.zero_le _, rfl, fun _ _ h => absurd h (by omega), Below.refl _ _⟩
            case round =>
              obtain ⟨j, hj, rfl, hmeet, hbr⟩ := hrel
              have HM := Lib.hid hmeet
              clear hmeet
              by_cases hjk : j < k
              · have hyj : l[j]? = some l[j] := List.getElem?_eq_getElem (by omega)
                generalize l[j] = yj at hyj
                have hvy := (noteN_iff yj).1 (HG.out j yj hjk hyj).1
                obtain ⟨pj, sj, nj⟩ := yj
                simp only at hvy
                have hvx := (noteN_iff (p, s, n)).1 hv
                simp only at hvx
                obtain ⟨g3, o3, hgo3, hg3, z0, z1, z2⟩ := (hRV.below hbr) j _ hyj
                simp only [Option.some.injEq, Addr.mk.injEq, and_true] at hgo3
                obtain ⟨rfl, rfl⟩ := hgo3
                simp only at z0 z1 z2
                have xr0 := (hbr.cell (p := ⟨xb, 0, none⟩) hzV).trans (hxV 0)
                have xr1 := (hbr.cell (p := ⟨xb, 1, none⟩) hzV).trans (hxV 1)
                have xr2 := (hbr.cell (p := ⟨xb, 2, none⟩) hzV).trans (hxV 2)
                have hzr : xb < _ := Nat.lt_of_lt_of_le hzV hbr.size
                have j1 : (0 : Int) ≤ (j : Int) := by omega
                have j2 : (j : Int) < (k : Int) := by omega
                have HYJ := Lib.hid hyj
                have HXV := Lib.hid hxV
                have HVC := Lib.hid hv
                clear hyj hxV hv
                go_wp2_with fail
                refine (ntMeet_any _ _ _ _ _ _ _ (by omega) (by omega) (by omega) (by omega) (by omega) (by omega) (by omega) (by omega)).mono ?_
                rintro e w1 ⟨rfl, hb1⟩
                cases hm : meetB p s n pj sj nj with
                | true =>
                  go_wp2
                  go_ret
                  refine ⟨ret_bool (goodB_false (Good.not_of HX.out fun h => ?_)).symm, hbV.trans ((hbr.mono hbV.size).trans (((Below.refl _ _).alloc (Nat.le_trans hbV.size hbr.size) _).trans (hb1.mono (by simp; have := hbV.size; have := hbr.size; omega))))⟩
                  have := h.2.2 j _ hjk HYJ.out
                  simp [meetN, hm] at this
                | false =>
                  go_wp2
                  go_roundw
                  case rel =>
                    refine ⟨j + 1, by omega, by go_num, ?_, hbr.trans (((Below.refl _ _).alloc hbr.size _).trans (hb1.mono (by simp; have := hbr.size; omega)))⟩
                    intro i' y hi hy
                    rcases Nat.lt_or_ge i' j with h | h
                    · exact HM.out i' y h hy
                    · obtain rfl : i' = j := by omega
                      have e := HYJ.out.symm.trans hy
                      injection e with e
                      subst e
                      exact hm
                  case measure => simp [intOf]; omega
              · obtain rfl : j = k := by omega
                go_wp2
                go_roundw
                case rel => exact ⟨j + 1, by omega, by go_num, HG.out.succ HX.out ⟨hv, HBEF.out, HM.out⟩, hbV.trans (hbr.mono hbV.size)⟩
                case measure => simp [intOf]; omega
    · obtain rfl : k = l.length := by omega
      have hG := HG.out
      by_cases h30 : l.length ≤ 30
      · go_wp2
        go_ret
        refine ⟨ret_bool ?_, hb⟩
        rw [(goodB_iff l).2 ⟨hG, h30⟩]
        simp
        omega
      · go_wp2
        go_ret
        refine ⟨ret_bool ?_, hb⟩
        rw [goodB_false (fun h => h30 h.2)]
        simp
        omega
end Go.Proofs.YtkfgmkgbicahgaaGreatDoor

namespace Go.Proofs.YtkfgmkgbicahgaaGreatDoor
open Go.ChangeShapes Go.WideShapes Go.RowKit Go.Deep
set_option linter.unusedVariables false

theorem Tryz.cellsNoteL : Tryz.prog.cellsOf 49 = 3 := by kernel_rfl

theorem three {α : Type} {l : List α} (h : l.length = 3) : ∃ a b c, l = [a, b, c] := by
  match l, h with
  | [a, b, c], _ => exact ⟨a, b, c, rfl⟩

section
variable {H : Type} {enc : TypeId × Value → H} {w : World} {base : Nat} {spare : Nat → Bool} {held : Bool}

theorem note_cells {fuel : Nat} {cs : List Value} {x : DataW H × List MemPlace} (h : DataW.trod enc Tryz.prog w base spare held fuel 49 cs = some x) :
    ∃ p s n : Int, cs = [.int .i64 p, .int .i64 s, .int .i64 n] := by
  obtain ⟨ys, m, _, _, hlen, hyl, hf⟩ := DataW.trod_struct Tryz.underlying49 h
  rw [Tryz.cellsNoteL] at hlen
  obtain ⟨a, b, c, rfl⟩ := three hlen
  have f0 := hf 0 _ rfl
  have f1 := hf 1 _ rfl
  have f2 := hf 2 _ rfl
  simp [Tryz.cellsInt] at f0 f1 f2
  obtain ⟨y0, y1, y2, rfl⟩ := three (l := ys) hyl
  obtain ⟨p, e0, _, _⟩ := DataW.trod_int Tryz.underlying3 (f0.trans rfl)
  obtain ⟨s, e1, _, _⟩ := DataW.trod_int Tryz.underlying3 (f1.trans rfl)
  obtain ⟨n, e2, _, _⟩ := DataW.trod_int Tryz.underlying3 (f2.trans rfl)
  simp at e0 e1 e2
  exact ⟨p, s, n, by rw [e0, e1, e2]⟩

theorem open_notes {v : Value} {d : DataW H} {ps : List MemPlace} (hv : ∃ a n c, v = .slice a n c) (h : DataW.Trod enc Tryz.prog w base spare held 25 v d ps) (hw : ∀ p ∈ ps, p.block < w.heap.size) :
    ∃ (A : Option Addr) (l : List Nt) (c : Nat), v = .slice A l.length c ∧ l.length ≤ c ∧ c ≤ maxLen ∧ RA w A l := by
  obtain ⟨a0, n0, c0, rfl⟩ := hv
  obtain ⟨fuel, hf⟩ := h
  rcases open_slice Tryz.underlying25 hf with ⟨hcs, hx⟩ | ⟨a, len, cap, m, n, D, Pl, hcs, hb, hl, hm, hmm, hx, hi⟩
  · simp [Value.cells] at hcs
    obtain ⟨rfl, rfl, rfl⟩ := hcs
    exact ⟨none, [], 0, rfl, Nat.le_refl _, Nat.zero_le _, fun k x hx => by simp at hx⟩
  · simp [Value.cells] at hcs
    obtain ⟨rfl, rfl, rfl⟩ := hcs
    rw [Tryz.cellsNoteL] at hi
    have hle : n0 ≤ m := by rw [hmm]; split <;> omega
    have hex : ∀ i, i < n0 → ∃ x : Nt, w.cell? (a.add (i * 3)) = some (.int .i64 x.1) ∧ w.cell? (a.add (i * 3 + 1)) = some (.int .i64 x.2.1) ∧ w.cell? (a.add (i * 3 + 2)) = some (.int .i64 x.2.2) := by
      intro i hin
      obtain ⟨cs', hc, ht⟩ := hi i (by omega)
      obtain ⟨p, s, n, rfl⟩ := note_cells ht
      obtain ⟨_, _, hat⟩ := World.cells?_some hc
      refine ⟨(p, s, n), ?_, ?_, ?_⟩
      · have := hat 0 (by omega); rw [Go.Deep.add_add] at this; simpa using this
      · have := hat 1 (by omega); rw [Go.Deep.add_add] at this; simpa using this
      · have := hat 2 (by omega); rw [Go.Deep.add_add] at this; simpa using this
    have hlist : ∀ k, k ≤ n0 → ∃ l : List Nt, l.length = k ∧ ∀ i x, l[i]? = some x → w.cell? (a.add (i * 3)) = some (.int .i64 x.1) ∧ w.cell? (a.add (i * 3 + 1)) = some (.int .i64 x.2.1) ∧ w.cell? (a.add (i * 3 + 2)) = some (.int .i64 x.2.2) := by
      intro k
      induction k with
      | zero => exact fun _ => ⟨[], rfl, fun i x hx => by simp at hx⟩
      | succ k ih =>
        intro hk
        obtain ⟨l, hll, hc⟩ := ih (by omega)
        obtain ⟨x, hx⟩ := hex k (by omega)
        refine ⟨l ++ [x], by simp [hll], fun i y hy => ?_⟩
        rcases Nat.lt_or_ge i l.length with hil | hil
        · rw [List.getElem?_append_left hil] at hy; exact hc i y hy
        · rw [List.getElem?_append_right hil] at hy
          have : i - l.length = 0 := by
            have := (List.getElem?_eq_some_iff.1 hy).1
            simp at this; omega
          rw [this] at hy
          simp at hy
          subst hy
          obtain rfl : i = k := by omega
          exact hx
    obtain ⟨l, hll, hc⟩ := hlist n0 (Nat.le_refl _)
    subst hll
    refine ⟨some a, l, c0, rfl, hl, hm, fun k x hkx => ?_⟩
    obtain ⟨h0, h1, h2⟩ := hc k x hkx
    obtain ⟨b, off, spot⟩ := a
    have hspot : spot = none := by
      have hk : 0 < l.length := by have := (List.getElem?_eq_some_iff.1 hkx).1; omega
      have hz : l[0]? = some l[0] := List.getElem?_eq_getElem hk
      simpa [Addr.add] using World.cell?_spot (hc 0 _ hz).1
    subst hspot
    rw [Go.WideShapes.add_plain] at h0 h1 h2
    exact ⟨b, off, rfl, World.block_lt_of_cell? w _ h0, h0, h1, h2⟩
end
end Go.Proofs.YtkfgmkgbicahgaaGreatDoor
