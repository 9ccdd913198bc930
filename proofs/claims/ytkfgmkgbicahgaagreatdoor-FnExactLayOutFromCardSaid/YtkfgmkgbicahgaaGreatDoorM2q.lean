/- Texts of the proof, run together: Form3, HSmall, InsP, IntF, IntS, MisP, Put, RetI, Shl, HHoleTwo. -/
import Derived.Test.YtkfgmkgbicahgaaGreatDoorM1q
import Derived.Laws.Rows
import Derived.Test.YtkfgmkgbicahgaaGreatDoorProg
import Derived.WalkKit
import Derived.WalkSpells
import Derived.WalkLawsBesides
import Derived.Lib.Hide
import Derived.Deep.QuietTactic
import Derived.BigQuiet
import Derived.StillTailTactics
import Derived.Deep.RegionWith
import Derived.Handy
import Derived.LoopTactic
import Derived.Lib.SlicesCompact
import Derived.OwnWalk
import Derived.Shelf.Small.Bits
import Derived.Shelf.Strconv.Itoa0
import Derived.Shelf.Sort.Plain
import Derived.Shelf.Slices.Turned
import Derived.Ground.Names2Prog
import Derived.Shelf.Slices.CompactI
import Derived.Shelf.Slices.SearchI
import Derived.Shelf.Slices.Cells
import Derived.Shelf.Slices.In.SortNone
namespace Go.Proofs.YtkfgmkgbicahgaaGreatDoor
open Go.RowKit
set_option linter.unusedVariables false

theorem own_row {b n c k : Nat} (h : (Value.slice (some ⟨b, 0, none⟩) n c).ownBlock = some k) : b = k := by simpa [Value.ownBlock] using h
theorem bel1 (V : World) (x : Obj) : Below V.heap.size V (V.drew.alloc x) := (Below.refl _ _).drew.alloc (Nat.le_refl _) _
theorem bel2 (V : World) (x y : Obj) : Below V.heap.size V ((V.drew.alloc x).alloc y) := (bel1 V x).alloc (bel1 V x).size _
theorem heap_old {W : World} {b : Nat} {o e : Obj} (h : W.heap[b]? = some e) : (W.alloc o).heap[b]? = some e := by
  have := (Array.getElem?_eq_some_iff.1 h).1
  show (W.heap.push o)[b]? = _
  rw [Array.getElem?_push, if_neg (by omega)]
  exact h
theorem heap_new1 (V : World) (x e : Obj) : ((V.drew.alloc x).alloc e).heap[V.heap.size + 1]? = some e := by
  have := heap_alloc_new (V.drew.alloc x) e
  simpa using this
theorem Own.form3 {w : World} {base t n c : Nat} {A : Option Addr} {l : List Nt} (h : Own w base t (.slice A n c) l) : (A = none → c = 0) ∧ ∀ ad, A = Option.some ad → ∃ g, ad = ⟨g, 0, none⟩ ∧ base ≤ g := by
  rcases h.2 with ⟨hf, hn⟩ | ⟨g, cap, cur, hf, hg, hh, hnc, hm, hs, ht⟩
  · injection hf with e1 e2 e3
    subst e1 e3
    exact ⟨fun _ => rfl, fun ad h => (by cases h)⟩
  · injection hf with e1 e2 e3
    subst e1
    exact ⟨fun h => (by cases h), fun ad h => ⟨g, (by injection h with h; exact h.symm), hg⟩⟩

end Go.Proofs.YtkfgmkgbicahgaaGreatDoor

namespace Go.Proofs.YtkfgmkgbicahgaaGreatDoor.H
open Go.RowKit
set_option linter.unusedVariables false

/-- A hole is valid. -/
def noteB (p s n : Int) : Bool := inR p 0 19 && (inR s 0 1999 && inR n (s + 1) 2000)
theorem noteB_iff (p s n : Int) : noteB p s n = true ↔ 0 ≤ p ∧ p ≤ 19 ∧ 0 ≤ s ∧ s < n ∧ n ≤ 2000 := by
  simp [noteB, inR]; omega
set_option maxHeartbeats 400000 in
theorem isTrack_any (n : Int) (w : World) :
    Calls Tryz.prog 69 #[.int .i64 n] w fun e w' => e = .returned (.bool (inR n 0 19)) ∧ w = w' := by
  go_enter Tryz.func69, Tryz.ntmps69
  go_wp2_with (go_at_call 24; refine (inRange_any _ _ _ _).mono ?_; rintro e w' ⟨rfl, rfl⟩)
  go_ret; exact ⟨rfl, rfl⟩

set_option maxHeartbeats 400000 in
theorem isStep_any (n : Int) (w : World) :
    Calls Tryz.prog 130 #[.int .i64 n] w fun e w' => e = .returned (.bool (inR n 0 1999)) ∧ w = w' := by
  go_enter Tryz.func130, Tryz.ntmps130
  go_wp2_with (go_at_call 24; refine (inRange_any _ _ _ _).mono ?_; rintro e w' ⟨rfl, rfl⟩)
  go_ret; exact ⟨rfl, rfl⟩

set_option maxHeartbeats 400000 in
theorem implIsNote_any (p s n : Int) (w : World) :
    Calls Tryz.prog 53 #[.agg #[.int .i64 p, .int .i64 s, .int .i64 n]] w fun e w' => e = .returned (.bool (noteB p s n)) ∧ Below w.heap.size w w' := by
  cases hp : inR p 0 19 <;>
  · go_enter Tryz.func53, Tryz.ntmps53
    go_wp2_with (go_at_call 69; refine (isTrack_any _ _).mono ?_; rintro e w' ⟨rfl, rfl⟩)
    all_goals (go_ret; exact ⟨ret_bool (by first | (simp [noteB, *]; done) | (simp [noteB, inR, *] at *; omega) | (rw [Bool.eq_iff_iff, noteB_iff]; simp [inR] at *; omega)), (Below.refl _ _).alloc (Nat.le_refl _) _⟩)

set_option maxHeartbeats 400000 in
theorem ntNote_any (p s n : Int) (w : World) :
    Calls Tryz.prog 45 #[.agg #[.int .i64 p, .int .i64 s, .int .i64 n]] w fun e w' => e = .returned (.bool (noteB p s n)) ∧ Below w.heap.size w w' := by
  cases hp : inR p 0 19 with
  | false =>
    go_enter Tryz.func45, Tryz.ntmps45
    go_wp2_with (go_at_call 19; refine (l1In_any _ _ _ _).mono ?_; rintro e w' ⟨rfl, rfl⟩)
    go_ret; exact ⟨ret_bool (by simp [noteB, *]), (Below.refl _ _).alloc (Nat.le_refl _) _⟩
  | true =>
    cases hs : inR s 0 1999 with
    | false =>
      go_enter Tryz.func45, Tryz.ntmps45
      go_wp2_with (go_at_call 19; refine (l1In_any _ _ _ _).mono ?_; rintro e w' ⟨rfl, rfl⟩)
      go_ret; exact ⟨ret_bool (by simp [noteB, *]), (Below.refl _ _).alloc (Nat.le_refl _) _⟩
    | true =>
      have h1 : 0 ≤ s ∧ s ≤ 1999 := by simpa [inR] using hs
      obtain ⟨h1, h2⟩ := h1
      go_enter Tryz.func45, Tryz.ntmps45
      go_wp2_with (go_at_call 19; refine (l1In_any _ _ _ _).mono ?_; rintro e w' ⟨rfl, rfl⟩)
      go_ret; exact ⟨ret_bool (by simp [noteB, *]), (Below.refl _ _).alloc (Nat.le_refl _) _⟩

end Go.Proofs.YtkfgmkgbicahgaaGreatDoor.H

namespace Go.Proofs.YtkfgmkgbicahgaaGreatDoor
open Go.RowKit

/-- Number k of a list is in a range and above the one before it. -/
def upAt (lo hi : Int) (l : List Int) (k : Nat) (x : Int) : Prop := inR x lo hi = true ∧ ∀ y, 0 < k → l[k - 1]? = some y → y < x
def UpTo (lo hi : Int) (l : List Int) (k : Nat) : Prop := ∀ i x, i < k → l[i]? = some x → upAt lo hi l i x
def upB (lo hi : Int) (l : List Int) (k : Nat) : Bool :=
  match l[k]? with
  | none => true
  | some x => inR x lo hi && (decide (k = 0) || (match l[k - 1]? with | some y => decide (y < x) | none => true))
def riseB (lo hi : Int) (l : List Int) : Bool := (List.range l.length).all (upB lo hi l)

theorem upB_iff {lo hi : Int} {l : List Int} {k : Nat} {x : Int} (hx : l[k]? = some x) : upB lo hi l k = true ↔ upAt lo hi l k x := by
  have hk := (List.getElem?_eq_some_iff.1 hx).1
  unfold upB upAt
  rw [hx]
  simp only [Bool.and_eq_true, Bool.or_eq_true, decide_eq_true_eq]
  refine and_congr Iff.rfl ⟨?_, ?_⟩
  · intro h y h0 hy
    rcases h with h | h
    · omega
    · rw [hy] at h; exact of_decide_eq_true h
  · intro h
    rcases Nat.eq_zero_or_pos k with h0 | h0
    · exact .inl h0
    · right
      have hy : l[k - 1]? = some l[k - 1] := List.getElem?_eq_getElem (by omega)
      rw [hy]
      exact decide_eq_true (h _ h0 hy)
theorem riseB_iff (lo hi : Int) (l : List Int) : riseB lo hi l = true ↔ UpTo lo hi l l.length := by
  unfold riseB
  rw [List.all_eq_true]
  constructor
  · intro h i x hi hx
    exact (upB_iff hx).1 (h i (List.mem_range.2 hi))
  · intro h i hi
    have hi := List.mem_range.1 hi
    exact (upB_iff (List.getElem?_eq_getElem hi)).2 (h i _ hi (List.getElem?_eq_getElem hi))
theorem UpTo.zero (lo hi : Int) (l : List Int) : UpTo lo hi l 0 := fun _ _ h => absurd h (by omega)
theorem UpTo.succ {lo hi : Int} {l : List Int} {k : Nat} {x : Int} (h : UpTo lo hi l k) (hx : l[k]? = some x) (ho : upAt lo hi l k x) : UpTo lo hi l (k + 1) := by
  intro i y hi hy
  rcases Nat.lt_or_ge i k with hik | hik
  · exact h i y hik hy
  · obtain rfl : i = k := by omega
    rw [hx] at hy; injection hy with hy; subst hy; exact ho
theorem riseB_not {lo hi : Int} {l : List Int} {k : Nat} {x : Int} (hx : l[k]? = some x) (ho : ¬ upAt lo hi l k x) : riseB lo hi l = false := by
  cases hb : riseB lo hi l with
  | false => rfl
  | true => exact absurd ((riseB_iff lo hi l).1 hb k x (List.getElem?_eq_some_iff.1 hx).1 hx) ho

/-- An instrument is valid. -/
def gdI (P : List Int) (r : Int) : Bool := inR P.length 1 20 && (riseB 24 96 P && inR r 1 20)
theorem gdI_iff (P : List Int) (r : Int) : gdI P r = true ↔ (1 ≤ P.length ∧ P.length ≤ 20) ∧ UpTo 24 96 P P.length ∧ 1 ≤ r ∧ r ≤ 20 := by
  unfold gdI
  rw [Bool.and_eq_true, Bool.and_eq_true, riseB_iff]
  simp [inR]
  omega
theorem UpTo.range {lo hi : Int} {l : List Int} (h : UpTo lo hi l l.length) {x : Int} (hx : x ∈ l) : lo ≤ x ∧ x ≤ hi := by
  obtain ⟨i, hi⟩ := List.mem_iff_getElem?.1 hx
  have := (h i x (List.getElem?_eq_some_iff.1 hi).1 hi).1
  simpa [inR] using this
/-- A list that rises is strictly increasing throughout. -/
theorem UpTo.inc {lo hi : Int} : ∀ {l : List Int}, UpTo lo hi l l.length → l.Pairwise (fun a b : Int => a < b) := by
  intro l h
  have key : ∀ (i j : Nat) (x y : Int), i < j → l[i]? = some x → l[j]? = some y → x < y := by
    intro i j x y hij
    induction j generalizing y with
    | zero => omega
    | succ j ih =>
      intro hx hy
      have hl := (List.getElem?_eq_some_iff.1 hy).1
      have hz : l[j]? = some l[j] := List.getElem?_eq_getElem (by omega)
      have h1 := (h (j + 1) y hl hy).2 l[j] (by omega) (by simp)
      rcases Nat.lt_or_ge i j with hlt | hge
      · have := ih _ hlt hx hz; omega
      · obtain rfl : i = j := by omega
        rw [hz] at hx; injection hx with hx; omega
  rw [List.pairwise_iff_getElem]
  intro i j hi hj hij
  exact key i j _ _ hij (List.getElem?_eq_getElem hi) (List.getElem?_eq_getElem hj)
theorem upTo_of_inc {lo hi : Int} {l : List Int} (h : l.Pairwise (fun a b : Int => a < b)) (hr : ∀ x ∈ l, lo ≤ x ∧ x ≤ hi) : UpTo lo hi l l.length := by
  intro i x hi hx
  obtain ⟨hi', e⟩ := List.getElem?_eq_some_iff.1 hx
  refine ⟨?_, fun y h0 hy => ?_⟩
  · have := hr x (List.mem_of_getElem? hx); simp [inR]; omega
  · obtain ⟨hi2, e2⟩ := List.getElem?_eq_some_iff.1 hy
    have := List.pairwise_iff_getElem.1 h (i - 1) i (by omega) hi' (by omega)
    rw [← e, ← e2]; exact this

/-- The place of the first p in a list whose first place is k, or -1. -/
def trkF (p : Int) : List Int → Int → Int
  | [], _ => -1
  | x :: r, k => if x = p then k else trkF p r (k + 1)
def trk (p : Int) (l : List Int) : Int := trkF p l 0
def hasB (l : List Int) (p : Int) : Bool := decide (p ∈ l)
theorem trkF_drop (p : Int) (l : List Int) (k : Nat) (x : Int) (hx : l[k]? = some x) : trkF p (l.drop k) k = if x = p then (k : Int) else trkF p (l.drop (k + 1)) ((k + 1 : Nat) : Int) := by
  obtain ⟨h, e⟩ := List.getElem?_eq_some_iff.1 hx
  rw [List.drop_eq_getElem_cons h, e, trkF]
  simp
theorem trkF_spec (p : Int) (l : List Int) (k : Int) (hk : 0 ≤ k) : (p ∈ l ∧ k ≤ trkF p l k ∧ trkF p l k < k + l.length) ∨ (p ∉ l ∧ trkF p l k = -1) := by
  induction l generalizing k with
  | nil => right; simp [trkF]
  | cons x l ih =>
    unfold trkF
    by_cases hx : x = p
    · left; rw [if_pos hx]; subst hx; simp; omega
    · rw [if_neg hx]
      rcases ih (k + 1) (by omega) with ⟨a, b, c⟩ | ⟨a, b⟩
      · left; refine ⟨.tail _ a, by omega, by simp; omega⟩
      · right; refine ⟨fun h => ?_, b⟩
        rcases List.mem_cons.1 h with h | h
        · exact hx h.symm
        · exact a h
theorem trk_neg (p : Int) (l : List Int) : trk p l < 0 ↔ p ∉ l := by
  rcases trkF_spec p l 0 (by omega) with ⟨a, b, c⟩ | ⟨a, b⟩
  · unfold trk; simp [a]; omega
  · unfold trk; simp [a, b]
theorem hasB_iff (l : List Int) (p : Int) : hasB l p = true ↔ p ∈ l := by simp [hasB]
theorem hasB_trk (l : List Int) (p : Int) : hasB l p = decide (0 ≤ trk p l) := by
  have := trk_neg p l
  rw [Bool.eq_iff_iff, hasB_iff, decide_eq_true_eq]
  by_cases h : p ∈ l
  · simp [h] at this ⊢; omega
  · simp [h] at this ⊢; omega
theorem trk_lt (p : Int) (l : List Int) : trk p l < l.length ∧ -1 ≤ trk p l := by
  rcases trkF_spec p l 0 (by omega) with ⟨a, b, c⟩ | ⟨a, b⟩
  · unfold trk; omega
  · unfold trk; rw [b]; omega
end Go.Proofs.YtkfgmkgbicahgaaGreatDoor

namespace Go.Proofs.YtkfgmkgbicahgaaGreatDoor
open Go.RowKit
theorem OwnI.form2 {w : World} {base t : Nat} {v : Value} {l : List Int} (h : OwnI w base t v l) : ∃ A c, v = .slice A l.length c ∧ RI w A l := by
  obtain ⟨A, c, h1, h2, _⟩ := h.form
  exact ⟨A, c, h1, h2⟩
end Go.Proofs.YtkfgmkgbicahgaaGreatDoor

namespace Go.Proofs.YtkfgmkgbicahgaaGreatDoor
open Go.RowKit
set_option linter.unusedVariables false

set_option maxRecDepth 100000 in
set_option maxHeartbeats 1000000 in
theorem eqIntS_any (A B : Option Addr) (l m : List Int) (c d : Nat) (w : World) (hl : l.length ≤ 9223372036854775807) (hm : m.length ≤ 9223372036854775807) (hA : RI w A l) (hB : RI w B m) :
    Calls Tryz.prog 27 #[.slice A l.length c, .slice B m.length d] w fun e w' => e = .returned (.bool (decide (l = m))) ∧ Below w.heap.size w w' := by
  by_cases hlen : l.length = m.length
  · go_enter Tryz.func27, Tryz.ntmps27
    have hne : ((l.length : Int) != (m.length : Int)) = false := by simp [hlen]
    have HLEN := Lib.hid hlen
    clear hlen
    go_wp2
    go_loopw [5] (fun i wr => ∃ k : Nat, k ≤ l.length ∧ i = .int .i64 k ∧ l.take k = m.take k ∧ Below w.heap.size w wr)
      (fun i _ => l.length - (intOf i).toNat)
    case atStart => exact ⟨0, Nat.zero_le _, rfl, by simp, Below.refl _ _⟩
    case round =>
      obtain ⟨k, hk, rfl, htake, hb⟩ := hrel
      have HT := Lib.hid htake
      clear htake
      by_cases hlt : k < l.length
      · have hlt' : k < m.length := by have := HLEN.out; omega
        have hx : l[k]? = some l[k] := List.getElem?_eq_getElem hlt
        have hy : m[k]? = some m[k] := List.getElem?_eq_getElem hlt'
        generalize l[k] = x at hx
        generalize m[k] = y at hy
        obtain ⟨g, o, rfl, hg, h0⟩ := (hA.below hb) k _ hx
        obtain ⟨g', o', rfl, hg', h0'⟩ := (hB.below hb) k _ hy
        have i1 : (0 : Int) ≤ (k : Int) := by omega
        have i2 : (k : Int) < (l.length : Int) := by omega
        have i3 : (k : Int) < (m.length : Int) := by omega
        have HX := Lib.hid hx
        have HY := Lib.hid hy
        clear hx hy hA hB
        by_cases he : x = y
        · subst he
          go_wp2_with fail
          go_region
          all_goals
            go_wp2
            go_roundw
            case rel =>
              refine ⟨k + 1, by omega, by go_num, ?_, hb.drew⟩
              rw [List.take_add_one, List.take_add_one, HT.out, HX.out, HY.out]
            case measure => simp [intOf]; omega
        · have hne2 : (x != y) = true := by simp [he]
          go_wp2_with fail
          go_region
          all_goals
            go_wp2
            go_ret
            refine ⟨ret_bool ?_, hb.drew⟩
            have : l ≠ m := by
              rintro rfl
              have := HX.out.symm.trans HY.out
              simp at this
              exact he this
            simp [this]
      · obtain rfl : k = l.length := by omega
        go_wp2
        go_ret
        refine ⟨ret_bool ?_, hb⟩
        have : l = m := by
          have h := HT.out
          rw [List.take_length, HLEN.out, List.take_length] at h
          exact h
        simp [this]
  · go_enter Tryz.func27, Tryz.ntmps27
    have hne : ((l.length : Int) != (m.length : Int)) = true := by simp; omega
    go_wp2
    go_ret
    exact ⟨ret_bool (by simp; intro h; exact hlen (by rw [h])), Below.refl _ _⟩

set_option maxRecDepth 100000 in
set_option maxHeartbeats 1000000 in
theorem markIntS_any (v : Value) (l : List Int) (K : Int) (base : Nat) (w : World) (hn : l.length ≤ 1048576) (hK : 0 ≤ K) (hK' : K ≤ 1048576) (hv : OwnI w base 3 v l) :
    Calls Tryz.prog 29 #[v, .int .i64 K] w fun e w' => e = .returned (.int .i64 (K + l.length)) ∧ OwnI w' base 3 v (mki l.length K) ∧ w.grownBy w' v.ownBlock := by
  have hv0 := hv
  rcases hv.2 with ⟨rfl, h0⟩ | ⟨g, cap, cur, rfl, hg, hh, hnc, hm, hs, ht⟩
  · obtain rfl : l = [] := List.eq_nil_of_length_eq_zero h0
    go_enter Tryz.func29, Tryz.ntmps29
    go_wp2
    go_rounds 1
    go_ret
    exact ⟨ret_int (by simp), hv0, World.grownBy.refl w _⟩
  · have hlt : g < w.heap.size := (hv0.lt _ rfl).2
    clear hh hs ht cur
    go_enter Tryz.func29, Tryz.ntmps29
    go_wp2
    go_loopw [1, 5] (fun q i wr => ∃ k : Nat, k ≤ l.length ∧ i = .int .i64 k ∧ q = .int .i64 (K + k) ∧ OwnI wr base 3 (.slice (some ⟨g, 0, none⟩) l.length cap) (mki k K ++ l.drop k) ∧ w.grownBy wr (some g))
      (fun _ i _ => l.length - (intOf i).toNat)
    case atStart => exact ⟨0, Nat.zero_le _, rfl, by simp, by simpa [mki] using hv0, World.grownBy.refl w _⟩
    case round =>
      obtain ⟨k, hk, rfl, rfl, hown, hgr⟩ := hrel
      have hL : (mki k K ++ l.drop k).length = l.length := by simp [mki_length]; omega
      by_cases hk2 : k < l.length
      · unfold OwnI at hown
        rw [hL] at hown
        have f0 := hown.frozenAt k
        have c0 : ∃ u, wr.cell? ⟨g, k, none⟩ = some u := by rw [hown.cellAt _ (by omega)]; exact ⟨_, List.getElem?_eq_getElem (by rw [ci_length, hL]; omega)⟩
        obtain ⟨u0, c0⟩ := c0
        have H := Lib.hid hown
        have HL := Lib.hid hL
        clear hown hL hv hv0
        go_wp2
        go_roundw
        case rel =>
          have s1 := H.out.stored k (.int .i64 (K + k))
          have k2 := s1.1
          have e1 : (ci (mki k K ++ l.drop k)).set k (.int .i64 (K + k)) = ci (mki (k + 1) K ++ l.drop (k + 1)) := by
            rw [← mki_set l K k hk2]; simp [ci, List.map_set]
          rw [e1] at k2
          have hL' : (mki (k + 1) K ++ l.drop (k + 1)).length = l.length := by simp [mki_length]; omega
          refine ⟨k + 1, by omega, by go_num, by first | go_num | (congr 1; omega), ?_, hgr.trans s1.2⟩
          unfold OwnI
          rw [hL']
          exact k2
        case measure => simp [intOf]; omega
      · obtain rfl : k = l.length := by omega
        go_wp2
        go_ret
        exact ⟨rfl, by simpa using hown, hgr⟩

end Go.Proofs.YtkfgmkgbicahgaaGreatDoor

namespace Go.Proofs.YtkfgmkgbicahgaaGreatDoor
open Go.RowKit

def putF (f : Nt → Bool) (acc : List Int) (x : Nt) : List Int := if f x = true then putL x.1 acc else acc
/-- The model's way: put one after another. -/
def atF (f : Nt → Bool) (l : List Nt) : List Int := l.foldl (putF f) []
/-- The program's way: all of them, in the score's order. -/
def psF (f : Nt → Bool) : List Nt → List Int
  | [] => []
  | x :: l => if f x = true then x.1 :: psF f l else psF f l
theorem psF_append (f : Nt → Bool) (l m : List Nt) : psF f (l ++ m) = psF f l ++ psF f m := by
  induction l with
  | nil => rfl
  | cons x l ih => simp only [List.cons_append, psF, ih]; split <;> rfl
theorem psF_snoc (f : Nt → Bool) (l : List Nt) (k : Nat) (x : Nt) (h : l[k]? = some x) : psF f (l.take (k + 1)) = psF f (l.take k) ++ (if f x = true then [x.1] else []) := by
  rw [List.take_add_one, h, psF_append]
  simp only [Option.toList, psF]
theorem psF_length (f : Nt → Bool) (l : List Nt) : (psF f l).length ≤ l.length := by
  induction l with
  | nil => simp [psF]
  | cons x l ih => simp only [psF]; split <;> simp <;> omega
theorem atF_snoc (f : Nt → Bool) (l : List Nt) (k : Nat) (x : Nt) (h : l[k]? = some x) : atF f (l.take (k + 1)) = if f x = true then putL x.1 (atF f (l.take k)) else atF f (l.take k) := by
  unfold atF
  rw [List.take_add_one, h, List.foldl_append]
  rfl
theorem atF_inc (f : Nt → Bool) (l : List Nt) : ∀ k, k ≤ l.length → Inc (atF f (l.take k)) := by
  intro k
  induction k with
  | zero => intro _; simp [atF, Inc]
  | succ k ih =>
    intro hk
    have hx : l[k]? = some l[k] := List.getElem?_eq_getElem (by omega)
    rw [atF_snoc f l k _ hx]
    split
    · exact putL_inc _ _ (ih (by omega))
    · exact ih (by omega)
theorem atF_length (f : Nt → Bool) (l : List Nt) : ∀ k, k ≤ l.length → (atF f (l.take k)).length ≤ k := by
  intro k
  induction k with
  | zero => intro _; simp [atF]
  | succ k ih =>
    intro hk
    have hx : l[k]? = some l[k] := List.getElem?_eq_getElem (by omega)
    rw [atF_snoc f l k _ hx]
    have := ih (by omega)
    split
    · have := putL_length (l[k]).1 (atF f (l.take k)); omega
    · omega
theorem mem_atF (f : Nt → Bool) (l : List Nt) (y : Int) : ∀ k, k ≤ l.length → (y ∈ atF f (l.take k) ↔ y ∈ psF f (l.take k)) := by
  intro k
  induction k with
  | zero => intro _; simp [atF, psF]
  | succ k ih =>
    intro hk
    have hx : l[k]? = some l[k] := List.getElem?_eq_getElem (by omega)
    rw [atF_snoc f l k _ hx, psF_snoc f l k _ hx]
    have ih := ih (by omega)
    split
    · rw [mem_putL, ih]; simp only [List.mem_append, List.mem_singleton]; exact or_comm
    · simpa using ih

theorem compactUpTo_sorted (zs : List Int) (h : zs.Pairwise (· ≤ ·)) : ∀ m, m ≤ zs.length → (Lib.compactUpTo zs.toArray m).Pairwise (· < ·) ∧ ∀ y, y ∈ Lib.compactUpTo zs.toArray m ↔ y ∈ zs.take m := by
  intro m
  induction m with
  | zero => intro _; simp [Lib.compactUpTo]
  | succ m ih =>
    intro hm
    obtain ⟨a, b⟩ := ih (by omega)
    have hmz : m < zs.length := by omega
    have hget : ∀ j, j < zs.length → zs.toArray[j]! = zs[j]! := fun j hj => by simp
    have hm1 : zs.toArray[m]! = zs[m] := by rw [hget m hmz, getElem!_pos zs m hmz]
    rw [Lib.compactUpTo_succ, hm1]
    have htake : zs.take (m + 1) = zs.take m ++ [zs[m]] := by rw [List.take_add_one, List.getElem?_eq_getElem hmz]; rfl
    rw [htake]
    cases hk : Lib.keeps zs.toArray m with
    | true =>
      rw [if_pos rfl]
      have hlt : ∀ y, y ∈ zs.take m → y < zs[m] := by
        intro y hy
        obtain ⟨j, hj⟩ := List.mem_iff_getElem?.1 hy
        rw [List.getElem?_take] at hj
        split at hj
        · rename_i hjm
          obtain ⟨hjl, e⟩ := List.getElem?_eq_some_iff.1 hj
          have hm0 : m ≠ 0 := by omega
          simp only [Lib.keeps, decide_eq_true_eq] at hk
          have hne : zs[m] ≠ zs[m - 1] := by
            rcases hk with hk | hk
            · exact absurd hk hm0
            · rw [hm1, hget (m - 1) (by omega), getElem!_pos zs (m - 1) (by omega)] at hk
              exact hk
          have h1 : zs[m - 1] ≤ zs[m] := List.pairwise_iff_getElem.1 h (m - 1) m (by omega) hmz (by omega)
          have h2 : zs[j] ≤ zs[m - 1] := by
            rcases Nat.lt_or_ge j (m - 1) with hlt | hge
            · exact List.pairwise_iff_getElem.1 h j (m - 1) hjl (by omega) hlt
            · have : j = m - 1 := by omega
              subst this; exact Int.le_refl _
          rw [← e]; omega
        · cases hj
      refine ⟨?_, fun y => ?_⟩
      · rw [List.pairwise_append]
        refine ⟨a, by simp, fun x hx y hy => ?_⟩
        simp only [List.mem_singleton] at hy
        subst hy
        exact hlt x ((b x).1 hx)
      · rw [List.mem_append, List.mem_append, b y]
    | false =>
      refine ⟨by simpa using a, fun y => ?_⟩
      have hmem : zs[m] ∈ zs.take m := by
        simp only [Lib.keeps, decide_eq_false_iff_not, not_or, Decidable.not_not] at hk
        obtain ⟨hm0, he⟩ := hk
        rw [hm1, hget (m - 1) (by omega), getElem!_pos zs (m - 1) (by omega)] at he
        rw [he, List.mem_iff_getElem?]
        exact ⟨m - 1, by rw [List.getElem?_take, if_pos (by omega), List.getElem?_eq_getElem]⟩
      simp only [Bool.false_eq_true, if_false, List.append_nil, List.mem_append, List.mem_singleton, b y]
      constructor
      · exact .inl
      · rintro (h | h)
        · exact h
        · rw [h]; exact hmem
theorem inc_ext {a b : List Int} (ha : a.Pairwise (· < ·)) (hb : b.Pairwise (· < ·)) (h : ∀ y, y ∈ a ↔ y ∈ b) : a = b := by
  have hp : a.Perm b := (List.perm_ext_iff_of_nodup (ha.imp (fun h => by omega)) (hb.imp (fun h => by omega))).2 h
  exact hp.eq_of_pairwise (fun x y _ _ h1 h2 => by omega) (ha.imp fun h => Int.le_of_lt h) (hb.imp fun h => Int.le_of_lt h)
theorem inc_lt : ∀ {l : List Int}, Inc l → l.Pairwise (· < ·)
  | [], _ => List.Pairwise.nil
  | _ :: _, h => List.Pairwise.cons h.1 (inc_lt h.2)
theorem inc_of_lt : ∀ {l : List Int}, l.Pairwise (· < ·) → Inc l
  | [], _ => trivial
  | _ :: _, h => ⟨(List.pairwise_cons.1 h).1, inc_of_lt (List.pairwise_cons.1 h).2⟩
/-- Sorted and made single: as put one after another. -/
theorem compact_atF (f : Nt → Bool) (l : List Nt) : Lib.compact ((psF f l).mergeSort fun x y => decide (x ≤ y)) = atF f l := by
  have hs : ((psF f l).mergeSort fun x y => decide (x ≤ y)).Pairwise (· ≤ ·) := by
    have := List.pairwise_mergeSort (le := fun (x y : Int) => decide (x ≤ y)) (fun a b c => by simp; omega) (fun a b => by simp; omega) (psF f l)
    exact this.imp fun h => by simpa using h
  obtain ⟨a, b⟩ := compactUpTo_sorted _ hs _ (Nat.le_refl _)
  have hi := atF_inc f l l.length (Nat.le_refl _)
  rw [List.take_length] at hi
  refine inc_ext a (inc_lt hi) fun y => ?_
  have hm := mem_atF f l y l.length (Nat.le_refl _)
  rw [List.take_length] at hm
  rw [hm]
  rw [List.take_length] at b
  exact (b y).trans (List.mergeSort_perm _ _).mem_iff
end Go.Proofs.YtkfgmkgbicahgaaGreatDoor

namespace Go.Proofs.YtkfgmkgbicahgaaGreatDoor
open Go.RowKit
set_option linter.unusedVariables false
set_option linter.unusedSimpArgs false

theorem Tryz.info_int : (Tryz.prog.info? 3).map (fun i => (i.zero, i.size, i.bytes)) = some (some (.int .i64 0), 1, 8) := by kernel_rfl

theorem RI.at {w : World} {g : Nat} {l : List Int} {j : Nat} {x : Int} (h : RI w (some ⟨g, 0, none⟩) l) (hx : l[j]? = some x) : w.cell? ⟨g, j, none⟩ = some (.int .i64 x) := by
  obtain ⟨g', o', hgo, _, h0⟩ := h j x hx
  simp only [Option.some.injEq, Addr.mk.injEq, and_true] at hgo
  obtain ⟨rfl, rfl⟩ := hgo
  simpa using h0

theorem wpList_appI (w : World) {ops : Array Oper} {rest : List Oper} {o : Oper} {a : Act} {Q : Exit → Act → World → Prop} (hgd : o.guard = none) (s x : Operand)
    (ho : o.op = .call { callee := .builtin .append, args := #[s, x], argTypes := #[22, 22] })
    (base : Nat) (v : Value) (xs : List Int) (hs : a.eval s = v) (hown : OwnI w base 3 v xs)
    (A : Option Addr) (m c : Nat) (news : List Int) (hx : a.eval x = .slice A m c) (hl : news.length = m) (hA : A = none → c = 0)
    (hnews : ∀ j y, news[j]? = some y → ∃ ad, A = some ad ∧ w.cell? (ad.add j) = some (.int .i64 y)) (hsz : xs.length + m ≤ 4000000) (hbase : base ≤ w.heap.size)
    (h : ∀ v' w', OwnI w' base 3 v' (xs ++ news) → w.grownBy w' v.ownBlock → (v'.ownBlock = v.ownBlock ∨ v'.ownBlock = some w.heap.size) → wpList Tryz.prog ops Q rest (a.put o.dst v') w') :
    wpList Tryz.prog ops Q (o :: rest) a w := by
  obtain ⟨i, hi, hz, hs1, hb1⟩ := info_parts Tryz.info_int
  refine wpList_app w hgd s x 22 ho base 3 i (.int .i64 0) 1 8 Tryz.underlying22 hi hz hs1 hb1 rfl (by decide) v xs.length (ci xs) hs hown A m c (ci news) hx (by rw [ci_length, hl, Nat.mul_one]) hA ?_ ?_ (by unfold maxLen; omega) (by omega) hbase ?_
  · intro j u hu
    simp only [ci, List.getElem?_map, Option.map_eq_some_iff] at hu
    obtain ⟨y, hy, rfl⟩ := hu
    exact hnews j y hy
  · intro u hu
    simp only [ci, List.mem_map] at hu
    obtain ⟨y, _, rfl⟩ := hu
    rfl
  · intro v' w' h1 h2 h3
    refine h v' w' ?_ h2 h3
    unfold OwnI
    rw [ci_append, List.length_append, hl]
    exact h1

theorem get_of_take {l : List Int} {k j : Nat} {y : Int} (h : (l.take k)[j]? = some y) : l[j]? = some y := by
  rw [List.getElem?_take] at h
  split at h
  · exact h
  · cases h
theorem RI.takeAt {w : World} {g : Nat} {l : List Int} {k j : Nat} {y : Int} (h : RI w (some ⟨g, 0, none⟩) l) (hx : (l.take k)[j]? = some y) : w.cell? ((⟨g, 0, none⟩ : Addr).add j) = some (.int .i64 y) := by
  rw [Addr.add_lit, Nat.zero_add]
  exact h.at (get_of_take hx)
theorem one_at {w : World} {b : Nat} {n : Int} (h : w.cell? ⟨b, 0, none⟩ = some (.int .i64 n)) {j : Nat} {y : Int} (hy : [n][j]? = some y) : ∃ ad, (some ⟨b, 0, none⟩ : Option Addr) = some ad ∧ w.cell? (ad.add j) = some (.int .i64 y) := by
  cases j with
  | zero => simp at hy; subst hy; exact ⟨_, rfl, by rw [Addr.add_lit]; exact h⟩
  | succ j => simp at hy

theorem one_new (w1 : World) (n : Int) : (w1.alloc (.cells #[.int .i64 n] 3)).cell? ⟨w1.heap.size, 0, none⟩ = some (.int .i64 n) := by rw [World.cell?_alloc_new]; rfl
theorem RI.dropAt {w : World} {g : Nat} {l : List Int} {k c : Nat} {A : Option Addr} (h : RI w (some ⟨g, 0, none⟩) l) (hlc : l.length ≤ c) (hA : ¬ c = k → A = some ⟨g, 0 + k, none⟩) (j : Nat) (y : Int) (hx : (l.drop k)[j]? = some y) : ∃ ad, A = some ad ∧ w.cell? (ad.add j) = some (.int .i64 y) := by
  rw [List.getElem?_drop] at hx
  have := (List.getElem?_eq_some_iff.1 hx).1
  refine ⟨_, hA (by omega), ?_⟩
  rw [Addr.add_lit, Nat.zero_add]
  exact h.at hx

theorem OwnI.lit (w : World) (base : Nat) (xs : List Int) (cs : Array Value) (hcs : cs.toList = ci xs) (hl : xs.length ≤ 1000) (hb : base ≤ w.heap.size) : OwnI (w.alloc (.cells cs 3)) base 3 (.slice (some ⟨w.heap.size, 0, none⟩) xs.length xs.length) xs := by
  have h := World.ownsRow_lit (base := base) (e := 3) (size := 1) w cs xs.length hb (by unfold maxLen; omega) (by rw [← Array.length_toList, hcs, ci_length, Nat.mul_one])
  rw [hcs] at h
  exact h

set_option maxRecDepth 100000 in
set_option maxHeartbeats 2000000 in
theorem l1Put_some (g : Nat) (l : List Int) (c : Nat) (n : Int) (base : Nat) (w : World) (hl : l.length ≤ 1000000) (hb0 : base ≤ w.heap.size) (hv : OwnI w base 3 (.slice (some ⟨g, 0, none⟩) l.length c) l) (hinc : Inc l) :
    Calls Tryz.prog 58 #[.slice (some ⟨g, 0, none⟩) l.length c, .int .i64 n] w fun e w' => ∃ v, e = .returned v ∧ OwnI w' base 3 v (putL n l) ∧ Below w.heap.size w w' := by
  obtain ⟨A', c', hf, hr, hlc, hcm, hA0, hA1⟩ := hv.form
  injection hf with e1 e2 e3
  subst e1 e3
  clear e2 hA0 hA1
  unfold maxLen at hcm
  have HV := Lib.hid hv
  have HI := Lib.hid hinc
  clear hv hinc
  have HR := Lib.hid hr
  go_enter Tryz.func58, Tryz.ntmps58
  go_wp2
  go_loop [5] (fun i => ∃ k : Nat, k ≤ l.length ∧ i = .int .i64 k ∧ (∀ i x, i < k → l[i]? = some x → x < n))
    (fun i => l.length - (intOf i).toNat)
  case atStart => exact ⟨0, Nat.zero_le _, rfl, fun _ _ h => absurd h (by omega)⟩
  case round =>
    obtain ⟨k, hk, rfl, hlt⟩ := hrel
    have HL := Lib.hid hlt
    clear hlt
    by_cases hkl : k < l.length
    · have hx : l[k]? = some l[k] := List.getElem?_eq_getElem hkl
      generalize l[k] = x at hx
      have h0 := hr.at hx
      have i1 : (0 : Int) ≤ (k : Int) := by omega
      have i2 : (k : Int) < (l.length : Int) := by omega
      have HX := Lib.hid hx
      clear hx hr
      by_cases hxn : x < n
      · go_wp2
        go_round
        case rel =>
          refine ⟨k + 1, by omega, by go_num, ?_⟩
          intro i y hi hy
          rcases Nat.lt_or_ge i k with h | h
          · exact HL.out i y h hy
          · obtain rfl : i = k := by omega
            have := HX.out.symm.trans hy
            injection this with this
            omega
        case measure => simp [intOf]; omega
      · by_cases hxe : x = n
        · subst hxe
          go_wp2
          go_ret
          refine ⟨_, rfl, ?_, Below.refl _ _⟩
          rw [putL_at x l k hk HL.out (fun y hy => by have := HX.out.symm.trans hy; injection this with this; omega), if_pos HX.out, List.take_append_drop]
          exact HV.out
        · have hne : (x == n) = false := by simp [hxe]
          have ho0 := Lib.hid (OwnI.lit w w.heap.size [] #[] rfl (by simp) (Nat.le_refl _))
          have hB0 := Lib.hid (show Below w.heap.size w (w.alloc (.cells #[] 3)) from (Below.refl _ _).alloc (Nat.le_refl _) _)
          go_wp2_with (first
            | (at_builtin; (refine wpList_appI _ rfl (.tmp 34) (.tmp 37) rfl w.heap.size _ [] rfl ho0.out (some ⟨g, 0, none⟩) k c (l.take k) rfl (by simp; try omega) (fun h => by cases h) (fun j y hy => ⟨_, rfl, (HR.out.below hB0.out).takeAt hy⟩) (by simp; try omega) hB0.out.size ?_); intro v1 w1 ho1 hg1 hv1; have hB1 := hB0.out.grown hg1 hB0.out.size (fun j hj => (ho0.out.lt j hj).1); have ho2 := Lib.hid (ho1.alloc (.cells #[.int .i64 n] 3)); have hB2 := Lib.hid (hB1.alloc hB1.size (.cells #[.int .i64 n] 3)); have hc2 := Lib.hid (one_new w1 n); clear ho1 hB1 hg1 hv1 ho0 hB0)
            | (at_builtin; (refine wpList_appI _ rfl (.tmp 39) (.tmp 41) rfl w.heap.size _ _ rfl ho2.out (some ⟨w1.heap.size, 0, none⟩) 1 1 [n] rfl rfl (fun h => by cases h) (fun j y hy => one_at hc2.out hy) (by simp; try omega) hB2.out.size ?_); intro v2 w2 ho3 hg2 hv2; have hB3 := Lib.hid (hB2.out.grown hg2 hB2.out.size (fun j hj => (ho2.out.lt j hj).1)); have ho3 := Lib.hid ho3; clear ho2 hB2 hg2 hv2 hc2)
            | (at_builtin; go_loud (refine wpList_appI _ rfl (.tmp 43) (.tmp 46) rfl w.heap.size _ _ rfl ho3.out _ (l.length - k) _ (l.drop k) rfl (by simp) (by intro h; first | (cases h; done) | (split at h <;> cases h)) ((HR.out.below hB3.out).dropAt hlc (by intro h; first | rfl | simp [h])) (by simp; try omega) hB3.out.size ?_); intro v3 w3 ho4 hg3 hv3; have hB4 := Lib.hid (hB3.out.grown hg3 hB3.out.size (fun j hj => (ho3.out.lt j hj).1)); have ho4 := Lib.hid ho4; clear ho3 hB3 hg3 hv3))
          all_goals
            go_ret
            refine ⟨_, rfl, ?_, hB4.out⟩
            have e := putL_at n l k hk HL.out (fun y hy => by have := HX.out.symm.trans hy; injection this with this; omega)
            rw [e, if_neg (fun hy => by have := HX.out.symm.trans hy; injection this with this; exact hxe this)]
            have := ho4.out.mono hb0
            simpa using this
    · obtain rfl : k = l.length := by omega
      have ho0 := Lib.hid (OwnI.lit w w.heap.size [] #[] rfl (by simp) (Nat.le_refl _))
      have hB0 := Lib.hid (show Below w.heap.size w (w.alloc (.cells #[] 3)) from (Below.refl _ _).alloc (Nat.le_refl _) _)
      go_wp2_with (first
        | (at_builtin; (refine wpList_appI _ rfl (.tmp 34) (.tmp 37) rfl w.heap.size _ [] rfl ho0.out (some ⟨g, 0, none⟩) l.length c (l.take l.length) rfl (by simp; try omega) (fun h => by cases h) (fun j y hy => ⟨_, rfl, (HR.out.below hB0.out).takeAt hy⟩) (by simp; try omega) hB0.out.size ?_); intro v1 w1 ho1 hg1 hv1; have hB1 := hB0.out.grown hg1 hB0.out.size (fun j hj => (ho0.out.lt j hj).1); have ho2 := Lib.hid (ho1.alloc (.cells #[.int .i64 n] 3)); have hB2 := Lib.hid (hB1.alloc hB1.size (.cells #[.int .i64 n] 3)); have hc2 := Lib.hid (one_new w1 n); clear ho1 hB1 hg1 hv1 ho0 hB0)
        | (at_builtin; (refine wpList_appI _ rfl (.tmp 39) (.tmp 41) rfl w.heap.size _ _ rfl ho2.out (some ⟨w1.heap.size, 0, none⟩) 1 1 [n] rfl rfl (fun h => by cases h) (fun j y hy => one_at hc2.out hy) (by simp; try omega) hB2.out.size ?_); intro v2 w2 ho3 hg2 hv2; have hB3 := Lib.hid (hB2.out.grown hg2 hB2.out.size (fun j hj => (ho2.out.lt j hj).1)); have ho3 := Lib.hid ho3; clear ho2 hB2 hg2 hv2 hc2)
        | (at_builtin; go_loud (refine wpList_appI _ rfl (.tmp 43) (.tmp 46) rfl w.heap.size _ _ rfl ho3.out _ 0 _ [] rfl (by simp) (by intro h; first | (cases h; done) | (split at h <;> cases h)) (fun j y hy => by simp at hy) (by simp; try omega) hB3.out.size ?_); intro v3 w3 ho4 hg3 hv3; have hB4 := Lib.hid (hB3.out.grown hg3 hB3.out.size (fun j hj => (ho3.out.lt j hj).1)); have ho4 := Lib.hid ho4; clear ho3 hB3 hg3 hv3))
      all_goals
        go_ret
        refine ⟨_, rfl, ?_, hB4.out⟩
        have e := putL_at n l l.length hk HL.out (fun y hy => by simp at hy)
        rw [e, if_neg (by simp)]
        have := ho4.out.mono hb0
        simpa using this

set_option maxRecDepth 100000 in
set_option maxHeartbeats 2000000 in
theorem l1Put_none (n : Int) (base : Nat) (w : World) (hb0 : base ≤ w.heap.size) :
    Calls Tryz.prog 58 #[.slice none 0 0, .int .i64 n] w fun e w' => ∃ v, e = .returned v ∧ OwnI w' base 3 v (putL n []) ∧ Below w.heap.size w w' := by
  go_enter Tryz.func58, Tryz.ntmps58
  have ho0 := Lib.hid (OwnI.lit w w.heap.size [] #[] rfl (by simp) (Nat.le_refl _))
  have hB0 := Lib.hid (show Below w.heap.size w (w.alloc (.cells #[] 3)) from (Below.refl _ _).alloc (Nat.le_refl _) _)
  go_wp2_with fail
  refine wp_loop_rounds 1 ?_
  rw [rounds_succ]
  go_wp2_with (first
    | (at_builtin; (refine wpList_appI _ rfl (.tmp 34) (.tmp 37) rfl w.heap.size _ [] rfl ho0.out none 0 0 [] rfl rfl (fun _ => rfl) (fun j y hy => by simp at hy) (by simp) hB0.out.size ?_); intro v1 w1 ho1 hg1 hv1; have hB1 := hB0.out.grown hg1 hB0.out.size (fun j hj => (ho0.out.lt j hj).1); have ho2 := Lib.hid (ho1.alloc (.cells #[.int .i64 n] 3)); have hB2 := Lib.hid (hB1.alloc hB1.size (.cells #[.int .i64 n] 3)); have hc2 := Lib.hid (one_new w1 n); clear ho1 hB1 hg1 hv1 ho0 hB0)
    | (at_builtin; (refine wpList_appI _ rfl (.tmp 39) (.tmp 41) rfl w.heap.size _ _ rfl ho2.out (some ⟨w1.heap.size, 0, none⟩) 1 1 [n] rfl rfl (fun h => by cases h) (fun j y hy => one_at hc2.out hy) (by simp) hB2.out.size ?_); intro v2 w2 ho3 hg2 hv2; have hB3 := Lib.hid (hB2.out.grown hg2 hB2.out.size (fun j hj => (ho2.out.lt j hj).1)); have ho3 := Lib.hid ho3; clear ho2 hB2 hg2 hv2 hc2)
    | (at_builtin; (refine wpList_appI _ rfl (.tmp 43) (.tmp 46) rfl w.heap.size _ _ rfl ho3.out none 0 0 [] rfl rfl (fun _ => rfl) (fun j y hy => by simp at hy) (by simp) hB3.out.size ?_); intro v3 w3 ho4 hg3 hv3; have hB4 := Lib.hid (hB3.out.grown hg3 hB3.out.size (fun j hj => (ho3.out.lt j hj).1)); have ho4 := Lib.hid ho4; clear ho3 hB3 hg3 hv3))
  go_ret
  refine ⟨_, rfl, ?_, hB4.out⟩
  have := ho4.out.mono hb0
  simpa [putL] using this

theorem l1Put_any (v : Value) (l : List Int) (n : Int) (base : Nat) (w : World) (hl : l.length ≤ 1000000) (hb0 : base ≤ w.heap.size) (hv : OwnI w base 3 v l) (hinc : Inc l) :
    Calls Tryz.prog 58 #[v, .int .i64 n] w fun e w' => ∃ v, e = .returned v ∧ OwnI w' base 3 v (putL n l) ∧ Below w.heap.size w w' := by
  obtain ⟨A, c, hf, hr, hlc, hcm, hA0, hA1⟩ := hv.form
  subst hf
  cases A with
  | none =>
    obtain rfl := hA0 rfl
    obtain rfl : l = [] := List.eq_nil_of_length_eq_zero (by omega)
    exact l1Put_none n base w hb0
  | some ad =>
    obtain ⟨g, rfl, _⟩ := hA1 ad rfl
    exact l1Put_some g l c n base w hl hb0 hv hinc
end Go.Proofs.YtkfgmkgbicahgaaGreatDoor

namespace Go.Proofs.YtkfgmkgbicahgaaGreatDoor
open Go.RowKit

/-- A call returned numbers of its own, or nil and false; below the heap's old size nothing has turned. -/
def RetI (B : World) (l : List Int) (ok : Bool) (e : Ending) (w' : World) : Prop :=
  ∃ v, e = .returned (.tuple #[v, .bool ok]) ∧ OwnI w' B.heap.size 3 v (if ok = true then l else []) ∧ Below B.heap.size B w'
end Go.Proofs.YtkfgmkgbicahgaaGreatDoor

namespace Go.Proofs
open Go.Shelf
def Tryz.lays108_ren : Go.Shelf.Ren := ⟨fun | 108 => 67 | n => n, fun | 28 => 22 | 3 => 3 | 0 => 0 | 4 => 4 | n => n, fun | n => n⟩
theorem Tryz.lays108 : Go.Proofs.Lays.n108 Tryz.prog Tryz.lays108_ren := {
  mixed := by kernel_rfl
  f108 := Tryz.func67.trans (congrArg some (by kernel_rfl))
  t0 := Tryz.underlying0
  a0 := Tryz.isAgg0
  z0 := Tryz.sizeOf0
  v0 := Tryz.zeroValue0
  t3 := Tryz.underlying3
  a3 := Tryz.isAgg3
  z3 := Tryz.sizeOf3
  v3 := Tryz.zeroValue3
  t4 := Tryz.underlying4
  a4 := Tryz.isAgg4
  z4 := Tryz.sizeOf4
  v4 := Tryz.zeroValue4
  t28 := Tryz.underlying22
  a28 := Tryz.isAgg22
  z28 := Tryz.sizeOf22
  v28 := Tryz.zeroValue22 }
open Go.Lib in
/-- slices.Index at []int: "Index returns the index of the first occurrence of v in s, or -1 if not present.": IT RETURNS 'Lib.idxOf (the elements) v'; the world is as it was. 'zs': what the cells behind the slice's address hold (its spare capacity too, if you have it); 'zs.take n': its elements. (LAID: no walk: one application.) -/
theorem Tryz.slices_Index_int (b off n c : Nat) (zs : List Int) (x : Int) (w : World) (hz : n ≤ zs.length) (hbig : n ≤ 9223372036854775807) (hc : ∀ j, j < zs.length → w.cell? ⟨b, off + j, none⟩ = some (.int .i64 (zs.getD j 0))) :
    Calls Tryz.prog 67 #[.slice (some ⟨b, off, none⟩) n c, .int .i64 x] w fun e w' => e = .returned (.int .i64 (Lib.idxOf (zs.take n) x)) ∧ w' = w := Any.slices_Index_int Tryz.lays108 b off n c zs x w hz hbig hc
open Go.Lib in
/-- The same at a slice of length 0, a nil one too: no cell is known, none is asked for. (LAID: no walk: one application.) -/
theorem Tryz.slices_Index_int_empty (a : Option Addr) (c : Nat) (x : Int) (w : World) :
    Calls Tryz.prog 67 #[.slice a 0 c, .int .i64 x] w fun e w' => e = .returned (.int .i64 (Lib.idxOf [] x)) ∧ w' = w := Any.slices_Index_int_empty Tryz.lays108 a c x w
def Tryz.lays107_ren : Go.Shelf.Ren := ⟨fun | 107 => 74 | 108 => 67 | n => n, fun | 28 => 22 | 3 => 3 | 4 => 4 | 0 => 0 | n => n, fun | n => n⟩
theorem Tryz.lays107 : Go.Proofs.Lays.n107 Tryz.prog Tryz.lays107_ren := {
  mixed := by kernel_rfl
  f107 := Tryz.func74.trans (congrArg some (by kernel_rfl))
  f108 := Tryz.func67.trans (congrArg some (by kernel_rfl))
  t0 := Tryz.underlying0
  a0 := Tryz.isAgg0
  z0 := Tryz.sizeOf0
  v0 := Tryz.zeroValue0
  t3 := Tryz.underlying3
  a3 := Tryz.isAgg3
  z3 := Tryz.sizeOf3
  v3 := Tryz.zeroValue3
  t4 := Tryz.underlying4
  a4 := Tryz.isAgg4
  z4 := Tryz.sizeOf4
  v4 := Tryz.zeroValue4
  t28 := Tryz.underlying22
  a28 := Tryz.isAgg22
  z28 := Tryz.sizeOf22
  v28 := Tryz.zeroValue22 }
open Go.Lib in
/-- slices.Contains at []int: "Contains reports whether v is present in s.": IT RETURNS 'elements.contains v'; the world is as it was. ITS CALLEE slices.Index IS MET BY ITS OWN CONTRACT OFF THE SHELF (lay that first): no loop is walked here. (LAID: no walk: one application.) -/
theorem Tryz.slices_Contains_int (b off n c : Nat) (zs : List Int) (x : Int) (w : World) (hz : n ≤ zs.length) (hbig : n ≤ 9223372036854775807) (hc : ∀ j, j < zs.length → w.cell? ⟨b, off + j, none⟩ = some (.int .i64 (zs.getD j 0))) :
    Calls Tryz.prog 74 #[.slice (some ⟨b, off, none⟩) n c, .int .i64 x] w fun e w' => e = .returned (.bool ((zs.take n).contains x)) ∧ w' = w := Any.slices_Contains_int Tryz.lays107 b off n c zs x w hz hbig hc
open Go.Lib in
/-- The same at a slice of length 0, a nil one too. (LAID: no walk: one application.) -/
theorem Tryz.slices_Contains_int_empty (a : Option Addr) (c : Nat) (x : Int) (w : World) :
    Calls Tryz.prog 74 #[.slice a 0 c, .int .i64 x] w fun e w' => e = .returned (.bool false) ∧ w' = w := Any.slices_Contains_int_empty Tryz.lays107 a c x w
end Go.Proofs

namespace Go.Proofs.YtkfgmkgbicahgaaGreatDoor.H
open Go.RowKit
set_option linter.unusedVariables false

/-- Two rows are equal. -/
def eqBHole (p s t p' s' t' : Int) : Bool := ((p == p') && ((s == s') && (t == t')))

set_option maxHeartbeats 400000 in
theorem eqHole_any (p s t p' s' t' : Int) (w : World) :
    Calls Tryz.prog 26 #[.agg #[.int .i64 p, .int .i64 s, .int .i64 t], .agg #[.int .i64 p', .int .i64 s', .int .i64 t']] w fun e w' => e = .returned (.bool (eqBHole p s t p' s' t')) ∧ Below w.heap.size w w' := by
  go_enter Tryz.func26, Tryz.ntmps26
  go_wp2
  all_goals (go_ret; exact ⟨ret_bool (by first | (simp [eqBHole, *]; done) | (simp_all [eqBHole]; done) | (rw [Bool.eq_iff_iff]; simp [eqBHole]; omega)), ((Below.refl _ _).alloc (Nat.le_refl _) _).alloc (by simp) _⟩)

end Go.Proofs.YtkfgmkgbicahgaaGreatDoor.H
