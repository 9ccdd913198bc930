/- Texts of the proof, run together: Form3, InsP, IntS, MisP, Put, RetI, TrP, Two, Cmp. -/
import Derived.Test.YtogklldofhcohaaDoorM1q
import Derived.Laws.Rows
import Derived.StillTailTactics
import Derived.Deep.RegionWith
import Derived.Handy
import Derived.LoopTactic
import Derived.Lib.SlicesCompact
import Derived.OwnWalk
namespace Go.Proofs.YtogklldofhcohaaDoor
open Go.RowKit
set_option linter.unusedVariables false

theorem own_row {b n c k : Nat} (h : (Value.slice (some ⟨b, 0, none⟩) n c).ownBlock = some k) : b = k := by simpa [Value.ownBlock] using h
theorem bel1 (V : World) (x : Obj) : Below V.heap.size V (V.drew.alloc x) := (Below.refl _ _).drew.alloc (Nat.le_refl _) _
theorem bel2 (V : World) (x y : Obj) : Below V.heap.size V ((V.drew.alloc x).alloc y) := (bel1 V x).alloc (bel1 V x).size _
theorem heap_old {W : World} {b : Nat} {o e : Obj} (h : W.heap[b]? = some e) : (W.alloc o).heap[b]? = some e := by
  have := (Array.getElem?_eq_some_iff.1 h).1
  show (W.heap.push o)[b]? = _
  rw [Array.getElem?_push, if_neg (by omega)]
  exact h
theorem heap_new1 (V : World) (x e : Obj) : ((V.drew.alloc x).alloc e).heap[V.heap.size + 1]? = some e := by
  have := heap_alloc_new (V.drew.alloc x) e
  simpa using this
theorem Own.form3 {w : World} {base t n c : Nat} {A : Option Addr} {l : List Nt} (h : Own w base t (.slice A n c) l) : (A = none → c = 0) ∧ ∀ ad, A = Option.some ad → ∃ g, ad = ⟨g, 0, none⟩ ∧ base ≤ g := by
  rcases h.2 with ⟨hf, hn⟩ | ⟨g, cap, cur, hf, hg, hh, hnc, hm, hs, ht⟩
  · injection hf with e1 e2 e3
    subst e1 e3
    exact ⟨fun _ => rfl, fun ad h => (by cases h)⟩
  · injection hf with e1 e2 e3
    subst e1
    exact ⟨fun h => (by cases h), fun ad h => ⟨g, (by injection h with h; exact h.symm), hg⟩⟩

end Go.Proofs.YtogklldofhcohaaDoor

namespace Go.Proofs.YtogklldofhcohaaDoor
open Go.RowKit

/-- Number k of a list is in a range and above the one before it. -/
def upAt (lo hi : Int) (l : List Int) (k : Nat) (x : Int) : Prop := inR x lo hi = true ∧ ∀ y, 0 < k → l[k - 1]? = some y → y < x
def UpTo (lo hi : Int) (l : List Int) (k : Nat) : Prop := ∀ i x, i < k → l[i]? = some x → upAt lo hi l i x
def upB (lo hi : Int) (l : List Int) (k : Nat) : Bool :=
  match l[k]? with
  | none => true
  | some x => inR x lo hi && (decide (k = 0) || (match l[k - 1]? with | some y => decide (y < x) | none => true))
def riseB (lo hi : Int) (l : List Int) : Bool := (List.range l.length).all (upB lo hi l)

theorem upB_iff {lo hi : Int} {l : List Int} {k : Nat} {x : Int} (hx : l[k]? = some x) : upB lo hi l k = true ↔ upAt lo hi l k x := by
  have hk := (List.getElem?_eq_some_iff.1 hx).1
  unfold upB upAt
  rw [hx]
  simp only [Bool.and_eq_true, Bool.or_eq_true, decide_eq_true_eq]
  refine and_congr Iff.rfl ⟨?_, ?_⟩
  · intro h y h0 hy
    rcases h with h | h
    · omega
    · rw [hy] at h; exact of_decide_eq_true h
  · intro h
    rcases Nat.eq_zero_or_pos k with h0 | h0
    · exact .inl h0
    · right
      have hy : l[k - 1]? = some l[k - 1] := List.getElem?_eq_getElem (by omega)
      rw [hy]
      exact decide_eq_true (h _ h0 hy)
theorem riseB_iff (lo hi : Int) (l : List Int) : riseB lo hi l = true ↔ UpTo lo hi l l.length := by
  unfold riseB
  rw [List.all_eq_true]
  constructor
  · intro h i x hi hx
    exact (upB_iff hx).1 (h i (List.mem_range.2 hi))
  · intro h i hi
    have hi := List.mem_range.1 hi
    exact (upB_iff (List.getElem?_eq_getElem hi)).2 (h i _ hi (List.getElem?_eq_getElem hi))
theorem UpTo.zero (lo hi : Int) (l : List Int) : UpTo lo hi l 0 := fun _ _ h => absurd h (by omega)
theorem UpTo.succ {lo hi : Int} {l : List Int} {k : Nat} {x : Int} (h : UpTo lo hi l k) (hx : l[k]? = some x) (ho : upAt lo hi l k x) : UpTo lo hi l (k + 1) := by
  intro i y hi hy
  rcases Nat.lt_or_ge i k with hik | hik
  · exact h i y hik hy
  · obtain rfl : i = k := by omega
    rw [hx] at hy; injection hy with hy; subst hy; exact ho
theorem riseB_not {lo hi : Int} {l : List Int} {k : Nat} {x : Int} (hx : l[k]? = some x) (ho : ¬ upAt lo hi l k x) : riseB lo hi l = false := by
  cases hb : riseB lo hi l with
  | false => rfl
  | true => exact absurd ((riseB_iff lo hi l).1 hb k x (List.getElem?_eq_some_iff.1 hx).1 hx) ho

/-- An instrument is valid. -/
def gdI (P : List Int) (r : Int) : Bool := inR P.length 1 20 && (riseB 24 96 P && inR r 1 20)
theorem gdI_iff (P : List Int) (r : Int) : gdI P r = true ↔ (1 ≤ P.length ∧ P.length ≤ 20) ∧ UpTo 24 96 P P.length ∧ 1 ≤ r ∧ r ≤ 20 := by
  unfold gdI
  rw [Bool.and_eq_true, Bool.and_eq_true, riseB_iff]
  simp [inR]
  omega
theorem UpTo.range {lo hi : Int} {l : List Int} (h : UpTo lo hi l l.length) {x : Int} (hx : x ∈ l) : lo ≤ x ∧ x ≤ hi := by
  obtain ⟨i, hi⟩ := List.mem_iff_getElem?.1 hx
  have := (h i x (List.getElem?_eq_some_iff.1 hi).1 hi).1
  simpa [inR] using this
/-- A list that rises is strictly increasing throughout. -/
theorem UpTo.inc {lo hi : Int} : ∀ {l : List Int}, UpTo lo hi l l.length → l.Pairwise (fun a b : Int => a < b) := by
  intro l h
  have key : ∀ (i j : Nat) (x y : Int), i < j → l[i]? = some x → l[j]? = some y → x < y := by
    intro i j x y hij
    induction j generalizing y with
    | zero => omega
    | succ j ih =>
      intro hx hy
      have hl := (List.getElem?_eq_some_iff.1 hy).1
      have hz : l[j]? = some l[j] := List.getElem?_eq_getElem (by omega)
      have h1 := (h (j + 1) y hl hy).2 l[j] (by omega) (by simp)
      rcases Nat.lt_or_ge i j with hlt | hge
      · have := ih _ hlt hx hz; omega
      · obtain rfl : i = j := by omega
        rw [hz] at hx; injection hx with hx; omega
  rw [List.pairwise_iff_getElem]
  intro i j hi hj hij
  exact key i j _ _ hij (List.getElem?_eq_getElem hi) (List.getElem?_eq_getElem hj)
theorem upTo_of_inc {lo hi : Int} {l : List Int} (h : l.Pairwise (fun a b : Int => a < b)) (hr : ∀ x ∈ l, lo ≤ x ∧ x ≤ hi) : UpTo lo hi l l.length := by
  intro i x hi hx
  obtain ⟨hi', e⟩ := List.getElem?_eq_some_iff.1 hx
  refine ⟨?_, fun y h0 hy => ?_⟩
  · have := hr x (List.mem_of_getElem? hx); simp [inR]; omega
  · obtain ⟨hi2, e2⟩ := List.getElem?_eq_some_iff.1 hy
    have := List.pairwise_iff_getElem.1 h (i - 1) i (by omega) hi' (by omega)
    rw [← e, ← e2]; exact this

/-- The place of the first p in a list whose first place is k, or -1. -/
def trkF (p : Int) : List Int → Int → Int
  | [], _ => -1
  | x :: r, k => if x = p then k else trkF p r (k + 1)
def trk (p : Int) (l : List Int) : Int := trkF p l 0
def hasB (l : List Int) (p : Int) : Bool := decide (p ∈ l)
theorem trkF_drop (p : Int) (l : List Int) (k : Nat) (x : Int) (hx : l[k]? = some x) : trkF p (l.drop k) k = if x = p then (k : Int) else trkF p (l.drop (k + 1)) ((k + 1 : Nat) : Int) := by
  obtain ⟨h, e⟩ := List.getElem?_eq_some_iff.1 hx
  rw [List.drop_eq_getElem_cons h, e, trkF]
  simp
theorem trkF_spec (p : Int) (l : List Int) (k : Int) (hk : 0 ≤ k) : (p ∈ l ∧ k ≤ trkF p l k ∧ trkF p l k < k + l.length) ∨ (p ∉ l ∧ trkF p l k = -1) := by
  induction l generalizing k with
  | nil => right; simp [trkF]
  | cons x l ih =>
    unfold trkF
    by_cases hx : x = p
    · left; rw [if_pos hx]; subst hx; simp; omega
    · rw [if_neg hx]
      rcases ih (k + 1) (by omega) with ⟨a, b, c⟩ | ⟨a, b⟩
      · left; refine ⟨.tail _ a, by omega, by simp; omega⟩
      · right; refine ⟨fun h => ?_, b⟩
        rcases List.mem_cons.1 h with h | h
        · exact hx h.symm
        · exact a h
theorem trk_neg (p : Int) (l : List Int) : trk p l < 0 ↔ p ∉ l := by
  rcases trkF_spec p l 0 (by omega) with ⟨a, b, c⟩ | ⟨a, b⟩
  · unfold trk; simp [a]; omega
  · unfold trk; simp [a, b]
theorem hasB_iff (l : List Int) (p : Int) : hasB l p = true ↔ p ∈ l := by simp [hasB]
theorem hasB_trk (l : List Int) (p : Int) : hasB l p = decide (0 ≤ trk p l) := by
  have := trk_neg p l
  rw [Bool.eq_iff_iff, hasB_iff, decide_eq_true_eq]
  by_cases h : p ∈ l
  · simp [h] at this ⊢; omega
  · simp [h] at this ⊢; omega
theorem trk_lt (p : Int) (l : List Int) : trk p l < l.length ∧ -1 ≤ trk p l := by
  rcases trkF_spec p l 0 (by omega) with ⟨a, b, c⟩ | ⟨a, b⟩
  · unfold trk; omega
  · unfold trk; rw [b]; omega
end Go.Proofs.YtogklldofhcohaaDoor

namespace Go.Proofs.YtogklldofhcohaaDoor
open Go.RowKit
set_option linter.unusedVariables false

set_option maxRecDepth 100000 in
set_option maxHeartbeats 1000000 in
theorem eqIntS_any (A B : Option Addr) (l m : List Int) (c d : Nat) (w : World) (hl : l.length ≤ 9223372036854775807) (hm : m.length ≤ 9223372036854775807) (hA : RI w A l) (hB : RI w B m) :
    Calls Tryd.prog 27 #[.slice A l.length c, .slice B m.length d] w fun e w' => e = .returned (.bool (decide (l = m))) ∧ Below w.heap.size w w' := by
  by_cases hlen : l.length = m.length
  · go_enter Tryd.func27, Tryd.ntmps27
    have hne : ((l.length : Int) != (m.length : Int)) = false := by simp [hlen]
    have HLEN := Lib.hid hlen
    clear hlen
    go_wp2
    go_loopw [5] (fun i wr => ∃ k : Nat, k ≤ l.length ∧ i = .int .i64 k ∧ l.take k = m.take k ∧ Below w.heap.size w wr)
      (fun i _ => l.length - (intOf i).toNat)
    case atStart => exact ⟨0, Nat.zero_le _, rfl, by simp, Below.refl _ _⟩
    case round =>
      obtain ⟨k, hk, rfl, htake, hb⟩ := hrel
      have HT := Lib.hid htake
      clear htake
      by_cases hlt : k < l.length
      · have hlt' : k < m.length := by have := HLEN.out; omega
        have hx : l[k]? = some l[k] := List.getElem?_eq_getElem hlt
        have hy : m[k]? = some m[k] := List.getElem?_eq_getElem hlt'
        generalize l[k] = x at hx
        generalize m[k] = y at hy
        obtain ⟨g, o, rfl, hg, h0⟩ := (hA.below hb) k _ hx
        obtain ⟨g', o', rfl, hg', h0'⟩ := (hB.below hb) k _ hy
        have i1 : (0 : Int) ≤ (k : Int) := by omega
        have i2 : (k : Int) < (l.length : Int) := by omega
        have i3 : (k : Int) < (m.length : Int) := by omega
        have HX := Lib.hid hx
        have HY := Lib.hid hy
        clear hx hy hA hB
        by_cases he : x = y
        · subst he
          go_wp2_with fail
          go_region
          all_goals
            go_wp2
            go_roundw
            case rel =>
              refine ⟨k + 1, by omega, by go_num, ?_, hb.drew⟩
              rw [List.take_add_one, List.take_add_one, HT.out, HX.out, HY.out]
            case measure => simp [intOf]; omega
        · have hne2 : (x != y) = true := by simp [he]
          go_wp2_with fail
          go_region
          all_goals
            go_wp2
            go_ret
            refine ⟨ret_bool ?_, hb.drew⟩
            have : l ≠ m := by
              rintro rfl
              have := HX.out.symm.trans HY.out
              simp at this
              exact he this
            simp [this]
      · obtain rfl : k = l.length := by omega
        go_wp2
        go_ret
        refine ⟨ret_bool ?_, hb⟩
        have : l = m := by
          have h := HT.out
          rw [List.take_length, HLEN.out, List.take_length] at h
          exact h
        simp [this]
  · go_enter Tryd.func27, Tryd.ntmps27
    have hne : ((l.length : Int) != (m.length : Int)) = true := by simp; omega
    go_wp2
    go_ret
    exact ⟨ret_bool (by simp; intro h; exact hlen (by rw [h])), Below.refl _ _⟩

set_option maxRecDepth 100000 in
set_option maxHeartbeats 1000000 in
theorem markIntS_any (v : Value) (l : List Int) (K : Int) (base : Nat) (w : World) (hn : l.length ≤ 1048576) (hK : 0 ≤ K) (hK' : K ≤ 1048576) (hv : OwnI w base 3 v l) :
    Calls Tryd.prog 28 #[v, .int .i64 K] w fun e w' => e = .returned (.int .i64 (K + l.length)) ∧ OwnI w' base 3 v (mki l.length K) ∧ w.grownBy w' v.ownBlock := by
  have hv0 := hv
  rcases hv.2 with ⟨rfl, h0⟩ | ⟨g, cap, cur, rfl, hg, hh, hnc, hm, hs, ht⟩
  · obtain rfl : l = [] := List.eq_nil_of_length_eq_zero h0
    go_enter Tryd.func28, Tryd.ntmps28
    go_wp2
    go_rounds 1
    go_ret
    exact ⟨ret_int (by simp), hv0, World.grownBy.refl w _⟩
  · have hlt : g < w.heap.size := (hv0.lt _ rfl).2
    clear hh hs ht cur
    go_enter Tryd.func28, Tryd.ntmps28
    go_wp2
    go_loopw [1, 5] (fun q i wr => ∃ k : Nat, k ≤ l.length ∧ i = .int .i64 k ∧ q = .int .i64 (K + k) ∧ OwnI wr base 3 (.slice (some ⟨g, 0, none⟩) l.length cap) (mki k K ++ l.drop k) ∧ w.grownBy wr (some g))
      (fun _ i _ => l.length - (intOf i).toNat)
    case atStart => exact ⟨0, Nat.zero_le _, rfl, by simp, by simpa [mki] using hv0, World.grownBy.refl w _⟩
    case round =>
      obtain ⟨k, hk, rfl, rfl, hown, hgr⟩ := hrel
      have hL : (mki k K ++ l.drop k).length = l.length := by simp [mki_length]; omega
      by_cases hk2 : k < l.length
      · unfold OwnI at hown
        rw [hL] at hown
        have f0 := hown.frozenAt k
        have c0 : ∃ u, wr.cell? ⟨g, k, none⟩ = some u := by rw [hown.cellAt _ (by omega)]; exact ⟨_, List.getElem?_eq_getElem (by rw [ci_length, hL]; omega)⟩
        obtain ⟨u0, c0⟩ := c0
        have H := Lib.hid hown
        have HL := Lib.hid hL
        clear hown hL hv hv0
        go_wp2
        go_roundw
        case rel =>
          have s1 := H.out.stored k (.int .i64 (K + k))
          have k2 := s1.1
          have e1 : (ci (mki k K ++ l.drop k)).set k (.int .i64 (K + k)) = ci (mki (k + 1) K ++ l.drop (k + 1)) := by
            rw [← mki_set l K k hk2]; simp [ci, List.map_set]
          rw [e1] at k2
          have hL' : (mki (k + 1) K ++ l.drop (k + 1)).length = l.length := by simp [mki_length]; omega
          refine ⟨k + 1, by omega, by go_num, by first | go_num | (congr 1; omega), ?_, hgr.trans s1.2⟩
          unfold OwnI
          rw [hL']
          exact k2
        case measure => simp [intOf]; omega
      · obtain rfl : k = l.length := by omega
        go_wp2
        go_ret
        exact ⟨rfl, by simpa using hown, hgr⟩

end Go.Proofs.YtogklldofhcohaaDoor

namespace Go.Proofs.YtogklldofhcohaaDoor
open Go.RowKit

def putF (f : Nt → Bool) (acc : List Int) (x : Nt) : List Int := if f x = true then putL x.1 acc else acc
/-- The model's way: put one after another. -/
def atF (f : Nt → Bool) (l : List Nt) : List Int := l.foldl (putF f) []
/-- The program's way: all of them, in the score's order. -/
def psF (f : Nt → Bool) : List Nt → List Int
  | [] => []
  | x :: l => if f x = true then x.1 :: psF f l else psF f l
theorem psF_append (f : Nt → Bool) (l m : List Nt) : psF f (l ++ m) = psF f l ++ psF f m := by
  induction l with
  | nil => rfl
  | cons x l ih => simp only [List.cons_append, psF, ih]; split <;> rfl
theorem psF_snoc (f : Nt → Bool) (l : List Nt) (k : Nat) (x : Nt) (h : l[k]? = some x) : psF f (l.take (k + 1)) = psF f (l.take k) ++ (if f x = true then [x.1] else []) := by
  rw [List.take_add_one, h, psF_append]
  simp only [Option.toList, psF]
theorem psF_length (f : Nt → Bool) (l : List Nt) : (psF f l).length ≤ l.length := by
  induction l with
  | nil => simp [psF]
  | cons x l ih => simp only [psF]; split <;> simp <;> omega
theorem atF_snoc (f : Nt → Bool) (l : List Nt) (k : Nat) (x : Nt) (h : l[k]? = some x) : atF f (l.take (k + 1)) = if f x = true then putL x.1 (atF f (l.take k)) else atF f (l.take k) := by
  unfold atF
  rw [List.take_add_one, h, List.foldl_append]
  rfl
theorem atF_inc (f : Nt → Bool) (l : List Nt) : ∀ k, k ≤ l.length → Inc (atF f (l.take k)) := by
  intro k
  induction k with
  | zero => intro _; simp [atF, Inc]
  | succ k ih =>
    intro hk
    have hx : l[k]? = some l[k] := List.getElem?_eq_getElem (by omega)
    rw [atF_snoc f l k _ hx]
    split
    · exact putL_inc _ _ (ih (by omega))
    · exact ih (by omega)
theorem atF_length (f : Nt → Bool) (l : List Nt) : ∀ k, k ≤ l.length → (atF f (l.take k)).length ≤ k := by
  intro k
  induction k with
  | zero => intro _; simp [atF]
  | succ k ih =>
    intro hk
    have hx : l[k]? = some l[k] := List.getElem?_eq_getElem (by omega)
    rw [atF_snoc f l k _ hx]
    have := ih (by omega)
    split
    · have := putL_length (l[k]).1 (atF f (l.take k)); omega
    · omega
theorem mem_atF (f : Nt → Bool) (l : List Nt) (y : Int) : ∀ k, k ≤ l.length → (y ∈ atF f (l.take k) ↔ y ∈ psF f (l.take k)) := by
  intro k
  induction k with
  | zero => intro _; simp [atF, psF]
  | succ k ih =>
    intro hk
    have hx : l[k]? = some l[k] := List.getElem?_eq_getElem (by omega)
    rw [atF_snoc f l k _ hx, psF_snoc f l k _ hx]
    have ih := ih (by omega)
    split
    · rw [mem_putL, ih]; simp only [List.mem_append, List.mem_singleton]; exact or_comm
    · simpa using ih

theorem compactUpTo_sorted (zs : List Int) (h : zs.Pairwise (· ≤ ·)) : ∀ m, m ≤ zs.length → (Lib.compactUpTo zs.toArray m).Pairwise (· < ·) ∧ ∀ y, y ∈ Lib.compactUpTo zs.toArray m ↔ y ∈ zs.take m := by
  intro m
  induction m with
  | zero => intro _; simp [Lib.compactUpTo]
  | succ m ih =>
    intro hm
    obtain ⟨a, b⟩ := ih (by omega)
    have hmz : m < zs.length := by omega
    have hget : ∀ j, j < zs.length → zs.toArray[j]! = zs[j]! := fun j hj => by simp
    have hm1 : zs.toArray[m]! = zs[m] := by rw [hget m hmz, getElem!_pos zs m hmz]
    rw [Lib.compactUpTo_succ, hm1]
    have htake : zs.take (m + 1) = zs.take m ++ [zs[m]] := by rw [List.take_add_one, List.getElem?_eq_getElem hmz]; rfl
    rw [htake]
    cases hk : Lib.keeps zs.toArray m with
    | true =>
      rw [if_pos rfl]
      have hlt : ∀ y, y ∈ zs.take m → y < zs[m] := by
        intro y hy
        obtain ⟨j, hj⟩ := List.mem_iff_getElem?.1 hy
        rw [List.getElem?_take] at hj
        split at hj
        · rename_i hjm
          obtain ⟨hjl, e⟩ := List.getElem?_eq_some_iff.1 hj
          have hm0 : m ≠ 0 := by omega
          simp only [Lib.keeps, decide_eq_true_eq] at hk
          have hne : zs[m] ≠ zs[m - 1] := by
            rcases hk with hk | hk
            · exact absurd hk hm0
            · rw [hm1, hget (m - 1) (by omega), getElem!_pos zs (m - 1) (by omega)] at hk
              exact hk
          have h1 : zs[m - 1] ≤ zs[m] := List.pairwise_iff_getElem.1 h (m - 1) m (by omega) hmz (by omega)
          have h2 : zs[j] ≤ zs[m - 1] := by
            rcases Nat.lt_or_ge j (m - 1) with hlt | hge
            · exact List.pairwise_iff_getElem.1 h j (m - 1) hjl (by omega) hlt
            · have : j = m - 1 := by omega
              subst this; exact Int.le_refl _
          rw [← e]; omega
        · cases hj
      refine ⟨?_, fun y => ?_⟩
      · rw [List.pairwise_append]
        refine ⟨a, by simp, fun x hx y hy => ?_⟩
        simp only [List.mem_singleton] at hy
        subst hy
        exact hlt x ((b x).1 hx)
      · rw [List.mem_append, List.mem_append, b y]
    | false =>
      refine ⟨by simpa using a, fun y => ?_⟩
      have hmem : zs[m] ∈ zs.take m := by
        simp only [Lib.keeps, decide_eq_false_iff_not, not_or, Decidable.not_not] at hk
        obtain ⟨hm0, he⟩ := hk
        rw [hm1, hget (m - 1) (by omega), getElem!_pos zs (m - 1) (by omega)] at he
        rw [he, List.mem_iff_getElem?]
        exact ⟨m - 1, by rw [List.getElem?_take, if_pos (by omega), List.getElem?_eq_getElem]⟩
      simp only [Bool.false_eq_true, if_false, List.append_nil, List.mem_append, List.mem_singleton, b y]
      constructor
      · exact .inl
      · rintro (h | h)
        · exact h
        · rw [h]; exact hmem
theorem inc_ext {a b : List Int} (ha : a.Pairwise (· < ·)) (hb : b.Pairwise (· < ·)) (h : ∀ y, y ∈ a ↔ y ∈ b) : a = b := by
  have hp : a.Perm b := (List.perm_ext_iff_of_nodup (ha.imp (fun h => by omega)) (hb.imp (fun h => by omega))).2 h
  exact hp.eq_of_pairwise (fun x y _ _ h1 h2 => by omega) (ha.imp fun h => Int.le_of_lt h) (hb.imp fun h => Int.le_of_lt h)
theorem inc_lt : ∀ {l : List Int}, Inc l → l.Pairwise (· < ·)
  | [], _ => List.Pairwise.nil
  | _ :: _, h => List.Pairwise.cons h.1 (inc_lt h.2)
theorem inc_of_lt : ∀ {l : List Int}, l.Pairwise (· < ·) → Inc l
  | [], _ => trivial
  | _ :: _, h => ⟨(List.pairwise_cons.1 h).1, inc_of_lt (List.pairwise_cons.1 h).2⟩
/-- Sorted and made single: as put one after another. -/
theorem compact_atF (f : Nt → Bool) (l : List Nt) : Lib.compact ((psF f l).mergeSort fun x y => decide (x ≤ y)) = atF f l := by
  have hs : ((psF f l).mergeSort fun x y => decide (x ≤ y)).Pairwise (· ≤ ·) := by
    have := List.pairwise_mergeSort (le := fun (x y : Int) => decide (x ≤ y)) (fun a b c => by simp; omega) (fun a b => by simp; omega) (psF f l)
    exact this.imp fun h => by simpa using h
  obtain ⟨a, b⟩ := compactUpTo_sorted _ hs _ (Nat.le_refl _)
  have hi := atF_inc f l l.length (Nat.le_refl _)
  rw [List.take_length] at hi
  refine inc_ext a (inc_lt hi) fun y => ?_
  have hm := mem_atF f l y l.length (Nat.le_refl _)
  rw [List.take_length] at hm
  rw [hm]
  rw [List.take_length] at b
  exact (b y).trans (List.mergeSort_perm _ _).mem_iff
end Go.Proofs.YtogklldofhcohaaDoor

namespace Go.Proofs.YtogklldofhcohaaDoor
open Go.RowKit
set_option linter.unusedVariables false
set_option linter.unusedSimpArgs false

theorem Tryd.info_int : (Tryd.prog.info? 3).map (fun i => (i.zero, i.size, i.bytes)) = some (some (.int .i64 0), 1, 8) := by kernel_rfl

theorem RI.at {w : World} {g : Nat} {l : List Int} {j : Nat} {x : Int} (h : RI w (some ⟨g, 0, none⟩) l) (hx : l[j]? = some x) : w.cell? ⟨g, j, none⟩ = some (.int .i64 x) := by
  obtain ⟨g', o', hgo, _, h0⟩ := h j x hx
  simp only [Option.some.injEq, Addr.mk.injEq, and_true] at hgo
  obtain ⟨rfl, rfl⟩ := hgo
  simpa using h0

theorem wpList_appI (w : World) {ops : Array Oper} {rest : List Oper} {o : Oper} {a : Act} {Q : Exit → Act → World → Prop} (hgd : o.guard = none) (s x : Operand)
    (ho : o.op = .call { callee := .builtin .append, args := #[s, x], argTypes := #[22, 22] })
    (base : Nat) (v : Value) (xs : List Int) (hs : a.eval s = v) (hown : OwnI w base 3 v xs)
    (A : Option Addr) (m c : Nat) (news : List Int) (hx : a.eval x = .slice A m c) (hl : news.length = m) (hA : A = none → c = 0)
    (hnews : ∀ j y, news[j]? = some y → ∃ ad, A = some ad ∧ w.cell? (ad.add j) = some (.int .i64 y)) (hsz : xs.length + m ≤ 4000000) (hbase : base ≤ w.heap.size)
    (h : ∀ v' w', OwnI w' base 3 v' (xs ++ news) → w.grownBy w' v.ownBlock → (v'.ownBlock = v.ownBlock ∨ v'.ownBlock = some w.heap.size) → wpList Tryd.prog ops Q rest (a.put o.dst v') w') :
    wpList Tryd.prog ops Q (o :: rest) a w := by
  obtain ⟨i, hi, hz, hs1, hb1⟩ := info_parts Tryd.info_int
  refine wpList_app w hgd s x 22 ho base 3 i (.int .i64 0) 1 8 Tryd.underlying22 hi hz hs1 hb1 rfl (by decide) v xs.length (ci xs) hs hown A m c (ci news) hx (by rw [ci_length, hl, Nat.mul_one]) hA ?_ ?_ (by unfold maxLen; omega) (by omega) hbase ?_
  · intro j u hu
    simp only [ci, List.getElem?_map, Option.map_eq_some_iff] at hu
    obtain ⟨y, hy, rfl⟩ := hu
    exact hnews j y hy
  · intro u hu
    simp only [ci, List.mem_map] at hu
    obtain ⟨y, _, rfl⟩ := hu
    rfl
  · intro v' w' h1 h2 h3
    refine h v' w' ?_ h2 h3
    unfold OwnI
    rw [ci_append, List.length_append, hl]
    exact h1

theorem get_of_take {l : List Int} {k j : Nat} {y : Int} (h : (l.take k)[j]? = some y) : l[j]? = some y := by
  rw [List.getElem?_take] at h
  split at h
  · exact h
  · cases h
theorem RI.takeAt {w : World} {g : Nat} {l : List Int} {k j : Nat} {y : Int} (h : RI w (some ⟨g, 0, none⟩) l) (hx : (l.take k)[j]? = some y) : w.cell? ((⟨g, 0, none⟩ : Addr).add j) = some (.int .i64 y) := by
  rw [Addr.add_lit, Nat.zero_add]
  exact h.at (get_of_take hx)
theorem one_at {w : World} {b : Nat} {n : Int} (h : w.cell? ⟨b, 0, none⟩ = some (.int .i64 n)) {j : Nat} {y : Int} (hy : [n][j]? = some y) : ∃ ad, (some ⟨b, 0, none⟩ : Option Addr) = some ad ∧ w.cell? (ad.add j) = some (.int .i64 y) := by
  cases j with
  | zero => simp at hy; subst hy; exact ⟨_, rfl, by rw [Addr.add_lit]; exact h⟩
  | succ j => simp at hy

theorem one_new (w1 : World) (n : Int) : (w1.alloc (.cells #[.int .i64 n] 3)).cell? ⟨w1.heap.size, 0, none⟩ = some (.int .i64 n) := by rw [World.cell?_alloc_new]; rfl
theorem RI.dropAt {w : World} {g : Nat} {l : List Int} {k c : Nat} {A : Option Addr} (h : RI w (some ⟨g, 0, none⟩) l) (hlc : l.length ≤ c) (hA : ¬ c = k → A = some ⟨g, 0 + k, none⟩) (j : Nat) (y : Int) (hx : (l.drop k)[j]? = some y) : ∃ ad, A = some ad ∧ w.cell? (ad.add j) = some (.int .i64 y) := by
  rw [List.getElem?_drop] at hx
  have := (List.getElem?_eq_some_iff.1 hx).1
  refine ⟨_, hA (by omega), ?_⟩
  rw [Addr.add_lit, Nat.zero_add]
  exact h.at hx

theorem OwnI.lit (w : World) (base : Nat) (xs : List Int) (cs : Array Value) (hcs : cs.toList = ci xs) (hl : xs.length ≤ 1000) (hb : base ≤ w.heap.size) : OwnI (w.alloc (.cells cs 3)) base 3 (.slice (some ⟨w.heap.size, 0, none⟩) xs.length xs.length) xs := by
  have h := World.ownsRow_lit (base := base) (e := 3) (size := 1) w cs xs.length hb (by unfold maxLen; omega) (by rw [← Array.length_toList, hcs, ci_length, Nat.mul_one])
  rw [hcs] at h
  exact h

end Go.Proofs.YtogklldofhcohaaDoor

namespace Go.Proofs.YtogklldofhcohaaDoor
open Go.RowKit

/-- A call returned numbers of its own, or nil and false; below the heap's old size nothing has turned. -/
def RetI (B : World) (l : List Int) (ok : Bool) (e : Ending) (w' : World) : Prop :=
  ∃ v, e = .returned (.tuple #[v, .bool ok]) ∧ OwnI w' B.heap.size 3 v (if ok = true then l else []) ∧ Below B.heap.size B w'
end Go.Proofs.YtogklldofhcohaaDoor

namespace Go.Proofs.YtogklldofhcohaaDoor
set_option linter.unusedVariables false

/-- A note is lost with a transposition. -/
def lostB (l : List Int) (b : Int) (x : Nt) : Bool := !hasB l (x.1 + b)
/-- How many notes are lost. -/
def lossI (l : List Int) (m : List Nt) (b : Int) : Int := ((m.countP (lostB l b) : Nat) : Int)
theorem lossI_nil (l : List Int) (b : Int) : lossI l [] b = 0 := rfl
theorem lossI_snoc (l : List Int) (m : List Nt) (b : Int) (k : Nat) (x : Nt) (h : m[k]? = some x) : lossI l (m.take (k + 1)) b = lossI l (m.take k) b + if lostB l b x = true then 1 else 0 := by
  unfold lossI
  rw [List.take_add_one, h, Option.toList_some, List.countP_append]
  simp only [List.countP_cons, List.countP_nil]
  split <;> simp
theorem lossI_bound (l : List Int) (m : List Nt) (b : Int) : 0 ≤ lossI l m b ∧ lossI l m b ≤ m.length := by
  unfold lossI
  have := List.countP_le_length (p := lostB l b) (l := m)
  omega
theorem lossI_take (l : List Int) (m : List Nt) (b : Int) (k : Nat) (h : m.length ≤ 30) : 0 ≤ lossI l (m.take k) b ∧ lossI l (m.take k) b ≤ 30 := by
  have := lossI_bound l (m.take k) b
  have h2 : (m.take k).length ≤ m.length := by simp; omega
  omega

/-- The places of the array that are true when the first k notes are looked at. -/
def lostF (l : List Int) (m : List Nt) (b : Int) (k j : Nat) : Bool := decide (j < k) && (m[j]?).any (lostB l b)
theorem lostF_zero (l : List Int) (m : List Nt) (b : Int) (j : Nat) : lostF l m b 0 j = false := by simp [lostF]
theorem lostF_step (l : List Int) (m : List Nt) (b : Int) (k j : Nat) (x : Nt) (h : m[k]? = some x) : lostF l m b (k + 1) j = if j = k then lostB l b x else lostF l m b k j := by
  unfold lostF
  by_cases e : j = k
  · subst e
    rw [if_pos rfl, h]
    simp
  · rw [if_neg e]
    have : decide (j < k + 1) = decide (j < k) := by rw [decide_eq_decide]; omega
    rw [this]
/-- All of them. -/
def lostL (l : List Int) (m : List Nt) (b : Int) (j : Nat) : Bool := lostF l m b m.length j
theorem lostL_eq (l : List Int) (m : List Nt) (b : Int) (j : Nat) : lostL l m b j = (m[j]?).any (lostB l b) := by
  unfold lostL lostF
  by_cases h : j < m.length
  · simp [h]
  · rw [List.getElem?_eq_none (by omega)]
    simp
/-- How many of the first n places are true. -/
def trueN (f : Nat → Bool) (n : Nat) : Int := (((List.range n).countP f : Nat) : Int)
theorem trueN_zero (f : Nat → Bool) : trueN f 0 = 0 := rfl
theorem trueN_succ (f : Nat → Bool) (n : Nat) : trueN f (n + 1) = trueN f n + if f n = true then 1 else 0 := by
  unfold trueN
  rw [List.range_succ, List.countP_append]
  simp only [List.countP_cons, List.countP_nil]
  split <;> simp
theorem trueN_bound (f : Nat → Bool) (n : Nat) : 0 ≤ trueN f n ∧ trueN f n ≤ n := by
  unfold trueN
  have := List.countP_le_length (p := f) (l := List.range n)
  rw [List.length_range] at this
  omega
theorem trueN_lost (l : List Int) (m : List Nt) (b : Int) : ∀ n, trueN (lostL l m b) n = lossI l (m.take n) b := by
  intro n
  induction n with
  | zero => simp [lossI, trueN]
  | succ n ih =>
    rw [trueN_succ, ih, lostL_eq]
    cases h : m[n]? with
    | some x => rw [lossI_snoc l m b n x h]; simp
    | none =>
      have hn : m.length ≤ n := by
        rcases Nat.lt_or_ge n m.length with h' | h'
        · rw [List.getElem?_eq_getElem h'] at h; cases h
        · exact h'
      rw [List.take_of_length_le hn, List.take_of_length_le (by omega)]
      simp
theorem trueN_loss (l : List Int) (m : List Nt) (b : Int) (h : m.length ≤ 30) : trueN (lostL l m b) 30 = lossI l m b := by
  rw [trueN_lost, List.take_of_length_le h]
/-- No place is true just where nothing is lost. -/
theorem none_lost (l : List Int) (m : List Nt) (b : Int) (h : m.length ≤ 30) : (∀ j, j < 30 → lostL l m b j = false) ↔ lossI l m b = 0 := by
  rw [← trueN_loss l m b h]
  unfold trueN
  rw [show ((((List.range 30).countP (lostL l m b) : Nat) : Int) = 0) ↔ (List.range 30).countP (lostL l m b) = 0 from by omega, List.countP_eq_zero]
  constructor
  · intro h j hj
    rw [h j (List.mem_range.1 hj)]; simp
  · intro h j hj
    have := h j (List.mem_range.2 hj)
    simpa using this

/-- The losses of the first k transpositions, from -24 on. -/
def tabL (l : List Int) (m : List Nt) (k : Nat) : List Int := (List.range k).map fun (i : Nat) => lossI l m ((i : Int) - 24)
theorem tabL_length (l : List Int) (m : List Nt) (k : Nat) : (tabL l m k).length = k := by simp [tabL]
theorem tabL_succ (l : List Int) (m : List Nt) (k : Nat) (b : Int) (hb : (k : Int) - 24 = b) : tabL l m (k + 1) = tabL l m k ++ [lossI l m b] := by
  subst hb; simp [tabL, List.range_succ]
/-- Those of them with which nothing is lost. -/
def fullL (l : List Int) (m : List Nt) (k : Nat) : List Int := ((List.range k).filter fun (i : Nat) => decide (lossI l m ((i : Int) - 24) = 0)).map fun (i : Nat) => (i : Int) - 24
theorem fullL_length (l : List Int) (m : List Nt) (k : Nat) : (fullL l m k).length ≤ k := by
  unfold fullL
  rw [List.length_map]
  exact Nat.le_trans (List.length_filter_le _ _) (by simp)
theorem fullL_succ (l : List Int) (m : List Nt) (k : Nat) (b : Int) (hb : (k : Int) - 24 = b) : fullL l m (k + 1) = if lossI l m b = 0 then fullL l m k ++ [b] else fullL l m k := by
  subst hb
  unfold fullL
  rw [List.range_succ, List.filter_append, List.map_append]
  by_cases h : lossI l m ((k : Int) - 24) = 0
  · rw [if_pos h, List.filter_cons_of_pos (by simp [h])]; simp
  · rw [if_neg h, List.filter_cons_of_neg (by simp [h])]; simp

/-- The order in which transpositions are looked at: the nearest ones to 0 first, negative ones before. -/
def ordL (k : Nat) : List Int := (List.range k).flatMap fun (i : Nat) => [-((i : Int) + 1), (i : Int) + 1]
theorem ordL_succ (k : Nat) : ordL (k + 1) = ordL k ++ [-((k : Int) + 1), (k : Int) + 1] := by simp [ordL, List.range_succ]
theorem ordL_length (k : Nat) : (ordL k).length = k * 2 := by
  induction k with
  | zero => rfl
  | succ k ih => rw [ordL_succ, List.length_append, ih]; simp; omega
theorem ordL_bound (k : Nat) (x : Int) (h : x ∈ ordL k) : -(k : Int) ≤ x ∧ x ≤ k := by
  induction k with
  | zero => simp [ordL] at h
  | succ k ih =>
    rw [ordL_succ, List.mem_append] at h
    rcases h with h | h
    · have := ih h; omega
    · simp at h; omega
/-- One of them is looked at: only a less loss replaces one that was found before. -/
def bestS (f : Int → Int) (s : Int × Int) (b : Int) : Int × Int := if f b < s.2 then (b, f b) else s
def bestL (f : Int → Int) (L : List Int) : Int × Int := L.foldl (bestS f) (0, f 0)
theorem bestL_snoc (f : Int → Int) (L : List Int) (k : Nat) (x : Int) (h : L[k]? = some x) : bestL f (L.take (k + 1)) = if f x < (bestL f (L.take k)).2 then (x, f x) else bestL f (L.take k) := by
  unfold bestL
  rw [List.take_add_one, h, Option.toList_some, List.foldl_append]
  rfl
theorem bestL_two (f : Int → Int) (k : Nat) : bestL f (ordL (k + 1)) = bestS f (bestS f (bestL f (ordL k)) (-((k : Int) + 1))) ((k : Int) + 1) := by
  unfold bestL
  rw [ordL_succ, List.foldl_append]
  rfl
theorem bestL_inv (f : Int → Int) (P : Int × Int → Prop) (L : List Int) (h0 : P (0, f 0)) (hs : ∀ x ∈ L, P (x, f x)) : P (bestL f L) := by
  unfold bestL
  have : ∀ (L : List Int) (s : Int × Int), P s → (∀ x ∈ L, P (x, f x)) → P (L.foldl (bestS f) s) := by
    intro L
    induction L with
    | nil => intro s hs _; exact hs
    | cons x L ih =>
      intro s hs hL
      rw [List.foldl_cons]
      refine ih _ ?_ fun y hy => hL y (List.mem_cons_of_mem _ hy)
      unfold bestS
      split
      · exact hL x (by simp)
      · exact hs
  exact this L _ h0 hs

/-- The nearest pitch that differs by a multiple: one more is looked at. -/
def nearS (p n : Int) (s : Option Int) (x : Int) : Option Int :=
  if (x - p).tmod n = 0 then
    match s with
    | none => some x
    | some y => if (x - p).natAbs < (y - p).natAbs then some x else some y
  else s
def nearL (p n : Int) (l : List Int) : Option Int := l.foldl (nearS p n) none
theorem nearL_snoc (p n : Int) (l : List Int) (k : Nat) (x : Int) (h : l[k]? = some x) : nearL p n (l.take (k + 1)) = nearS p n (nearL p n (l.take k)) x := by
  unfold nearL
  rw [List.take_add_one, h, Option.toList_some, List.foldl_append]
  rfl
theorem nearL_mem (p n : Int) (l : List Int) (y : Int) (h : nearL p n l = some y) : y ∈ l := by
  have key : ∀ (l : List Int) (s : Option Int) (Q : Int → Prop), (∀ y, s = some y → Q y) → (∀ x ∈ l, Q x) → ∀ y, l.foldl (nearS p n) s = some y → Q y := by
    intro l
    induction l with
    | nil => intro s Q hs _ y hy; exact hs y hy
    | cons x l ih =>
      intro s Q hs hl y hy
      rw [List.foldl_cons] at hy
      refine ih _ Q ?_ (fun z hz => hl z (List.mem_cons_of_mem _ hz)) y hy
      intro z hz
      unfold nearS at hz
      split at hz
      · cases s with
        | none => simp at hz; subst hz; exact hl _ (by simp)
        | some u =>
          simp only at hz
          split at hz
          · simp at hz; subst hz; exact hl _ (by simp)
          · simp at hz; subst hz; exact hs _ rfl
      · exact hs z hz
  exact key l none (fun y => y ∈ l) (fun y hy => by cases hy) (fun x hx => hx) y h
theorem nearL_take (p n : Int) (l : List Int) (k : Nat) (y : Int) (h : nearL p n (l.take k) = some y) : y ∈ l := List.mem_of_mem_take (nearL_mem p n _ y h)

/-- Pitches as notes: that what is said of notes' pitches serves for residues too. -/
def resN (l : List Int) : List Nt := l.map fun x => (x.tmod 12, 0, 0)
theorem resN_length (l : List Int) : (resN l).length = l.length := by simp [resN]
theorem resN_get (l : List Int) (k : Nat) (x : Int) (h : l[k]? = some x) : (resN l)[k]? = some (x.tmod 12, 0, 0) := by simp [resN, h]
/-- The classes of pitches: put one after another. -/
def clsL (l : List Int) (k : Nat) : List Int := atF (fun _ => true) ((resN l).take k)
/-- All residues in order of the pitches. -/
def resL (l : List Int) (k : Nat) : List Int := psF (fun _ => true) ((resN l).take k)
theorem clsL_zero (l : List Int) : clsL l 0 = [] := rfl
theorem resL_zero (l : List Int) : resL l 0 = [] := rfl
theorem clsL_succ (l : List Int) (k : Nat) (x : Int) (h : l[k]? = some x) : clsL l (k + 1) = putL (x.tmod 12) (clsL l k) := by
  unfold clsL; rw [atF_snoc _ _ _ _ (resN_get l k x h), if_pos rfl]
theorem resL_succ (l : List Int) (k : Nat) (x : Int) (h : l[k]? = some x) : resL l (k + 1) = resL l k ++ [x.tmod 12] := by
  unfold resL; rw [psF_snoc _ _ _ _ (resN_get l k x h), if_pos rfl]
theorem clsL_inc (l : List Int) (k : Nat) (h : k ≤ l.length) : Inc (clsL l k) := atF_inc _ _ k (by rw [resN_length]; exact h)
theorem clsL_length (l : List Int) (k : Nat) (h : k ≤ l.length) : (clsL l k).length ≤ k := atF_length _ _ k (by rw [resN_length]; exact h)
theorem resL_length (l : List Int) (k : Nat) : (resL l k).length ≤ k := by
  unfold resL
  refine Nat.le_trans (psF_length _ _) ?_
  rw [List.length_take]; omega
theorem compact_res (l : List Int) (k : Nat) : Go.Lib.compact ((resL l k).mergeSort fun x y => decide (x ≤ y)) = clsL l k := compact_atF _ _
end Go.Proofs.YtogklldofhcohaaDoor

namespace Go.Proofs.YtogklldofhcohaaDoor
open Go.RowKit
set_option linter.unusedVariables false

/-- Two notes are equal. -/
def eqB (p s n p' s' n' : Int) : Bool := (p == p') && ((s == s') && (n == n'))
/-- The first of two notes (start, pitch) comes before the second one. -/
def befB (p s p' s' : Int) : Bool := decide (s < s') || ((s == s') && decide (p < p'))
/-- Two notes of one pitch sound in one step. -/
def meetB (p s n p' s' n' : Int) : Bool := (p == p') && (decide (s < s' + n') && decide (s' < s + n))
/-- -1, 0, 1 as two notes stand to each other. -/
def cmpZ (x y : Int) : Int := if x < y then -1 else if y < x then 1 else 0
def orZ (a b : Int) : Int := if a = 0 then b else a
def cmpN (p s p' s' : Int) : Int := orZ (cmpZ s s') (cmpZ p p')

set_option maxHeartbeats 400000 in
theorem toNote_any (p s n : Int) (w : World) :
    Calls Tryd.prog 22 #[.agg #[.int .i64 p, .int .i64 s, .int .i64 n]] w fun e w' => e = .returned (.agg #[.int .i64 p, .int .i64 s, .int .i64 n]) ∧ Below w.heap.size w w' := by
  go_enter Tryd.func22, Tryd.ntmps22
  go_wp2
  exact bodyPost_ret (v := .agg #[.int .i64 p, .int .i64 s, .int .i64 n]) (by simp [results, Tryd.results22, go_sem]) rfl ⟨rfl, (((Below.refl _ _).alloc (Nat.le_refl _) _).alloc (by simp) _).alloc (by simp; omega) _⟩

set_option maxHeartbeats 400000 in
theorem eqNote_any (p s n p' s' n' : Int) (w : World) :
    Calls Tryd.prog 26 #[.agg #[.int .i64 p, .int .i64 s, .int .i64 n], .agg #[.int .i64 p', .int .i64 s', .int .i64 n']] w fun e w' => e = .returned (.bool (eqB p s n p' s' n')) ∧ Below w.heap.size w w' := by
  go_enter Tryd.func26, Tryd.ntmps26
  go_wp2
  all_goals (go_ret; exact ⟨ret_bool (by first | (simp [eqB, *]; done) | (simp_all [eqB]; done) | (rw [Bool.eq_iff_iff]; simp [eqB]; omega)), ((Below.refl _ _).alloc (Nat.le_refl _) _).alloc (by simp) _⟩)

set_option maxHeartbeats 400000 in
theorem ntBefore_any (p s n p' s' n' : Int) (w : World) :
    Calls Tryd.prog 47 #[.agg #[.int .i64 p, .int .i64 s, .int .i64 n], .agg #[.int .i64 p', .int .i64 s', .int .i64 n']] w fun e w' => e = .returned (.bool (befB p s p' s')) ∧ Below w.heap.size w w' := by
  go_enter Tryd.func47, Tryd.ntmps47
  go_wp2
  all_goals (go_ret; exact ⟨ret_bool (by first | (simp [befB, *]; done) | (simp_all [befB]; done) | (rw [Bool.eq_iff_iff]; simp [befB]; omega)), ((Below.refl _ _).alloc (Nat.le_refl _) _).alloc (by simp) _⟩)

set_option maxHeartbeats 400000 in
theorem ntMeet_any (p s n p' s' n' : Int) (w : World) (h1 : 0 ≤ s) (h2 : s ≤ 999) (h3 : 0 ≤ n) (h4 : n ≤ 99) (h1' : 0 ≤ s') (h2' : s' ≤ 999) (h3' : 0 ≤ n') (h4' : n' ≤ 99) :
    Calls Tryd.prog 48 #[.agg #[.int .i64 p, .int .i64 s, .int .i64 n], .agg #[.int .i64 p', .int .i64 s', .int .i64 n']] w fun e w' => e = .returned (.bool (meetB p s n p' s' n')) ∧ Below w.heap.size w w' := by
  go_enter Tryd.func48, Tryd.ntmps48
  go_wp2
  all_goals (go_ret; exact ⟨ret_bool (by first | (simp [meetB, *]; done) | (simp_all [meetB]; done) | (rw [Bool.eq_iff_iff]; simp [meetB]; omega)), ((Below.refl _ _).alloc (Nat.le_refl _) _).alloc (by simp) _⟩)

set_option maxHeartbeats 400000 in
theorem endOfNote_any (p s n : Int) (w : World) (h1 : 0 ≤ s) (h2 : s ≤ 999) (h3 : 0 ≤ n) (h4 : n ≤ 99) :
    Calls Tryd.prog 41 #[.agg #[.int .i64 p, .int .i64 s, .int .i64 n]] w fun e w' => e = .returned (.int .i64 (s + n)) ∧ Below w.heap.size w w' := by
  go_enter Tryd.func41, Tryd.ntmps41
  go_wp2
  go_ret
  exact ⟨rfl, (Below.refl _ _).alloc (Nat.le_refl _) _⟩

set_option maxHeartbeats 400000 in
theorem cmpCompare_any (x y : Int) (w : World) :
    Calls Tryd.prog 52 #[.int .i64 x, .int .i64 y] w fun e w' => e = .returned (.int .i64 (cmpZ x y)) ∧ w = w' := by
  go_enter Tryd.func52, Tryd.ntmps52
  go_wp2
  all_goals (go_ret; exact ⟨ret_int (by unfold cmpZ; (repeat' split) <;> omega), rfl⟩)

set_option maxHeartbeats 400000 in
theorem cmpOr_any (g : Nat) (x y : Int) (w : World) (hx : w.cell? ⟨g, 0, none⟩ = some (.int .i64 x)) (hy : w.cell? ⟨g, 1, none⟩ = some (.int .i64 y)) :
    Calls Tryd.prog 51 #[.slice (some ⟨g, 0, none⟩) 2 2] w fun e w' => e = .returned (.int .i64 (orZ x y)) ∧ w = w' := by
  go_enter Tryd.func51, Tryd.ntmps51
  go_wp2
  go_rounds 3
  all_goals (go_ret; exact ⟨ret_int (by simp_all [orZ]), rfl⟩)

end Go.Proofs.YtogklldofhcohaaDoor

namespace Go.Proofs.YtogklldofhcohaaDoor
open Go.RowKit
set_option linter.unusedVariables false

theorem cmpCompare_same (x y : Int) (w : World) :
    Calls Tryd.prog 52 #[.int .i64 x, .int .i64 y] w fun e w' => e = .returned (.int .i64 (cmpZ x y)) ∧ w' = w :=
  (cmpCompare_any x y w).mono fun _ _ ⟨h, k⟩ => ⟨h, k.symm⟩

set_option maxRecDepth 100000 in
set_option maxHeartbeats 1000000 in
theorem compareNotes_any (p s n p' s' n' : Int) (w : World) :
    Calls Tryd.prog 40 #[.agg #[.int .i64 p, .int .i64 s, .int .i64 n], .agg #[.int .i64 p', .int .i64 s', .int .i64 n']] w
      fun e w' => e = .returned (.int .i64 (cmpN p s p' s')) ∧ Below w.heap.size w w' := by
  go_enter Tryd.func40, Tryd.ntmps40
  go_wp2_with fail
  refine wp_region_still_tail 10 (by kernel_rfl) (by kernel_rfl) ?_
  change wpStill _ _ (World.drew _) (fun a' => wpList _ _ _ _ a' (World.drew _)) _ _
  simp only [List.take_succ_cons, List.take_zero, List.drop_succ_cons, List.drop_zero]
  repeat still_step
  still_call (cmpCompare_same _ _ _)
  repeat still_step
  still_call (cmpCompare_same _ _ _)
  repeat still_step
  try refine wpStill_nil ?_
  go_wp2_with (go_at_call 51; refine (cmpOr_any _ (cmpZ s s') (cmpZ p p') _ (by go_simp) (by go_simp)).mono ?_; rintro e w1 ⟨rfl, rfl⟩)
  go_ret
  exact ⟨rfl, by first | exact ((((Below.refl _ _).alloc (Nat.le_refl _) _).alloc (by simp) _).drew).alloc (by simp; omega) _ | exact ((((Below.refl _ _).alloc (Nat.le_refl _) _).alloc (by simp) _).alloc (by simp; omega) _).drew⟩
end Go.Proofs.YtogklldofhcohaaDoor
