/- Texts of the proof, run together: Good, InsF, Near, NearS, Slc, SrtP, Common. -/
import Derived.Test.YtogklldofhcohaaDoorM2q
import Derived.Test.YtogklldofhcohaaDoorM1q
import Derived.Test.YtogklldofhcohaaDoorInsGq
import Derived.Handy
import Derived.Lib.QuietBelow
import Derived.LoopTactic
import Derived.Maps.AppendAt
namespace Go.Proofs.YtogklldofhcohaaDoor
open Go.RowKit

def noteN (x : Nt) : Bool := noteB x.1 x.2.1 x.2.2
def befN (y x : Nt) : Bool := befB y.1 y.2.1 x.1 x.2.1
def meetN (x y : Nt) : Bool := meetB x.1 x.2.1 x.2.2 y.1 y.2.1 y.2.2
/-- Note k of l is valid, behind the one before it, and meets none before it. -/
def okAt (l : List Nt) (k : Nat) (x : Nt) : Prop :=
  noteN x = true ∧ (∀ y, 0 < k → l[k - 1]? = some y → befN y x = true) ∧ ∀ j y, j < k → l[j]? = some y → meetN x y = false
def GoodTo (l : List Nt) (k : Nat) : Prop := ∀ i x, i < k → l[i]? = some x → okAt l i x
def Good (l : List Nt) : Prop := GoodTo l l.length ∧ l.length ≤ 30

theorem noteN_iff (x : Nt) : noteN x = true ↔ 24 ≤ x.1 ∧ x.1 ≤ 96 ∧ 0 ≤ x.2.1 ∧ x.2.1 ≤ 999 ∧ 1 ≤ x.2.2 ∧ x.2.2 ≤ 99 := by
  simp [noteN, noteB, inR]; omega
theorem befN_iff (y x : Nt) : befN y x = true ↔ y.2.1 < x.2.1 ∨ y.2.1 = x.2.1 ∧ y.1 < x.1 := by
  simp [befN, befB]
theorem meetN_iff (x y : Nt) : meetN x y = true ↔ x.1 = y.1 ∧ x.2.1 < y.2.1 + y.2.2 ∧ y.2.1 < x.2.1 + x.2.2 := by
  simp [meetN, meetB]

theorem GoodTo.zero (l : List Nt) : GoodTo l 0 := fun _ _ h => absurd h (by omega)
theorem GoodTo.succ {l : List Nt} {k : Nat} {x : Nt} (h : GoodTo l k) (hx : l[k]? = some x) (ho : okAt l k x) : GoodTo l (k + 1) := by
  intro i y hi hy
  rcases Nat.lt_or_ge i k with hik | hik
  · exact h i y hik hy
  · obtain rfl : i = k := by omega
    rw [hx] at hy; injection hy with hy; subst hy; exact ho
theorem Good.not_of {l : List Nt} {k : Nat} {x : Nt} (hx : l[k]? = some x) (ho : ¬ okAt l k x) : ¬ Good l := fun h => ho (h.1 k x (List.getElem?_eq_some_iff.1 hx).1 hx)

/-- Starts do not fall along a good beginning. -/
theorem GoodTo.mono {l : List Nt} {k : Nat} (h : GoodTo l k) : ∀ i j x y, i ≤ j → j < k → l[i]? = some x → l[j]? = some y → x.2.1 ≤ y.2.1 := by
  intro i j x y hij
  induction j generalizing y with
  | zero =>
    intro _ hx hy
    obtain rfl : i = 0 := by omega
    rw [hx] at hy; injection hy with hy; subst hy; exact Int.le_refl _
  | succ j ih =>
    intro hj hx hy
    rcases Nat.lt_or_ge j i with hji | hji
    · obtain rfl : i = j + 1 := by omega
      rw [hx] at hy; injection hy with hy; subst hy; exact Int.le_refl _
    · have hlt : j < l.length := by have := (List.getElem?_eq_some_iff.1 hy).1; omega
      have hz : l[j]? = some l[j] := List.getElem?_eq_getElem hlt
      have h1 := ih _ hji (by omega) hx hz
      have h2 := (h (j + 1) y hj hy).2.1 l[j] (by omega) (by simp)
      rw [befN_iff] at h2
      omega

/-- The end of the last note of a pitch among notes, 0 without one. -/
def endsF (p : Int) : List Nt → Int → Int
  | [], a => a
  | y :: r, a => endsF p r (if y.1 = p then y.2.1 + y.2.2 else a)
theorem endsF_snoc (p : Int) (l : List Nt) (x : Nt) (a : Int) : endsF p (l ++ [x]) a = if x.1 = p then x.2.1 + x.2.2 else endsF p l a := by
  induction l generalizing a with
  | nil => rfl
  | cons y l ih => simp only [List.cons_append, endsF, ih]
theorem endsF_take (p : Int) (l : List Nt) (k : Nat) (x : Nt) (hx : l[k]? = some x) : endsF p (l.take (k + 1)) 0 = if x.1 = p then x.2.1 + x.2.2 else endsF p (l.take k) 0 := by
  rw [List.take_add_one, hx]
  exact endsF_snoc p _ x 0

/-- Along a good beginning the last end of a pitch is the greatest, and it is one of a note of the pitch, or 0. -/
theorem endsF_spec {l : List Nt} {k : Nat} (h : GoodTo l k) (hk : k ≤ l.length) (p : Int) :
    (∀ j y, j < k → l[j]? = some y → y.1 = p → y.2.1 + y.2.2 ≤ endsF p (l.take k) 0) ∧
    (endsF p (l.take k) 0 = 0 ∨ ∃ j y, j < k ∧ l[j]? = some y ∧ y.1 = p ∧ endsF p (l.take k) 0 = y.2.1 + y.2.2) := by
  induction k with
  | zero => exact ⟨fun _ _ h => absurd h (by omega), .inl rfl⟩
  | succ k ih =>
    have hx : l[k]? = some l[k] := List.getElem?_eq_getElem (by omega)
    generalize l[k] = x at hx
    have hg : GoodTo l k := fun i y hi hy => h i y (by omega) hy
    obtain ⟨ha, hb⟩ := ih hg (by omega)
    have hok := h k x (by omega) hx
    rw [endsF_take p l k x hx]
    by_cases hp : x.1 = p
    · rw [if_pos hp]
      refine ⟨fun j y hj hy hyp => ?_, .inr ⟨k, x, by omega, hx, hp, rfl⟩⟩
      rcases Nat.lt_or_ge j k with hjk | hjk
      · have hm := hok.2.2 j y hjk hy
        have hle := h.mono j k y x (by omega) (by omega) hy hx
        have hv := (noteN_iff x).1 hok.1
        have hv' := (noteN_iff y).1 (h j y (by omega) hy).1
        have : ¬ (meetN x y = true) := by rw [hm]; simp
        rw [meetN_iff] at this
        have : ¬ (x.2.1 < y.2.1 + y.2.2 ∧ y.2.1 < x.2.1 + x.2.2) := fun hh => this ⟨by rw [hp, hyp], hh⟩
        omega
      · obtain rfl : j = k := by omega
        rw [hx] at hy; injection hy with hy; subst hy; exact Int.le_refl _
    · rw [if_neg hp]
      refine ⟨fun j y hj hy hyp => ?_, ?_⟩
      · rcases Nat.lt_or_ge j k with hjk | hjk
        · exact ha j y hjk hy hyp
        · obtain rfl : j = k := by omega
          rw [hx] at hy; injection hy with hy; subst hy; exact absurd hyp hp
      · rcases hb with hb | ⟨j, y, hj, hy, hyp, he⟩
        · exact .inl hb
        · exact .inr ⟨j, y, by omega, hy, hyp, he⟩

/-- The program's way of asking whether note k goes on. -/
theorem okAt_iff {l : List Nt} {k : Nat} {x : Nt} (h : GoodTo l k) (hk : k ≤ l.length) (hv : noteN x = true) (hbef : ∀ y, 0 < k → l[k - 1]? = some y → befN y x = true) :
    okAt l k x ↔ ¬ (x.2.1 < endsF x.1 (l.take k) 0) := by
  obtain ⟨ha, hb⟩ := endsF_spec h hk x.1
  have hx := (noteN_iff x).1 hv
  have hle : ∀ j y, j < k → l[j]? = some y → y.2.1 ≤ x.2.1 := by
    intro j y hj hy
    have hz : l[k - 1]? = some l[k - 1] := List.getElem?_eq_getElem (by omega)
    have h1 := h.mono j (k - 1) y _ (by omega) (by omega) hy hz
    have h2 := (befN_iff _ _).1 (hbef _ (by omega) hz)
    omega
  constructor
  · intro ho hlt
    rcases hb with hb | ⟨j, y, hj, hy, hyp, he⟩
    · omega
    · have hm := ho.2.2 j y hj hy
      have : ¬ (meetN x y = true) := by rw [hm]; simp
      rw [meetN_iff] at this
      have h1 := hle j y hj hy
      exact this ⟨hyp.symm, by omega, by omega⟩
  · intro hn
    refine ⟨hv, hbef, fun j y hj hy => ?_⟩
    cases hm : meetN x y with
    | false => rfl
    | true =>
      rw [meetN_iff] at hm
      have := ha j y hj hy hm.1.symm
      omega

theorem cmpN_bef (y x : Nt) : (cmpN y.1 y.2.1 x.1 x.2.1 < 0) ↔ befN y x = true := by
  rw [befN_iff]
  unfold cmpN orZ cmpZ
  (repeat' split) <;> omega

/-- Whether note k is such, as a Bool. -/
def okB (l : List Nt) (k : Nat) : Bool :=
  match l[k]? with
  | none => true
  | some x => noteN x && ((decide (k = 0) || (match l[k - 1]? with | some y => befN y x | none => true)) && (l.take k).all fun y => !meetN x y)
def goodB (l : List Nt) : Bool := (List.range l.length).all (okB l) && decide (l.length ≤ 30)

theorem okB_iff {l : List Nt} {k : Nat} {x : Nt} (hx : l[k]? = some x) : okB l k = true ↔ okAt l k x := by
  have hk := (List.getElem?_eq_some_iff.1 hx).1
  unfold okB okAt
  rw [hx]
  simp only [Bool.and_eq_true, Bool.or_eq_true, decide_eq_true_eq, List.all_eq_true, Bool.not_eq_true']
  refine and_congr Iff.rfl (and_congr ⟨?_, ?_⟩ ⟨?_, ?_⟩)
  · intro h y h0 hy
    rcases h with h | h
    · omega
    · rw [hy] at h; exact h
  · intro h
    rcases Nat.eq_zero_or_pos k with h0 | h0
    · exact .inl h0
    · right
      have hy : l[k - 1]? = some l[k - 1] := List.getElem?_eq_getElem (by omega)
      rw [hy]
      exact h _ h0 hy
  · intro h j y hj hy
    exact h y (List.mem_iff_getElem?.2 ⟨j, by rw [List.getElem?_take, if_pos hj]; exact hy⟩)
  · intro h y hy
    obtain ⟨j, hj⟩ := List.mem_iff_getElem?.1 hy
    have hjk : j < k := by
      rcases Nat.lt_or_ge j k with h' | h'
      · exact h'
      · rw [List.getElem?_take, if_neg (by omega)] at hj; cases hj
    rw [List.getElem?_take, if_pos hjk] at hj
    exact h j y hjk hj
theorem goodB_iff (l : List Nt) : goodB l = true ↔ Good l := by
  unfold goodB Good
  rw [Bool.and_eq_true, List.all_eq_true, decide_eq_true_eq]
  refine and_congr ⟨?_, ?_⟩ Iff.rfl
  · intro h i x hi hx
    exact (okB_iff hx).1 (h i (List.mem_range.2 hi))
  · intro h i hi
    have hi := List.mem_range.1 hi
    exact (okB_iff (List.getElem?_eq_getElem hi)).2 (h i _ hi (List.getElem?_eq_getElem hi))
theorem goodB_false {l : List Nt} (h : ¬ Good l) : goodB l = false := by
  cases hb : goodB l with
  | false => rfl
  | true => exact absurd ((goodB_iff l).1 hb) h
end Go.Proofs.YtogklldofhcohaaDoor

namespace Go.Proofs.YtogklldofhcohaaDoor
open Go.RowKit Go.Sort
set_option linter.unusedVariables false
set_option linter.unusedSimpArgs false

/-- The cells of numbers as the shelf's contracts ask for them. -/
theorem RI.getD {w : World} {g o : Nat} {l : List Int} (h : RI w (some ⟨g, o, none⟩) l) : ∀ j, j < l.length → w.cell? ⟨g, o + j, none⟩ = some (.int .i64 (l.getD j 0)) := by
  intro j hj
  obtain ⟨g', o', hgo, _, h0⟩ := h j l[j] (List.getElem?_eq_getElem hj)
  simp only [Option.some.injEq, Addr.mk.injEq, and_true] at hgo
  obtain ⟨rfl, rfl⟩ := hgo
  rw [h0, List.getD_eq_getElem?_getD, List.getElem?_eq_getElem hj]
  rfl
theorem idxFrom_trk (p : Int) : ∀ (l : List Int) (k : Nat), Lib.idxFrom l p k = trkF p l k
  | [], _ => rfl
  | x :: l, k => by
    have ih := idxFrom_trk p l (k + 1)
    unfold Lib.idxFrom trkF
    rw [ih]
    simp
theorem hasPitch_some (l : List Int) (p : Int) : l.contains p = hasB l p := by
  rw [Bool.eq_iff_iff, hasB_iff]; simp

/-- What the box of an instrument holds, seen from a later world. -/
def Box (w : World) (b : Nat) (A : Option Addr) (n c : Nat) (r : Int) : Prop := w.cell? ⟨b, 0, none⟩ = some (.slice A n c) ∧ w.cell? ⟨b, 1, none⟩ = some (.int .i64 r) ∧ b < w.heap.size
theorem Box.below {w w' : World} {b : Nat} {A : Option Addr} {n c : Nat} {r : Int} (h : Box w b A n c r) (hb : Below w.heap.size w w') : Box w' b A n c r :=
  ⟨(hb.cell (p := ⟨b, 0, none⟩) h.2.2).trans h.1, (hb.cell (p := ⟨b, 1, none⟩) h.2.2).trans h.2.1, Nat.lt_of_lt_of_le h.2.2 hb.size⟩
theorem Box.new (w : World) (A : Option Addr) (n c : Nat) (r : Int) (t : TypeId) : Box (w.alloc (.cells #[.slice A n c, .int .i64 r] t)) w.heap.size A n c r :=
  ⟨by rw [World.cell?_alloc_new]; rfl, by rw [World.cell?_alloc_new]; rfl, by simp⟩

def trR (l : List Int) (r p : Int) : Array Value := if (gdI l r && hasB l p) = true then #[.int .i64 (trk p l), .bool true] else #[.int .i64 0, .bool false]

def poR (l : List Int) (r t : Int) : Array Value := if (gdI l r && inR t 0 (l.length - 1)) = true then #[.int .i64 (l.getD t.toNat 0), .bool true] else #[.int .i64 0, .bool false]

end Go.Proofs.YtogklldofhcohaaDoor

namespace Go.Proofs.YtogklldofhcohaaDoor
open Go.RowKit
set_option linter.unusedVariables false
set_option linter.unusedSimpArgs false

theorem nearS_no {p n x : Int} {s : Option Int} (h : ¬ (x - p).tmod n = 0) : nearS p n s x = s := by unfold nearS; rw [if_neg h]
theorem nearS_new {p n x : Int} (h : (x - p).tmod n = 0) : nearS p n none x = some x := by unfold nearS; rw [if_pos h]
theorem nearS_less {p n x y : Int} (h : (x - p).tmod n = 0) (hl : (x - p).natAbs < (y - p).natAbs) : nearS p n (some y) x = some x := by unfold nearS; rw [if_pos h]; simp [hl]
theorem nearS_more {p n x y : Int} (h : (x - p).tmod n = 0) (hl : ¬ (x - p).natAbs < (y - p).natAbs) : nearS p n (some y) x = some y := by unfold nearS; rw [if_pos h]; simp; omega
theorem tmod_bound (a n : Int) (h : 1 ≤ n) (h' : n ≤ 12) : -12 < a.tmod n ∧ a.tmod n < 12 := by
  have := Int.tmod_lt_of_pos a (show 0 < n by omega)
  have h2 := Int.lt_tmod_of_pos a (show 0 < n by omega)
  omega

/-- The answer of the nearest pitch that differs by a multiple. -/
def nearR (l : List Int) (r p n : Int) : Array Value := if (gdI l r && inR p 24 96) = true then #[.int .i64 ((nearL p n l).getD 0), .bool (nearL p n l).isSome] else #[.int .i64 0, .bool false]

set_option maxRecDepth 100000 in
set_option maxHeartbeats 4000000 in
theorem trNearest_any (A : Option Addr) (l : List Int) (c : Nat) (r p n : Int) (w : World) (hn : l.length ≤ 1048576) (hA : RI w A l) (hl : ∀ x ∈ l, 24 ≤ x ∧ x ≤ 96) (hp : -1000 ≤ p) (hp' : p ≤ 1000) (hn1 : 1 ≤ n) (hn2 : n ≤ 12) :
    Calls Tryd.prog 35 #[.agg #[.slice A l.length c, .int .i64 r], .int .i64 p, .int .i64 n] w fun e w' => e = .returned (.int .i64 ((nearL p n l).getD (-1))) ∧ Below w.heap.size w w' := by
  have hb0 : Below w.heap.size w (w.alloc (.cells #[.slice A l.length c, .int .i64 r] 31)) := (Below.refl w.heap.size w).alloc (Nat.le_refl _) _
  obtain ⟨x0, x1, hz⟩ := Box.new w A l.length c r 31
  have hA := hA.below hb0
  go_enter Tryd.func35, Tryd.ntmps35
  go_wp2_with fail
  generalize w.alloc (.cells #[.slice A l.length c, .int .i64 r] 31) = W at *
  go_loopw [7, 13] (fun b i wr => ∃ k : Nat, k ≤ l.length ∧ i = .int .i64 k ∧ b = .int .i64 ((nearL p n (l.take k)).getD (-1)) ∧ wr = W)
    (fun _ i _ => l.length - (intOf i).toNat)
  case atStart => exact ⟨0, Nat.zero_le _, rfl, rfl, rfl⟩
  case round =>
    obtain ⟨k, hk, rfl, rfl, rfl⟩ := hrel
    by_cases hlt : k < l.length
    · have hx : l[k]? = some l[k] := List.getElem?_eq_getElem hlt
      generalize l[k] = x at hx
      have hs := nearL_snoc p n l k x hx
      have hxb := hl x (List.mem_of_getElem? hx)
      obtain ⟨g, o, rfl, hgb, h0⟩ := hA k _ hx
      have i1 : (0 : Int) ≤ (k : Int) := by omega
      have i2 : (k : Int) < (l.length : Int) := by omega
      have htb := tmod_bound (x - p) n hn1 hn2
      have hsb : ∀ y, nearL p n (l.take k) = some y → 24 ≤ y ∧ y ≤ 96 := fun y hy => hl y (nearL_take p n l k y hy)
      generalize nearL p n (l.take k) = s at *
      clear hx
      by_cases hm : (x - p).tmod n = 0
      · cases s with
        | none =>
          have HS := Lib.hid (hs.trans (nearS_new hm))
          clear hs hsb
          go_wp2_with fail
          go_roundw
          case rel => exact ⟨k + 1, by omega, by go_num, (by first | (rw [HS.out]; done) | (rw [HS.out]; rfl) | (rw [HS.out]; simp)), by first | rfl | trivial⟩
          case measure => simp [intOf]; omega
        | some y =>
          have hyb := hsb y rfl
          by_cases hd : (x - p).natAbs < (y - p).natAbs
          · have HS := Lib.hid (hs.trans (nearS_less hm hd))
            clear hs hsb
            go_wp2_with (go_at_call 49; refine (l1Abs_any _ _ (by omega) (by omega)).mono ?_; rintro e w' ⟨rfl, rfl⟩)
            go_roundw
            case rel => exact ⟨k + 1, by omega, by go_num, (by first | (rw [HS.out]; done) | (rw [HS.out]; rfl) | (rw [HS.out]; simp)), by first | rfl | trivial⟩
            case measure => simp [intOf]; omega
          · have HS := Lib.hid (hs.trans (nearS_more hm hd))
            clear hs hsb
            go_wp2_with (go_at_call 49; refine (l1Abs_any _ _ (by omega) (by omega)).mono ?_; rintro e w' ⟨rfl, rfl⟩)
            go_roundw
            case rel => exact ⟨k + 1, by omega, by go_num, (by first | (rw [HS.out]; done) | (rw [HS.out]; rfl) | (rw [HS.out]; simp)), by first | rfl | trivial⟩
            case measure => simp [intOf]; omega
      · have HS := Lib.hid (hs.trans (nearS_no hm))
        clear hs hsb
        go_wp2_with fail
        go_roundw
        case rel => exact ⟨k + 1, by omega, by go_num, (by first | (rw [HS.out]; done) | (rw [HS.out]; rfl) | (rw [HS.out]; simp)), by first | rfl | trivial⟩
        case measure => simp [intOf]; omega
    · obtain rfl : k = l.length := by omega
      go_wp2
      go_ret
      rw [List.take_length]
      exact ⟨rfl, hb0⟩

set_option maxRecDepth 100000 in
set_option maxHeartbeats 4000000 in
theorem nearest_any (A : Option Addr) (l : List Int) (c : Nat) (r p n : Int) (w : World) (hn : l.length ≤ 1048576) (hA : RI w A l) (hL : Lim w) (hn1 : 1 ≤ n) (hn2 : n ≤ 12) :
    Calls Tryd.prog 53 #[.agg #[.slice A l.length c, .int .i64 r], .int .i64 p, .int .i64 n] w fun e w' => e = .returned (.tuple (nearR l r p n)) ∧ Below w.heap.size w w' := by
  have hb0 : Below w.heap.size w (w.alloc (.cells #[.slice A l.length c, .int .i64 r] 31)) := (Below.refl w.heap.size w).alloc (Nat.le_refl _) _
  obtain ⟨x0, x1, hz⟩ := Box.new w A l.length c r 31
  have hA := hA.below hb0
  have hL := hL.below hb0
  cases hg : gdI l r with
  | false =>
    have HI := Lib.hid (fun W (hA : RI W A l) (hL : Lim W) => isIns_any A l c r W hn hA hL)
    rw [hg] at HI
    have HR := Lib.hid (show nearR l r p n = #[.int .i64 0, .bool false] by unfold nearR; rw [hg]; rfl)
    clear hg
    go_enter Tryd.func53, Tryd.ntmps53
    go_wp2_with fail
    refine (HI.out _ hA hL).mono ?_
    rintro e w1 ⟨rfl, hb1⟩
    go_wp2
    go_ret2
    exact ⟨(by first | (rw [HR.out]; done) | (rw [HR.out]; rfl)), hb0.trans (hb1.mono hb0.size)⟩
  | true =>
    have hl : ∀ x ∈ l, 24 ≤ x ∧ x ≤ 96 := fun x hx => ((gdI_iff l r).1 hg).2.1.range hx
    have HI := Lib.hid (fun W (hA : RI W A l) (hL : Lim W) => isIns_any A l c r W hn hA hL)
    rw [hg] at HI
    cases hp : inR p 24 96 with
    | false =>
      have HR := Lib.hid (show nearR l r p n = #[.int .i64 0, .bool false] by unfold nearR; rw [hg, hp]; rfl)
      clear hg
      go_enter Tryd.func53, Tryd.ntmps53
      go_wp2_with fail
      refine (HI.out _ hA hL).mono ?_
      rintro e w1 ⟨rfl, hb1⟩
      go_wp2_with (go_at_call 38; refine (isPitch_any _ _).mono ?_; rintro e w2 ⟨rfl, rfl⟩)
      go_ret2
      exact ⟨(by first | (rw [HR.out]; done) | (rw [HR.out]; rfl)), hb0.trans (hb1.mono hb0.size)⟩
    | true =>
      have hpb : 24 ≤ p ∧ p ≤ 96 := by simpa [inR] using hp
      have HR := Lib.hid (show nearR l r p n = #[.int .i64 ((nearL p n l).getD 0), .bool (nearL p n l).isSome] by unfold nearR; rw [hg, hp]; rfl)
      have HP := Lib.hid hp
      clear hg hp
      go_enter Tryd.func53, Tryd.ntmps53
      go_wp2_with fail
      generalize w.alloc (.cells #[.slice A l.length c, .int .i64 r] 31) = W at *
      refine (HI.out _ hA hL).mono ?_
      rintro e w1 ⟨rfl, hb1⟩
      have hA := hA.below hb1
      have hB := hb0.trans (hb1.mono hb0.size)
      have y0 := (hb1.cell (p := ⟨w.heap.size, 0, none⟩) hz).trans x0
      have y1 := (hb1.cell (p := ⟨w.heap.size, 1, none⟩) hz).trans x1
      go_wp2_with (go_at_call 38; refine (isPitch_any _ _).mono ?_; rw [HP.out]; rintro e w2 ⟨rfl, rfl⟩)
      clear y0 y1
      go_loopw [8, 9, 23] (fun b f i wr => ∃ k : Nat, k ≤ l.length ∧ i = .int .i64 k ∧ b = .int .i64 ((nearL p n (l.take k)).getD 0) ∧ f = .bool (nearL p n (l.take k)).isSome ∧ wr = w1)
        (fun _ _ i _ => l.length - (intOf i).toNat)
      case atStart => exact ⟨0, Nat.zero_le _, rfl, rfl, rfl, rfl⟩
      case round =>
        obtain ⟨k, hk, rfl, rfl, rfl, rfl⟩ := hrel
        by_cases hlt : k < l.length
        · have hx : l[k]? = some l[k] := List.getElem?_eq_getElem hlt
          generalize l[k] = x at hx
          have hs := nearL_snoc p n l k x hx
          have hxb := hl x (List.mem_of_getElem? hx)
          obtain ⟨g, o, rfl, hgb, h0⟩ := hA k _ hx
          have i1 : (0 : Int) ≤ (k : Int) := by omega
          have i2 : (k : Int) < (l.length : Int) := by omega
          have htb := tmod_bound (x - p) n hn1 hn2
          have hsb : ∀ y, nearL p n (l.take k) = some y → 24 ≤ y ∧ y ≤ 96 := fun y hy => hl y (nearL_take p n l k y hy)
          generalize nearL p n (l.take k) = s at *
          clear hx
          by_cases hm : (x - p).tmod n = 0
          · cases s with
            | none =>
              have HS := Lib.hid (hs.trans (nearS_new hm))
              clear hs hsb
              go_wp2_with fail
              go_roundw
              case rel => exact ⟨k + 1, by omega, by go_num, (by first | (rw [HS.out]; done) | (rw [HS.out]; rfl) | (rw [HS.out]; simp)), (by first | (rw [HS.out]; done) | (rw [HS.out]; rfl) | (rw [HS.out]; simp)), by first | rfl | trivial⟩
              case measure => simp [intOf]; omega
            | some y =>
              have hyb := hsb y rfl
              by_cases hd : (x - p).natAbs < (y - p).natAbs
              · have HS := Lib.hid (hs.trans (nearS_less hm hd))
                clear hs hsb
                go_wp2_with (go_at_call 58; refine (apart_any _ _ _ (by omega) (by omega) (by omega) (by omega)).mono ?_; rintro e w' ⟨rfl, rfl⟩)
                go_roundw
                case rel => exact ⟨k + 1, by omega, by go_num, (by first | (rw [HS.out]; done) | (rw [HS.out]; rfl) | (rw [HS.out]; simp)), (by first | (rw [HS.out]; done) | (rw [HS.out]; rfl) | (rw [HS.out]; simp)), by first | rfl | trivial⟩
                case measure => simp [intOf]; omega
              · have HS := Lib.hid (hs.trans (nearS_more hm hd))
                clear hs hsb
                go_wp2_with (go_at_call 58; refine (apart_any _ _ _ (by omega) (by omega) (by omega) (by omega)).mono ?_; rintro e w' ⟨rfl, rfl⟩)
                go_roundw
                case rel => exact ⟨k + 1, by omega, by go_num, (by first | (rw [HS.out]; done) | (rw [HS.out]; rfl) | (rw [HS.out]; simp)), (by first | (rw [HS.out]; done) | (rw [HS.out]; rfl) | (rw [HS.out]; simp)), by first | rfl | trivial⟩
                case measure => simp [intOf]; omega
          · have HS := Lib.hid (hs.trans (nearS_no hm))
            clear hs hsb
            go_wp2_with fail
            go_roundw
            case rel => exact ⟨k + 1, by omega, by go_num, (by rw [HS.out]), (by rw [HS.out]), by first | rfl | trivial⟩
            case measure => simp [intOf]; omega
        · obtain rfl : k = l.length := by omega
          rw [List.take_length] at *
          go_wp2
          go_ret2
          exact ⟨(by first | (rw [HR.out]; done) | (rw [HR.out]; rfl)), hB⟩
end Go.Proofs.YtogklldofhcohaaDoor

namespace Go.Proofs.YtogklldofhcohaaDoor
open Go.RowKit
set_option linter.unusedVariables false
set_option linter.unusedSimpArgs false

theorem nearR_form (l : List Int) (r p n : Int) : ∃ a b, nearR l r p n = #[.int .i64 a, .bool b] := by unfold nearR; split <;> exact ⟨_, _, rfl⟩
def near1R (l : List Int) (r p : Int) : Array Value := nearR l r p 1
def near12R (l : List Int) (r p : Int) : Array Value := nearR l r p 12
theorem near1R_form (l : List Int) (r p : Int) : ∃ a b, near1R l r p = #[.int .i64 a, .bool b] := nearR_form l r p 1
theorem near12R_form (l : List Int) (r p : Int) : ∃ a b, near12R l r p = #[.int .i64 a, .bool b] := nearR_form l r p 12
theorem near_some (p : Int) (l : List Int) (h : l ≠ []) : ∃ y, nearL p 1 l = some y := by
  have key : ∀ (l : List Int) (s : Option Int), (∃ y, s = some y) → ∃ y, l.foldl (nearS p 1) s = some y := by
    intro l
    induction l with
    | nil => intro s h; exact h
    | cons x l ih =>
      intro s h
      rw [List.foldl_cons]
      apply ih
      obtain ⟨y, rfl⟩ := h
      unfold nearS
      rw [if_pos (Int.tmod_one _)]
      simp only
      split <;> exact ⟨_, rfl⟩
  cases l with
  | nil => exact absurd rfl h
  | cons x l =>
    unfold nearL
    rw [List.foldl_cons]
    exact key l _ ⟨x, nearS_new (Int.tmod_one _)⟩

set_option maxRecDepth 100000 in
set_option maxHeartbeats 2000000 in
theorem implFold_any (A : Option Addr) (l : List Int) (c : Nat) (r p : Int) (w : World) (hn : l.length ≤ 1048576) (hA : RI w A l) (hL : Lim w) :
    Calls Tryd.prog 42 #[.agg #[.slice A l.length c, .int .i64 r], .int .i64 p] w fun e w' => e = .returned (.tuple (near12R l r p)) ∧ Below w.heap.size w w' := by
  obtain ⟨va, vb, hR⟩ := nearR_form l r p 12
  have hb0 : Below w.heap.size w (w.alloc (.cells #[.slice A l.length c, .int .i64 r] 31)) := (Below.refl w.heap.size w).alloc (Nat.le_refl _) _
  have HN := Lib.hid (fun W (hA : RI W A l) (hL : Lim W) => nearest_any A l c r p 12 W hn hA hL (by omega) (by omega))
  rw [hR] at HN
  have HR := Lib.hid (show near12R l r p = #[.int .i64 va, .bool vb] from hR)
  clear hR
  go_enter Tryd.func42, Tryd.ntmps42
  go_wp2_with fail
  refine (HN.out _ (hA.below hb0) (hL.below hb0)).mono ?_
  rintro e w1 ⟨rfl, hb1⟩
  go_wp2
  go_ret2
  exact ⟨(by first | (rw [HR.out]; done) | (rw [HR.out]; rfl)), hb0.trans (hb1.mono hb0.size)⟩

end Go.Proofs.YtogklldofhcohaaDoor

namespace Go.Proofs.YtogklldofhcohaaDoor
open Go.RowKit
set_option linter.unusedVariables false

theorem Tryd.info_Note : (Tryd.prog.info? 47).map (fun i => (i.zero, i.size, i.bytes)) = some (some (.agg #[.int .i64 0, .int .i64 0, .int .i64 0]), 3, 24) := by kernel_rfl

theorem make_notes (n : Nat) (hn : n ≤ 1048576) (W : World) :
    (Instr.makeSlice 28 (.int .i64 (n : Int)) (.int .i64 (n : Int))).run Tryd.prog W = .ok (.slice (some ⟨W.heap.size, 0, none⟩) n n) (W.alloc (.cells (madeCells #[.int .i64 0, .int .i64 0, .int .i64 0] (n * 3)) 47)) := by
  obtain ⟨i, hi, hz, hs, hb⟩ := info_parts Tryd.info_Note
  have h := run_make (P := Tryd.prog) W 28 47 i _ Tryd.underlying28 hi hz .i64 .i64 (n : Int) (n : Int) (by omega) (by omega) (by rw [hb]; omega) (by omega)
  rw [hs] at h
  simp only [Int.toNat_natCast] at h
  exact h

set_option maxHeartbeats 400000 in
theorem szNoteS_any (A : Option Addr) (n c : Nat) (left : Int) (w : World) (hn : n ≤ 9223372036854775807) (h0 : 0 ≤ left) (h1 : left ≤ 1048576) :
    Calls Tryd.prog 6 #[.slice A n c, .int .i64 left] w fun e w' => e = .returned (.int .i64 (if left - n < 0 then -1 else left - n)) ∧ w = w' := by
  by_cases h : left - n < 0
  all_goals
    go_enter Tryd.func6, Tryd.ntmps6
    go_wp2
    go_ret
    exact ⟨ret_int (by simp), rfl⟩

set_option maxHeartbeats 1000000 in
theorem toNoteS_any (A : Option Addr) (l : List Nt) (c : Nat) (w : World) (hn : l.length ≤ 1048576) (hA : RA w A l) :
    Calls Tryd.prog 9 #[.slice A l.length c] w fun e w' => e = .returned (.slice (some ⟨w.heap.size, 0, none⟩) l.length l.length) ∧
      Own w' w.heap.size 47 (.slice (some ⟨w.heap.size, 0, none⟩) l.length l.length) l ∧ Below w.heap.size w w' := by
  have hmk := make_notes l.length hn
  go_enter Tryd.func9, Tryd.ntmps9
  go_wp2
  go_loopw [4] (fun i wr => ∃ k : Nat, k ≤ l.length ∧ i = .int .i64 k ∧ Own wr w.heap.size 47 (.slice (some ⟨w.heap.size, 0, none⟩) l.length l.length) (l.take k ++ (List.replicate l.length (0, 0, 0)).drop k) ∧ Below w.heap.size w wr)
    (fun i _ => l.length - (intOf i).toNat)
  case atStart =>
    refine ⟨0, Nat.zero_le _, rfl, ?_, (Below.refl _ _).alloc (Nat.le_refl _) _⟩
    have h := World.ownsRow_lit (base := w.heap.size) (e := 47) (size := 3) w (madeCells #[.int .i64 0, .int .i64 0, .int .i64 0] (l.length * 3)) l.length (Nat.le_refl _) (by unfold maxLen; omega) (size_madeCells _ _)
    rw [made_cl] at h
    simpa [Own] using h
  case round =>
    obtain ⟨k, hk, rfl, hown, hb⟩ := hrel
    by_cases hlt : k < l.length
    · have hx : l[k]? = some l[k] := List.getElem?_eq_getElem hlt
      generalize l[k] = x at hx
      obtain ⟨p, s, n⟩ := x
      obtain ⟨g, o, rfl, hg, h0, h1, h2⟩ := (hA.below hb) k _ hx
      simp only at h0 h1 h2
      go_wp2_with fail
      refine (toNote_any _ _ _ _).mono ?_
      rintro e w1 ⟨rfl, hb1⟩
      have hown1 := hown.below hb1 (Nat.le_refl _)
      have hz1 : w.heap.size < w1.heap.size := (hown1.lt _ rfl).2
      have hL : (l.take k ++ (List.replicate l.length ((0, 0, 0) : Nt)).drop k).length = l.length := by simp; omega
      have hs : (List.replicate l.length ((0, 0, 0) : Nt))[k]? = some (0, 0, 0) := by rw [List.getElem?_replicate, if_pos hlt]
      unfold Own at hown1
      rw [hL] at hown1
      have f := fun j => hown1.frozenAt j
      have c0 : ∃ u, w1.cell? ⟨w.heap.size, k * 3, none⟩ = some u := by rw [hown1.cellAt _ (by omega)]; exact ⟨_, List.getElem?_eq_getElem (by rw [cl_length, hL]; omega)⟩
      have c1 : ∃ u, w1.cell? ⟨w.heap.size, k * 3 + 1, none⟩ = some u := by rw [hown1.cellAt _ (by omega)]; exact ⟨_, List.getElem?_eq_getElem (by rw [cl_length, hL]; omega)⟩
      have c2 : ∃ u, w1.cell? ⟨w.heap.size, k * 3 + 2, none⟩ = some u := by rw [hown1.cellAt _ (by omega)]; exact ⟨_, List.getElem?_eq_getElem (by rw [cl_length, hL]; omega)⟩
      obtain ⟨u0, c0⟩ := c0
      obtain ⟨u1, c1⟩ := c1
      obtain ⟨u2, c2⟩ := c2
      have f0 := f (k * 3)
      have f1 := f (k * 3 + 1)
      have f2 := f (k * 3 + 2)
      have H := Lib.hid hown1
      have HL := Lib.hid hL
      have HX := Lib.hid hx
      clear f hown1 hL hx hs hA hown
      go_wp2
      go_roundw
      case rel =>
        refine ⟨k + 1, by omega, by go_num, ?_, ((hb.trans (hb1.mono hb.size)).setCell (by simp) _ |>.setCell (by simp) _).setCell (by simp) _⟩
        have k1 := ((H.out.stored (k * 3) (.int .i64 p)).1.stored (k * 3 + 1) (.int .i64 s)).1.stored (k * 3 + 2) (.int .i64 n)
        have k2 := k1.1
        rw [cl_set _ _ (p, s, n) (by rw [HL.out]; exact hlt), take_set l _ k _ HX.out (by simpa using hlt)] at k2
        unfold Own
        have hL' : (l.take (k + 1) ++ (List.replicate l.length ((0, 0, 0) : Nt)).drop (k + 1)).length = l.length := by simp; omega
        rw [hL']
        exact k2
      case measure => simp [intOf]; omega
    · obtain rfl : k = l.length := by omega
      go_wp2
      go_ret
      exact ⟨rfl, by simpa using hown, hb⟩

set_option maxRecDepth 100000 in
set_option maxHeartbeats 1000000 in
theorem eqNoteS_any (A B : Option Addr) (l m : List Nt) (c d : Nat) (w : World) (hl : l.length ≤ 9223372036854775807) (hm : m.length ≤ 9223372036854775807) (hA : RA w A l) (hB : RA w B m) :
    Calls Tryd.prog 11 #[.slice A l.length c, .slice B m.length d] w fun e w' => e = .returned (.bool (decide (l = m))) ∧ Below w.heap.size w w' := by
  by_cases hlen : l.length = m.length
  · go_enter Tryd.func11, Tryd.ntmps11
    have hne : ((l.length : Int) != (m.length : Int)) = false := by simp [hlen]
    have HLEN := Lib.hid hlen
    clear hlen
    go_wp2
    go_loopw [5] (fun i wr => ∃ k : Nat, k ≤ l.length ∧ i = .int .i64 k ∧ l.take k = m.take k ∧ Below w.heap.size w wr)
      (fun i _ => l.length - (intOf i).toNat)
    case atStart => exact ⟨0, Nat.zero_le _, rfl, by simp, Below.refl _ _⟩
    case round =>
      obtain ⟨k, hk, rfl, htake, hb⟩ := hrel
      have HT := Lib.hid htake
      clear htake
      by_cases hlt : k < l.length
      · have hlt' : k < m.length := by have := HLEN.out; omega
        have hx : l[k]? = some l[k] := List.getElem?_eq_getElem hlt
        have hy : m[k]? = some m[k] := List.getElem?_eq_getElem hlt'
        generalize l[k] = x at hx
        generalize m[k] = y at hy
        obtain ⟨p, s, n⟩ := x
        obtain ⟨p', s', n'⟩ := y
        obtain ⟨g, o, rfl, hg, h0, h1, h2⟩ := (hA.below hb) k _ hx
        obtain ⟨g', o', rfl, hg', h0', h1', h2'⟩ := (hB.below hb) k _ hy
        simp only at h0 h1 h2 h0' h1' h2'
        have i1 : (0 : Int) ≤ (k : Int) := by omega
        have i2 : (k : Int) < (l.length : Int) := by omega
        have i3 : (k : Int) < (m.length : Int) := by omega
        have HX := Lib.hid hx
        have HY := Lib.hid hy
        clear hx hy hA hB
        go_wp2_with fail
        refine wp_region_still_tail 8 (by kernel_rfl) (by kernel_rfl) ?_
        change wpStill _ _ (World.drew _) (fun a' => wpList _ _ _ _ a' (World.drew _)) _ _
        simp only [List.take_succ_cons, List.take_zero, List.drop_succ_cons, List.drop_zero]
        repeat still_step
        try refine wpStill_nil ?_
        by_cases he : eqB p s n p' s' n' = true
        · go_wp2_with (go_at_call 26; refine (eqNote_any _ _ _ _ _ _ _).mono ?_; rintro e w1 ⟨rfl, hb1⟩)
          go_roundw
          case rel =>
            refine ⟨k + 1, by omega, by go_num, ?_, hb.drew.trans (hb1.mono hb.size)⟩
            rw [List.take_add_one, List.take_add_one, HT.out, HX.out, HY.out]
            simp [eqB] at he
            obtain ⟨rfl, rfl, rfl⟩ := he
            rfl
          case measure => simp [intOf]; omega
        · go_wp2_with (go_at_call 26; refine (eqNote_any _ _ _ _ _ _ _).mono ?_; rintro e w1 ⟨rfl, hb1⟩)
          go_ret
          refine ⟨ret_bool ?_, hb.drew.trans (hb1.mono hb.size)⟩
          have : l ≠ m := by
            rintro rfl
            have := HX.out.symm.trans HY.out
            simp at this
            obtain ⟨rfl, rfl, rfl⟩ := this
            simp [eqB] at he
          simp [this]
      · obtain rfl : k = l.length := by omega
        go_wp2
        go_ret
        refine ⟨ret_bool ?_, hb⟩
        have : l = m := by
          have h := HT.out
          rw [List.take_length, HLEN.out, List.take_length] at h
          exact h
        simp [this]
  · go_enter Tryd.func11, Tryd.ntmps11
    have hne : ((l.length : Int) != (m.length : Int)) = true := by simp; omega
    go_wp2
    go_ret
    exact ⟨ret_bool (by simp; intro h; exact hlen (by rw [h])), Below.refl _ _⟩

set_option maxRecDepth 100000 in
set_option maxHeartbeats 1000000 in
theorem heldNoteS_any (A : Option Addr) (K : Int) (n c : Nat) (w : World) (hn : n ≤ 1048576) (hK : 0 ≤ K) (hK' : K ≤ 1048576) (hA : RA w A (mk n K)) :
    Calls Tryd.prog 15 #[.slice A n c, .int .i64 K] w fun e w' => e = .returned (.int .i64 (K + 3 * n)) ∧ w = w' := by
  go_enter Tryd.func15, Tryd.ntmps15
  go_wp2
  go_loop [1, 5] (fun q i => ∃ k : Nat, k ≤ n ∧ i = .int .i64 k ∧ q = .int .i64 (K + 3 * k))
    (fun _ i => n - (intOf i).toNat)
  case atStart => exact ⟨0, Nat.zero_le _, rfl, by simp⟩
  case round =>
    obtain ⟨k, hk, rfl, rfl⟩ := hrel
    by_cases hlt : k < n
    · obtain ⟨g, o, rfl, hg, h0, h1, h2⟩ := hA k _ (mk_get n K k hlt)
      simp only at h0 h1 h2
      clear hA
      go_wp2
      go_round
      case rel => exact ⟨k + 1, by omega, by go_num, by first | go_num | (congr 1; omega)⟩
      case measure => simp [intOf]; omega
    · obtain rfl : k = n := by omega
      go_wp2
      go_ret
      exact ⟨rfl, rfl⟩

set_option maxRecDepth 100000 in
set_option maxHeartbeats 1000000 in
theorem markNoteS_any (v : Value) (l : List Nt) (K : Int) (base : Nat) (w : World) (hn : l.length ≤ 1048576) (hK : 0 ≤ K) (hK' : K ≤ 1048576) (hv : Own w base 47 v l) :
    Calls Tryd.prog 14 #[v, .int .i64 K] w fun e w' => e = .returned (.int .i64 (K + 3 * l.length)) ∧ Own w' base 47 v (mk l.length K) ∧ w.grownBy w' v.ownBlock := by
  have hv0 := hv
  rcases hv.2 with ⟨rfl, h0⟩ | ⟨g, cap, cur, rfl, hg, hh, hnc, hm, hs, ht⟩
  · obtain rfl : l = [] := List.eq_nil_of_length_eq_zero h0
    go_enter Tryd.func14, Tryd.ntmps14
    go_wp2
    go_rounds 1
    go_ret
    exact ⟨ret_int (by simp), hv0, World.grownBy.refl w _⟩
  · have hlt : g < w.heap.size := (hv0.lt _ rfl).2
    clear hh hs ht cur
    go_enter Tryd.func14, Tryd.ntmps14
    go_wp2
    go_loopw [1, 5] (fun q i wr => ∃ k : Nat, k ≤ l.length ∧ i = .int .i64 k ∧ q = .int .i64 (K + 3 * k) ∧ Own wr base 47 (.slice (some ⟨g, 0, none⟩) l.length cap) (mk k K ++ l.drop k) ∧ w.grownBy wr (some g))
      (fun _ i _ => l.length - (intOf i).toNat)
    case atStart => exact ⟨0, Nat.zero_le _, rfl, by simp, by simpa [mk] using hv0, World.grownBy.refl w _⟩
    case round =>
      obtain ⟨k, hk, rfl, rfl, hown, hgr⟩ := hrel
      have hL : (mk k K ++ l.drop k).length = l.length := by simp [mk_length]; omega
      by_cases hk2 : k < l.length
      · unfold Own at hown
        rw [hL] at hown
        have f := fun j => hown.frozenAt j
        have c0 : ∃ u, wr.cell? ⟨g, k * 3, none⟩ = some u := by rw [hown.cellAt _ (by omega)]; exact ⟨_, List.getElem?_eq_getElem (by rw [cl_length, hL]; omega)⟩
        have c1 : ∃ u, wr.cell? ⟨g, k * 3 + 1, none⟩ = some u := by rw [hown.cellAt _ (by omega)]; exact ⟨_, List.getElem?_eq_getElem (by rw [cl_length, hL]; omega)⟩
        have c2 : ∃ u, wr.cell? ⟨g, k * 3 + 2, none⟩ = some u := by rw [hown.cellAt _ (by omega)]; exact ⟨_, List.getElem?_eq_getElem (by rw [cl_length, hL]; omega)⟩
        obtain ⟨u0, c0⟩ := c0
        obtain ⟨u1, c1⟩ := c1
        obtain ⟨u2, c2⟩ := c2
        have f0 := f (k * 3)
        have f1 := f (k * 3 + 1)
        have f2 := f (k * 3 + 2)
        have H := Lib.hid hown
        have HL := Lib.hid hL
        clear f hown hL hv hv0
        go_wp2
        go_roundw
        case rel =>
          have s1 := H.out.stored (k * 3) (.int .i64 (K + 3 * k))
          have s2 := s1.1.stored (k * 3 + 1) (.int .i64 (K + 3 * k + 1))
          have s3 := s2.1.stored (k * 3 + 2) (.int .i64 (K + 3 * k + 2))
          have k2 := s3.1
          rw [cl_set _ _ (K + 3 * k, K + 3 * k + 1, K + 3 * k + 2) (by rw [HL.out]; exact hk2), mk_set l K k hk2] at k2
          have hL' : (mk (k + 1) K ++ l.drop (k + 1)).length = l.length := by simp [mk_length]; omega
          have e2 : K + 3 * (k : Int) + 1 + 1 = K + 3 * k + 2 := by omega
          refine ⟨k + 1, by omega, by go_num, by first | go_num | (congr 1; omega), ?_, ?_⟩
          · unfold Own
            rw [hL']
            first | exact k2 | (rw [e2]; exact k2)
          · first | exact ((hgr.trans s1.2).trans s2.2).trans s3.2 | (rw [e2]; exact ((hgr.trans s1.2).trans s2.2).trans s3.2)
        case measure => simp [intOf]; omega
      · obtain rfl : k = l.length := by omega
        go_wp2
        go_ret
        exact ⟨rfl, by simpa using hown, hgr⟩

end Go.Proofs.YtogklldofhcohaaDoor

namespace Go.Proofs.YtogklldofhcohaaDoor
set_option linter.unusedVariables false

/-- No later note comes before an earlier one. -/
def Srt (l : List Nt) : Prop := l.Pairwise fun a b => befN b a = false
def leN (a b : Nt) : Bool := !befN b a
def canon (l : List Nt) : List Nt := l.mergeSort leN

theorem befN_irr (a : Nt) : befN a a = false := by
  cases h : befN a a with
  | false => rfl
  | true => have := (befN_iff a a).1 h; omega
theorem befN_asym {a b : Nt} (h : befN a b = true) : befN b a = false := by
  cases h2 : befN b a with
  | false => rfl
  | true => have h1 := (befN_iff a b).1 h; have h2 := (befN_iff b a).1 h2; omega
theorem befN_false (a b : Nt) : befN a b = false ↔ ¬ (a.2.1 < b.2.1 ∨ a.2.1 = b.2.1 ∧ a.1 < b.1) := by
  rw [← befN_iff]; simp
theorem befN_trans {a b c : Nt} (h1 : befN a b = true) (h2 : befN b c = true) : befN a c = true := by
  rw [befN_iff] at *; omega
theorem befN_ntrans {a b c : Nt} (h1 : befN a b = false) (h2 : befN b c = false) : befN a c = false := by
  rw [befN_false] at *; omega
theorem canon_srt (l : List Nt) : Srt (canon l) := by
  have := List.pairwise_mergeSort (le := leN) (by intro a b c h1 h2; simp [leN] at *; exact befN_ntrans h2 h1) (by
    intro a b
    simp only [leN, Bool.or_eq_true, Bool.not_eq_true']
    cases h : befN b a with
    | false => exact .inl rfl
    | true => exact .inr (befN_asym h)) l
  exact this.imp (by intro a b h; simpa [leN] using h)
theorem canon_perm (l : List Nt) : (canon l).Perm l := List.mergeSort_perm _ _
theorem canon_length (l : List Nt) : (canon l).length = l.length := (canon_perm l).length_eq

theorem Good.bef {l : List Nt} (h : Good l) : ∀ (j i : Nat) (x y : Nt), i < j → l[i]? = some x → l[j]? = some y → befN x y = true := by
  intro j
  induction j with
  | zero => intro i x y h; omega
  | succ j ih =>
    intro i x y hij hx hy
    have hj := (List.getElem?_eq_some_iff.1 hy).1
    have hm : l[j]? = some l[j] := List.getElem?_eq_getElem (by omega)
    have h1 := (h.1 (j + 1) y hj hy).2.1 _ (by omega) hm
    rcases Nat.lt_or_ge i j with h2 | h2
    · exact befN_trans (ih i x _ h2 hx hm) h1
    · obtain rfl : i = j := by omega
      rw [hm] at hx; injection hx with hx; subst hx
      exact h1

theorem srt_uniq {zs ys : List Nt} (hp : zs.Perm ys) (hz : Srt zs) (hy : Srt ys) (hg : Good ys) : zs = ys := by
  refine List.Perm.eq_of_pairwise ?_ hz hy hp
  intro a b ha hb h1 h2
  obtain ⟨i, hi⟩ := List.mem_iff_getElem?.1 (hp.mem_iff.1 ha)
  obtain ⟨j, hj⟩ := List.mem_iff_getElem?.1 hb
  rcases Nat.lt_trichotomy i j with h | h | h
  · have := hg.bef j i a b h hi hj; rw [h2] at this; cases this
  · subst h; rw [hi] at hj; injection hj
  · have := hg.bef i j b a h hj hi; rw [h1] at this; cases this

theorem canon_good {ys l : List Nt} (hp : ys.Perm l) (hs : Srt ys) : goodB ys = goodB (canon l) ∧ (if goodB ys = true then ys else []) = (if goodB (canon l) = true then canon l else []) := by
  have hpc : ys.Perm (canon l) := hp.trans (canon_perm l).symm
  cases h1 : goodB ys with
  | true =>
    have e := srt_uniq hpc.symm (canon_srt l) hs ((goodB_iff ys).1 h1)
    rw [e, h1]
    exact ⟨rfl, rfl⟩
  | false =>
    cases h2 : goodB (canon l) with
    | false => exact ⟨rfl, rfl⟩
    | true =>
      have e := srt_uniq hpc hs (canon_srt l) ((goodB_iff _).1 h2)
      rw [e, h2] at h1
      cases h1

/-- x put in at place k. -/
theorem srt_ins {ys : List Nt} {x : Nt} {k : Nat} (hs : Srt ys) (hk : k ≤ ys.length) (hge : ∀ (j : Nat) (y : Nt), k ≤ j → ys[j]? = some y → befN x y = true) (hlt : ∀ y, 0 < k → ys[k - 1]? = some y → befN x y = false) :
    Srt (ys.take k ++ [x] ++ ys.drop k) := by
  have hs' := hs
  unfold Srt at hs
  rw [← List.take_append_drop k ys, List.pairwise_append] at hs
  unfold Srt
  rw [List.append_assoc, List.pairwise_append]
  refine ⟨hs.1, ?_, ?_⟩
  · rw [List.singleton_append, List.pairwise_cons]
    refine ⟨fun b hb => ?_, hs.2.1⟩
    obtain ⟨j, hj⟩ := List.mem_iff_getElem?.1 hb
    rw [List.getElem?_drop] at hj
    exact befN_asym (hge _ b (by omega) hj)
  · intro a ha b hb
    have hxa : befN x a = false := by
      obtain ⟨i, hi⟩ := List.mem_iff_getElem?.1 ha
      rw [List.getElem?_take] at hi
      split at hi
      · rename_i hik
        have hm : ys[k - 1]? = some (ys[k - 1]'(by omega)) := List.getElem?_eq_getElem (by omega)
        have h1 := hlt _ (by omega) hm
        rcases Nat.lt_or_ge i (k - 1) with h | h
        · have hia := List.getElem?_eq_some_iff.1 hi
          have h2 := List.pairwise_iff_getElem.1 hs' i (k - 1) hia.1 (by omega) h
          rw [hia.2] at h2
          exact befN_ntrans h1 h2
        · obtain rfl : i = k - 1 := by omega
          rw [hm] at hi; injection hi with hi; subst hi
          exact h1
      · cases hi
    rcases List.mem_cons.1 (by simpa using hb) with rfl | hb
    · exact hxa
    · exact hs.2.2 a ha b hb
theorem ins_perm (ys : List Nt) (x : Nt) (k : Nat) : (ys.take k ++ [x] ++ ys.drop k).Perm (ys ++ [x]) := by
  have h1 : (ys.take k ++ ([x] ++ ys.drop k)).Perm (ys.take k ++ (ys.drop k ++ [x])) := List.Perm.append_left _ List.perm_append_comm
  rw [← List.append_assoc, ← List.append_assoc, List.take_append_drop] at h1
  exact h1
end Go.Proofs.YtogklldofhcohaaDoor

