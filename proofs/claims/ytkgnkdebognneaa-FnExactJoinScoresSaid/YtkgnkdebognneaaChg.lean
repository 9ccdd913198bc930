/- Transposed and moved scores: the model's and the program's functions have one answer, in memory of their own. -/
import Derived.Test.YtkgnkdebognneaaEnd
import Derived.Deep.AppendLies
namespace Go.Proofs.Ytkgnkdebognneaa
open Go.RowKit Go.Sort
set_option linter.unusedVariables false

theorem Own.mono {w : World} {base base' t : Nat} {v : Value} {l : List Nt} (h : Own w base t v l) (hb : base' ≤ base) : Own w base' t v l :=
  ⟨h.1, h.2.imp id fun ⟨g, cap, cur, a, b, c⟩ => ⟨g, cap, cur, a, Nat.le_trans hb b, c⟩⟩
/-- A call returned a score of its own, or nil and false; below the heap's old size nothing has turned. -/
def RetScore (B : World) (l : List Nt) (ok : Bool) (e : Ending) (w' : World) : Prop :=
  ∃ v, e = .returned (.tuple #[v, .bool ok]) ∧ Own w' B.heap.size 25 v (if ok = true then l else []) ∧ Below B.heap.size B w'
theorem RetScore.mono {B B' : World} {l : List Nt} {ok : Bool} {e : Ending} {w' : World} (h : RetScore B' l ok e w') (hb : Below B.heap.size B B') : RetScore B l ok e w' := by
  obtain ⟨v, he, ho, hbl⟩ := h
  refine ⟨v, he, ?_, hb.trans (hbl.mono hb.size)⟩
  exact ho.mono hb.size
def chg (p s : Int) (l : List Nt) : List Nt := l.map fun x => (x.1 + p, x.2.1 + s, x.2.2)
theorem chg_length (p s : Int) (l : List Nt) : (chg p s l).length = l.length := by simp [chg]
theorem chg_get (p s : Int) (l : List Nt) (k : Nat) (x : Nt) (h : l[k]? = some x) : (chg p s l)[k]? = some (x.1 + p, x.2.1 + s, x.2.2) := by simp [chg, h]

set_option maxHeartbeats 1000000 in
theorem scoreOnly_any (v : Value) (l : List Nt) (base : Nat) (w : World) (hn : l.length ≤ 1048576) (hv : Own w base 25 v l) :
    Calls Try.prog 48 #[v] w fun e w' => ∃ u, e = .returned (.tuple #[u, .bool (goodB l)]) ∧ Own w' base 25 u (if goodB l = true then l else []) ∧ Below w.heap.size w w' := by
  have hv0 := hv
  obtain ⟨A, c, rfl, hA⟩ := hv.form
  clear hv
  cases hgb : goodB l with
  | false =>
    go_enter Try.func48, Try.ntmps48
    go_wp2_with fail
    refine (isScore_any _ _ _ _ hn hA).mono ?_
    rintro e w1 ⟨rfl, hb1⟩
    go_wp2
    go_ret2
    exact ⟨_, rfl, by simpa using Own.nil _ _ _, hb1⟩
  | true =>
    go_enter Try.func48, Try.ntmps48
    go_wp2_with fail
    refine (isScore_any _ _ _ _ hn hA).mono ?_
    rintro e w1 ⟨rfl, hb1⟩
    have ho := hv0.below hb1 (Nat.le_refl _)
    go_wp2
    go_ret2
    exact ⟨_, rfl, by simpa using ho, hb1⟩

set_option maxHeartbeats 1000000 in
theorem fnTrans_any (p s n by_ : Int) (b : Nat) (w : World) (hp : 0 ≤ p) (hp' : p ≤ 96) (hs : 0 ≤ s) (hs' : s ≤ 999) (h1 : -999 ≤ by_) (h2 : by_ ≤ 999) (hlt : b < w.heap.size) (hc : w.cell? ⟨b, 0, none⟩ = some (.int .i64 by_)) :
    Calls Try.prog 52 #[.agg #[.int .i64 p, .int .i64 s, .int .i64 n], .pointer (some ⟨b, 0, none⟩)] w fun e w' => e = .returned (.agg #[.int .i64 (p + by_), .int .i64 s, .int .i64 n]) ∧ Below w.heap.size w w' := by
  go_enter Try.func52, Try.ntmps52
  go_wp2
  exact bodyPost_ret (v := .agg #[.int .i64 (p + by_), .int .i64 s, .int .i64 n]) (by simp [results, Try.results52, go_sem]) rfl ⟨rfl, ((Below.refl _ _).alloc (Nat.le_refl _) _).alloc (by simp) _⟩

set_option maxRecDepth 100000 in
set_option maxHeartbeats 2000000 in
theorem changeTrans_any (A : Option Addr) (l : List Nt) (c : Nat) (by_ : Int) (b : Nat) (w : World) (hn : l.length ≤ 1048576) (hA : RA w A l) (h1 : -999 ≤ by_) (h2 : by_ ≤ 999) (hlt : b < w.heap.size) (hc : w.cell? ⟨b, 0, none⟩ = some (.int .i64 by_)) :
    Calls Try.prog 51 #[.slice A l.length c, .func (.func 52) #[] #[.pointer (some ⟨b, 0, none⟩)]] w fun e w' => RetScore w (chg by_ 0 l) (goodB l && goodB (chg by_ 0 l)) e w' := by
  cases hgb : goodB l with
  | false =>
    go_enter Try.func51, Try.ntmps51
    go_wp2_with fail
    refine (isScore_any _ _ _ _ hn hA).mono ?_
    rintro e w1 ⟨rfl, hb1⟩
    go_wp2
    go_ret2
    exact ⟨_, rfl, by simpa using Own.nil _ _ _, hb1⟩
  | true =>
    have hg := (goodB_iff l).1 hgb
    have hmk := make_notes l.length hn
    go_enter Try.func51, Try.ntmps51
    go_wp2_with fail
    refine (isScore_any _ _ _ _ hn hA).mono ?_
    rintro e w1 ⟨rfl, hb1⟩
    have hA1 := hA.below hb1
    have hc1 : w1.cell? ⟨b, 0, none⟩ = some (.int .i64 by_) := (hb1.cell (p := ⟨b, 0, none⟩) hlt).trans hc
    have hlt1 : b < w1.heap.size := Nat.lt_of_lt_of_le hlt hb1.size
    go_wp2
    clear hgb hc hA hmk
    have hG := Lib.hid hg
    clear hg
    go_loopw [17] (fun i wr => ∃ k : Nat, k ≤ l.length ∧ i = .int .i64 k ∧ Own wr w1.heap.size 25 (.slice (some ⟨w1.heap.size, 0, none⟩) l.length l.length) ((chg by_ 0 l).take k ++ (List.replicate l.length (0, 0, 0)).drop k) ∧ Below w1.heap.size w1 wr)
      (fun i _ => l.length - (intOf i).toNat)
    case atStart =>
      refine ⟨0, Nat.zero_le _, rfl, ?_, (Below.refl _ _).alloc (Nat.le_refl _) _⟩
      have h := World.ownsRow_lit (base := w1.heap.size) (e := 25) (size := 3) w1 (madeCells #[.int .i64 0, .int .i64 0, .int .i64 0] (l.length * 3)) l.length (Nat.le_refl _) (by unfold maxLen; omega) (size_madeCells _ _)
      rw [made_cl] at h
      simpa [Own] using h
    case round =>
      obtain ⟨k, hk, rfl, hown, hb⟩ := hrel
      by_cases hkl : k < l.length
      · have hx : l[k]? = some l[k] := List.getElem?_eq_getElem hkl
        generalize l[k] = x at hx
        have hv := (noteN_iff x).1 (hG.out.1 k x hkl hx).1
        obtain ⟨p, s, n⟩ := x
        have hx' : (chg by_ 0 l)[k]? = some (p + by_, s, n) := by simpa using chg_get by_ 0 l k _ hx
        simp only at hv
        obtain ⟨g, o, rfl, hgb, h0, h1', h2'⟩ := (hA1.below hb) k _ hx
        simp only at h0 h1' h2'
        have i1 : (0 : Int) ≤ (k : Int) := by omega
        have i2 : (k : Int) < (l.length : Int) := by omega
        have hcr : wr.cell? ⟨b, 0, none⟩ = some (.int .i64 by_) := (hb.cell (p := ⟨b, 0, none⟩) hlt1).trans hc1
        have hltr : b < wr.heap.size := Nat.lt_of_lt_of_le hlt1 hb.size
        have HX := Lib.hid hx'
        clear hx hx'
        go_wp2_with fail
        refine (fnTrans_any _ _ _ by_ b _ (by omega) (by omega) (by omega) (by omega) h1 h2 (by simp; omega) (by rw [World.cell?_alloc_lt _ _ _ hltr]; exact hcr)).mono ?_
        rintro e w2 ⟨rfl, hb2⟩
        have hbr2 : Below wr.heap.size wr w2 := ((Below.refl _ _).alloc (Nat.le_refl _) _).trans (hb2.mono (by simp))
        have hown1 := hown.below hbr2 (Nat.le_refl _)
        have hz1 : w1.heap.size < w2.heap.size := (hown1.lt _ rfl).2
        have hL : ((chg by_ 0 l).take k ++ (List.replicate l.length ((0, 0, 0) : Nt)).drop k).length = l.length := by simp [chg_length]; omega
        unfold Own at hown1
        rw [hL] at hown1
        have ff := fun j => hown1.frozenAt j
        have c0 : ∃ u, w2.cell? ⟨w1.heap.size, k * 3, none⟩ = some u := by rw [hown1.cellAt _ (by omega)]; exact ⟨_, List.getElem?_eq_getElem (by rw [cl_length, hL]; omega)⟩
        have c1 : ∃ u, w2.cell? ⟨w1.heap.size, k * 3 + 1, none⟩ = some u := by rw [hown1.cellAt _ (by omega)]; exact ⟨_, List.getElem?_eq_getElem (by rw [cl_length, hL]; omega)⟩
        have c2 : ∃ u, w2.cell? ⟨w1.heap.size, k * 3 + 2, none⟩ = some u := by rw [hown1.cellAt _ (by omega)]; exact ⟨_, List.getElem?_eq_getElem (by rw [cl_length, hL]; omega)⟩
        obtain ⟨u0, c0⟩ := c0
        obtain ⟨u1, c1⟩ := c1
        obtain ⟨u2, c2⟩ := c2
        have f0 := ff (k * 3)
        have f1 := ff (k * 3 + 1)
        have f2 := ff (k * 3 + 2)
        have H := Lib.hid hown1
        have HL := Lib.hid hL
        clear ff hown1 hL hown hcr
        go_wp2
        go_roundw
        case rel =>
          refine ⟨k + 1, by omega, by go_num, ?_, ((hb.trans (hbr2.mono hb.size)).setCell (by simp) _ |>.setCell (by simp) _).setCell (by simp) _⟩
          have k1 := ((H.out.stored (k * 3) (.int .i64 (p + by_))).1.stored (k * 3 + 1) (.int .i64 (s))).1.stored (k * 3 + 2) (.int .i64 n)
          have k2 := k1.1
          rw [cl_set _ _ (p + by_, s, n) (by rw [HL.out]; exact hkl), take_set (chg by_ 0 l) _ k _ HX.out (by simpa using hkl)] at k2
          unfold Own
          have hL' : ((chg by_ 0 l).take (k + 1) ++ (List.replicate l.length ((0, 0, 0) : Nt)).drop (k + 1)).length = l.length := by simp [chg_length]; omega
          rw [hL']
          exact k2
        case measure => simp [intOf]; omega
      · obtain rfl : k = l.length := by omega
        have hown2 : Own wr w1.heap.size 25 (.slice (some ⟨w1.heap.size, 0, none⟩) l.length l.length) (chg by_ 0 l) := by
          simpa [chg_length, List.take_of_length_le] using hown
        go_wp2_with fail
        refine (scoreOnly_any _ (chg by_ 0 l) w1.heap.size _ (by rw [chg_length]; exact hn) hown2).mono ?_
        rintro e w2 ⟨u, rfl, ho2, hb2⟩
        go_wp2
        go_ret2
        refine RetScore.mono (B' := w1) ⟨_, rfl, ho2, hb.trans (hb2.mono hb.size)⟩ hb1

set_option maxRecDepth 100000 in
set_option maxHeartbeats 1000000 in
theorem implTrans_any (A : Option Addr) (l : List Nt) (c : Nat) (by_ : Int) (w : World) (hn : l.length ≤ 1048576) (hA : RA w A l) :
    Calls Try.prog 25 #[.slice A l.length c, .int .i64 by_] w fun e w' => RetScore w (chg by_ 0 l) (inR by_ (-72) 72 && (goodB l && goodB (chg by_ 0 l))) e w' := by
  have hmf : ∀ (fn : Fn) (first cap : Array Value) (w : World), (Instr.makeFunc fn first cap).run Try.prog w = .ok (.func fn first cap) w := fun _ _ _ _ => rfl
  cases hin : inR by_ (-72) 72 with
  | false =>
    go_enter Try.func25, Try.ntmps25
    go_wp2_with fail
    refine (inRange_any _ _ _ _).mono ?_
    rintro e w1 ⟨rfl, rfl⟩
    go_wp2
    go_ret2
    exact ⟨_, rfl, by simpa using Own.nil _ _ _, (Below.refl _ _).alloc (Nat.le_refl _) _⟩
  | true =>
    have hby : -72 ≤ by_ ∧ by_ ≤ 72 := by simpa [inR] using hin
    go_enter Try.func25, Try.ntmps25
    go_wp2_with fail
    refine (inRange_any _ _ _ _).mono ?_
    rintro e w1 ⟨rfl, rfl⟩
    go_wp2_with fail
    refine (changeTrans_any A l c by_ w.heap.size _ hn (hA.alloc _) (by omega) (by omega) (by simp) (World.cell?_alloc_new w _ _ 0)).mono ?_
    rintro e w2 ⟨v, rfl, ho, hb⟩
    go_wp2
    go_ret2
    exact RetScore.mono (B' := w.alloc _) ⟨v, rfl, by simpa using ho, hb⟩ ((Below.refl _ _).alloc (Nat.le_refl _) _)

set_option maxHeartbeats 1000000 in
theorem fnMove_any (p s n by_ : Int) (b : Nat) (w : World) (hp : 0 ≤ p) (hp' : p ≤ 96) (hs : 0 ≤ s) (hs' : s ≤ 999) (h1 : -999 ≤ by_) (h2 : by_ ≤ 999) (hlt : b < w.heap.size) (hc : w.cell? ⟨b, 0, none⟩ = some (.int .i64 by_)) :
    Calls Try.prog 53 #[.agg #[.int .i64 p, .int .i64 s, .int .i64 n], .pointer (some ⟨b, 0, none⟩)] w fun e w' => e = .returned (.agg #[.int .i64 p, .int .i64 (s + by_), .int .i64 n]) ∧ Below w.heap.size w w' := by
  go_enter Try.func53, Try.ntmps53
  go_wp2
  exact bodyPost_ret (v := .agg #[.int .i64 p, .int .i64 (s + by_), .int .i64 n]) (by simp [results, Try.results53, go_sem]) rfl ⟨rfl, ((Below.refl _ _).alloc (Nat.le_refl _) _).alloc (by simp) _⟩

set_option maxRecDepth 100000 in
set_option maxHeartbeats 2000000 in
theorem changeMove_any (A : Option Addr) (l : List Nt) (c : Nat) (by_ : Int) (b : Nat) (w : World) (hn : l.length ≤ 1048576) (hA : RA w A l) (h1 : -999 ≤ by_) (h2 : by_ ≤ 999) (hlt : b < w.heap.size) (hc : w.cell? ⟨b, 0, none⟩ = some (.int .i64 by_)) :
    Calls Try.prog 51 #[.slice A l.length c, .func (.func 53) #[] #[.pointer (some ⟨b, 0, none⟩)]] w fun e w' => RetScore w (chg 0 by_ l) (goodB l && goodB (chg 0 by_ l)) e w' := by
  cases hgb : goodB l with
  | false =>
    go_enter Try.func51, Try.ntmps51
    go_wp2_with fail
    refine (isScore_any _ _ _ _ hn hA).mono ?_
    rintro e w1 ⟨rfl, hb1⟩
    go_wp2
    go_ret2
    exact ⟨_, rfl, by simpa using Own.nil _ _ _, hb1⟩
  | true =>
    have hg := (goodB_iff l).1 hgb
    have hmk := make_notes l.length hn
    go_enter Try.func51, Try.ntmps51
    go_wp2_with fail
    refine (isScore_any _ _ _ _ hn hA).mono ?_
    rintro e w1 ⟨rfl, hb1⟩
    have hA1 := hA.below hb1
    have hc1 : w1.cell? ⟨b, 0, none⟩ = some (.int .i64 by_) := (hb1.cell (p := ⟨b, 0, none⟩) hlt).trans hc
    have hlt1 : b < w1.heap.size := Nat.lt_of_lt_of_le hlt hb1.size
    go_wp2
    clear hgb hc hA hmk
    have hG := Lib.hid hg
    clear hg
    go_loopw [17] (fun i wr => ∃ k : Nat, k ≤ l.length ∧ i = .int .i64 k ∧ Own wr w1.heap.size 25 (.slice (some ⟨w1.heap.size, 0, none⟩) l.length l.length) ((chg 0 by_ l).take k ++ (List.replicate l.length (0, 0, 0)).drop k) ∧ Below w1.heap.size w1 wr)
      (fun i _ => l.length - (intOf i).toNat)
    case atStart =>
      refine ⟨0, Nat.zero_le _, rfl, ?_, (Below.refl _ _).alloc (Nat.le_refl _) _⟩
      have h := World.ownsRow_lit (base := w1.heap.size) (e := 25) (size := 3) w1 (madeCells #[.int .i64 0, .int .i64 0, .int .i64 0] (l.length * 3)) l.length (Nat.le_refl _) (by unfold maxLen; omega) (size_madeCells _ _)
      rw [made_cl] at h
      simpa [Own] using h
    case round =>
      obtain ⟨k, hk, rfl, hown, hb⟩ := hrel
      by_cases hkl : k < l.length
      · have hx : l[k]? = some l[k] := List.getElem?_eq_getElem hkl
        generalize l[k] = x at hx
        have hv := (noteN_iff x).1 (hG.out.1 k x hkl hx).1
        obtain ⟨p, s, n⟩ := x
        have hx' : (chg 0 by_ l)[k]? = some (p, s + by_, n) := by simpa using chg_get 0 by_ l k _ hx
        simp only at hv
        obtain ⟨g, o, rfl, hgb, h0, h1', h2'⟩ := (hA1.below hb) k _ hx
        simp only at h0 h1' h2'
        have i1 : (0 : Int) ≤ (k : Int) := by omega
        have i2 : (k : Int) < (l.length : Int) := by omega
        have hcr : wr.cell? ⟨b, 0, none⟩ = some (.int .i64 by_) := (hb.cell (p := ⟨b, 0, none⟩) hlt1).trans hc1
        have hltr : b < wr.heap.size := Nat.lt_of_lt_of_le hlt1 hb.size
        have HX := Lib.hid hx'
        clear hx hx'
        go_wp2_with fail
        refine (fnMove_any _ _ _ by_ b _ (by omega) (by omega) (by omega) (by omega) h1 h2 (by simp; omega) (by rw [World.cell?_alloc_lt _ _ _ hltr]; exact hcr)).mono ?_
        rintro e w2 ⟨rfl, hb2⟩
        have hbr2 : Below wr.heap.size wr w2 := ((Below.refl _ _).alloc (Nat.le_refl _) _).trans (hb2.mono (by simp))
        have hown1 := hown.below hbr2 (Nat.le_refl _)
        have hz1 : w1.heap.size < w2.heap.size := (hown1.lt _ rfl).2
        have hL : ((chg 0 by_ l).take k ++ (List.replicate l.length ((0, 0, 0) : Nt)).drop k).length = l.length := by simp [chg_length]; omega
        unfold Own at hown1
        rw [hL] at hown1
        have ff := fun j => hown1.frozenAt j
        have c0 : ∃ u, w2.cell? ⟨w1.heap.size, k * 3, none⟩ = some u := by rw [hown1.cellAt _ (by omega)]; exact ⟨_, List.getElem?_eq_getElem (by rw [cl_length, hL]; omega)⟩
        have c1 : ∃ u, w2.cell? ⟨w1.heap.size, k * 3 + 1, none⟩ = some u := by rw [hown1.cellAt _ (by omega)]; exact ⟨_, List.getElem?_eq_getElem (by rw [cl_length, hL]; omega)⟩
        have c2 : ∃ u, w2.cell? ⟨w1.heap.size, k * 3 + 2, none⟩ = some u := by rw [hown1.cellAt _ (by omega)]; exact ⟨_, List.getElem?_eq_getElem (by rw [cl_length, hL]; omega)⟩
        obtain ⟨u0, c0⟩ := c0
        obtain ⟨u1, c1⟩ := c1
        obtain ⟨u2, c2⟩ := c2
        have f0 := ff (k * 3)
        have f1 := ff (k * 3 + 1)
        have f2 := ff (k * 3 + 2)
        have H := Lib.hid hown1
        have HL := Lib.hid hL
        clear ff hown1 hL hown hcr
        go_wp2
        go_roundw
        case rel =>
          refine ⟨k + 1, by omega, by go_num, ?_, ((hb.trans (hbr2.mono hb.size)).setCell (by simp) _ |>.setCell (by simp) _).setCell (by simp) _⟩
          have k1 := ((H.out.stored (k * 3) (.int .i64 (p))).1.stored (k * 3 + 1) (.int .i64 (s + by_))).1.stored (k * 3 + 2) (.int .i64 n)
          have k2 := k1.1
          rw [cl_set _ _ (p, s + by_, n) (by rw [HL.out]; exact hkl), take_set (chg 0 by_ l) _ k _ HX.out (by simpa using hkl)] at k2
          unfold Own
          have hL' : ((chg 0 by_ l).take (k + 1) ++ (List.replicate l.length ((0, 0, 0) : Nt)).drop (k + 1)).length = l.length := by simp [chg_length]; omega
          rw [hL']
          exact k2
        case measure => simp [intOf]; omega
      · obtain rfl : k = l.length := by omega
        have hown2 : Own wr w1.heap.size 25 (.slice (some ⟨w1.heap.size, 0, none⟩) l.length l.length) (chg 0 by_ l) := by
          simpa [chg_length, List.take_of_length_le] using hown
        go_wp2_with fail
        refine (scoreOnly_any _ (chg 0 by_ l) w1.heap.size _ (by rw [chg_length]; exact hn) hown2).mono ?_
        rintro e w2 ⟨u, rfl, ho2, hb2⟩
        go_wp2
        go_ret2
        refine RetScore.mono (B' := w1) ⟨_, rfl, ho2, hb.trans (hb2.mono hb.size)⟩ hb1

set_option maxRecDepth 100000 in
set_option maxHeartbeats 1000000 in
theorem implMove_any (A : Option Addr) (l : List Nt) (c : Nat) (by_ : Int) (w : World) (hn : l.length ≤ 1048576) (hA : RA w A l) :
    Calls Try.prog 27 #[.slice A l.length c, .int .i64 by_] w fun e w' => RetScore w (chg 0 by_ l) (inR by_ (-999) 999 && (goodB l && goodB (chg 0 by_ l))) e w' := by
  have hmf : ∀ (fn : Fn) (first cap : Array Value) (w : World), (Instr.makeFunc fn first cap).run Try.prog w = .ok (.func fn first cap) w := fun _ _ _ _ => rfl
  cases hin : inR by_ (-999) 999 with
  | false =>
    go_enter Try.func27, Try.ntmps27
    go_wp2_with fail
    refine (inRange_any _ _ _ _).mono ?_
    rintro e w1 ⟨rfl, rfl⟩
    go_wp2
    go_ret2
    exact ⟨_, rfl, by simpa using Own.nil _ _ _, (Below.refl _ _).alloc (Nat.le_refl _) _⟩
  | true =>
    have hby : -999 ≤ by_ ∧ by_ ≤ 999 := by simpa [inR] using hin
    go_enter Try.func27, Try.ntmps27
    go_wp2_with fail
    refine (inRange_any _ _ _ _).mono ?_
    rintro e w1 ⟨rfl, rfl⟩
    go_wp2_with fail
    refine (changeMove_any A l c by_ w.heap.size _ hn (hA.alloc _) (by omega) (by omega) (by simp) (World.cell?_alloc_new w _ _ 0)).mono ?_
    rintro e w2 ⟨v, rfl, ho, hb⟩
    go_wp2
    go_ret2
    exact RetScore.mono (B' := w.alloc _) ⟨v, rfl, by simpa using ho, hb⟩ ((Below.refl _ _).alloc (Nat.le_refl _) _)

end Go.Proofs.Ytkgnkdebognneaa
