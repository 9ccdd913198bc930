/- Contracts: ScaleTempos of the model and of the program. -/
import Derived.Test.YtjjohenpapfabaaTempos
import Derived.Test.YtjjohenpapfabaaChangeApp
import Derived.LoopTactic
import Derived.Deep.DeepCutAuto
namespace Go.Proofs.Ytjjohenpapfabaa
open Go.RowKit
set_option linter.unusedVariables false
set_option linter.unusedSimpArgs false

theorem inR_iff {n lo hi : Int} : inR n lo hi = true ↔ lo ≤ n ∧ n ≤ hi := by simp [inR]
/-- Tempos, or nothing. -/
def onlyT (l : List Nt2) : List Nt2 := if goodT l = true then l else []
theorem onlyT_true {l : List Nt2} (h : goodT l = true) : onlyT l = l := if_pos h
theorem onlyT_false {l : List Nt2} (h : goodT l = false) : onlyT l = [] := by unfold onlyT; rw [h]; rfl
theorem onlyT_len (l : List Nt2) : (onlyT l).length ≤ l.length := by
  cases h : goodT l with
  | true => rw [onlyT_true h]; exact Nat.le_refl _
  | false => rw [onlyT_false h]; simp

set_option maxHeartbeats 1000000 in
theorem temposOnly_any (v : Value) (l : List Nt2) (base B : Nat) (w0 w : World) (hn : l.length ≤ 1048576) (hv : Own2 w base 63 v l) (hB : Below B w0 w) (hB0 : B ≤ w0.heap.size) :
    Calls Try.prog 60 #[v] w fun e w' => ∃ u, e = .returned (.tuple #[u, .bool (goodT l)]) ∧ Own2 w' base 63 u (onlyT l) ∧ Below B w0 w' := by
  have HV := Lib.hid hv
  obtain ⟨A, c, rfl, hA⟩ := hv.form
  clear hv
  cases hgb : goodT l with
  | false =>
    rw [onlyT_false hgb]
    have hG := fun (w : World) (hA : RA2 w A l) => areTempos_any A l c w hn hA
    rw [hgb] at hG
    have HG := Lib.hid hG
    clear hG hgb
    go_enter Try.func60, Try.ntmps60
    go_wp2_with fail
    refine (HG.out _ hA).mono ?_
    rintro e w1 ⟨rfl, hb1⟩
    go_wp2
    go_ret2
    exact ⟨_, rfl, Own2.nil _ _ _, hB.trans (hb1.mono (Nat.le_trans hB0 hB.size))⟩
  | true =>
    rw [onlyT_true hgb]
    have hG := fun (w : World) (hA : RA2 w A l) => areTempos_any A l c w hn hA
    rw [hgb] at hG
    have HG := Lib.hid hG
    clear hG hgb
    go_enter Try.func60, Try.ntmps60
    go_wp2_with fail
    refine (HG.out _ hA).mono ?_
    rintro e w1 ⟨rfl, hb1⟩
    have HO := Lib.hid (HV.out.below hb1 (Nat.le_refl _))
    go_wp2
    go_ret2
    exact ⟨_, rfl, HO.out, hB.trans (hb1.mono (Nat.le_trans hB0 hB.size))⟩

set_option maxHeartbeats 1000000 in
theorem teIf_any (v : Value) (l : List Nt2) (base B : Nat) (w0 w : World) (hn : l.length ≤ 1048576) (hv : Own2 w base 63 v l) (hB : Below B w0 w) (hB0 : B ≤ w0.heap.size) :
    Calls Try.prog 55 #[v] w fun e w' => ∃ u, e = .returned (.tuple #[u, .bool (goodT l)]) ∧ Own2 w' base 63 u (onlyT l) ∧ Below B w0 w' := by
  have HV := Lib.hid hv
  obtain ⟨A, c, rfl, hA⟩ := hv.form
  clear hv
  cases hgb : goodT l with
  | false =>
    rw [onlyT_false hgb]
    have hG := fun (w : World) (hA : RA2 w A l) => teGood_any A l c w hn hA
    rw [hgb] at hG
    have HG := Lib.hid hG
    clear hG hgb
    go_enter Try.func55, Try.ntmps55
    go_wp2_with fail
    refine (HG.out _ hA).mono ?_
    rintro e w1 ⟨rfl, hb1⟩
    go_wp2
    go_ret2
    exact ⟨_, rfl, Own2.nil _ _ _, hB.trans (hb1.mono (Nat.le_trans hB0 hB.size))⟩
  | true =>
    rw [onlyT_true hgb]
    have hG := fun (w : World) (hA : RA2 w A l) => teGood_any A l c w hn hA
    rw [hgb] at hG
    have HG := Lib.hid hG
    clear hG hgb
    go_enter Try.func55, Try.ntmps55
    go_wp2_with fail
    refine (HG.out _ hA).mono ?_
    rintro e w1 ⟨rfl, hb1⟩
    have HO := Lib.hid (HV.out.below hb1 (Nat.le_refl _))
    go_wp2
    go_ret2
    exact ⟨_, rfl, HO.out, hB.trans (hb1.mono (Nat.le_trans hB0 hB.size))⟩

/-- A step's time, scaled by percents. -/
def sc (p y : Int) : Int := (y * p + 50).tdiv 100
def scL (p : Int) (l : List Nt2) : List Nt2 := l.map fun x => (x.1, sc p x.2)
theorem scL_length (p : Int) (l : List Nt2) : (scL p l).length = l.length := by simp [scL]
theorem scL_get (p : Int) (l : List Nt2) (k : Nat) (x : Nt2) (h : l[k]? = some x) : (scL p l)[k]? = some (x.1, sc p x.2) := by simp [scL, h]
theorem scL_snoc (p : Int) (l : List Nt2) (k : Nat) (x : Nt2) (h : l[k]? = some x) : scL p (l.take (k + 1)) = scL p (l.take k) ++ [(x.1, sc p x.2)] := by
  unfold scL
  rw [List.take_add_one, h, List.map_append]
  rfl
theorem sc_bound {p y : Int} (h1 : 1 ≤ p) (h2 : p ≤ 400) (h3 : 1000 ≤ y) (h4 : y ≤ 1000000) : 0 ≤ y * p ∧ y * p ≤ 400000000 ∧ 0 ≤ sc p y ∧ sc p y ≤ 5000000 := by
  have a1 : 0 ≤ y * p := Int.mul_nonneg (by omega) (by omega)
  have a2 : y * p ≤ 1000000 * 400 := Int.mul_le_mul h4 h2 (by omega) (by omega)
  have a3 : sc p y = (y * p + 50) / 100 := by unfold sc; rw [Int.tdiv_eq_ediv_of_nonneg (by omega)]
  rw [a3]
  omega
theorem set_same {l : List Value} {i : Nat} {v : Value} (h : l[i]? = some v) : l.set i v = l := by
  apply List.ext_getElem?
  intro j
  by_cases hj : i = j
  · subst hj
    rw [List.getElem?_set_self (List.getElem?_eq_some_iff.1 h).1, h]
  · rw [List.getElem?_set_ne hj]
theorem cl2_set2 (l : List Nt2) (k : Nat) (x : Nt2) (y : Int) (h : l[k]? = some x) : (cl2 l).set (k * 2 + 1) (.int .i64 y) = cl2 (l.set k (x.1, y)) := by
  rw [← cl2_set l k (x.1, y) (List.getElem?_eq_some_iff.1 h).1, set_same (cl2_get l k x h).1]
theorem heap_two4 (W : World) (x y : Obj) : ((W.alloc x).alloc y).heap[W.heap.size + 1]? = some y := by
  have := heap_alloc_new (W.alloc x) y
  simpa using this
theorem quick4 {f : Nat} {A : Option Addr} {l : List Nt2} {c : Nat} {b : Bool} (h : goodT l = b) (hc : ∀ w : World, RA2 w A l → Calls Try.prog f #[.slice A l.length c] w fun e w' => e = .returned (.bool (goodT l)) ∧ Below w.heap.size w w') :
    Hid (∀ w : World, RA2 w A l → Calls Try.prog f #[.slice A l.length c] w fun e w' => e = .returned (.bool b) ∧ Below w.heap.size w w') := by
  subst h; exact Lib.hid hc

set_option maxRecDepth 100000 in
set_option maxHeartbeats 1000000 in
theorem implScale_no (A : Nat) (l : List Nt2) (c : Nat) (p : Int) (w : World) (hn : l.length ≤ 1048576) (hA : RA2 w (some ⟨A, 0, none⟩) l) (hbad : (goodT l && inR p 1 400) = false) :
    Calls Try.prog 18 #[.slice (some ⟨A, 0, none⟩) l.length c, .int .i64 p] w fun e w' => ∃ v, e = .returned (.tuple #[v, .bool false]) ∧ Own2 w' w.heap.size 63 v [] ∧ Below w.heap.size w w' := by
  cases hg : goodT l with
  | false =>
    have HG := quick4 (c := c) (A := some ⟨A, 0, none⟩) hg (fun w hA => areTempos_any _ l c w hn hA)
    clear hg hbad
    go_enter Try.func18, Try.ntmps18
    go_wp2_with (go_at_call 57; refine (HG.out _ hA).mono ?_; rintro e w1 ⟨rfl, hb1⟩)
    go_ret2
    exact ⟨_, rfl, Own2.nil _ _ _, hb1⟩
  | true =>
    have hi : inR p 1 400 = false := by rw [hg] at hbad; simpa using hbad
    have HG := quick4 (c := c) (A := some ⟨A, 0, none⟩) hg (fun w hA => areTempos_any _ l c w hn hA)
    clear hg hbad
    go_enter Try.func18, Try.ntmps18
    go_wp2_with (first
      | (go_at_call 57; refine (HG.out _ hA).mono ?_; rintro e w1 ⟨rfl, hb1⟩)
      | (go_at_call 58; refine (inRange_any _ _ _ _).mono ?_; rintro e w2 ⟨rfl, rfl⟩))
    go_ret2
    exact ⟨_, rfl, Own2.nil _ _ _, hb1⟩

set_option maxRecDepth 100000 in
set_option maxHeartbeats 1000000 in
theorem specScale_no (A : Nat) (l : List Nt2) (c : Nat) (p : Int) (w : World) (hn : l.length ≤ 1048576) (hA : RA2 w (some ⟨A, 0, none⟩) l) (hbad : (goodT l && inR p 1 400) = false) :
    Calls Try.prog 16 #[.slice (some ⟨A, 0, none⟩) l.length c, .int .i64 p] w fun e w' => ∃ v, e = .returned (.tuple #[v, .bool false]) ∧ Own2 w' w.heap.size 63 v [] ∧ Below w.heap.size w w' := by
  cases hg : goodT l with
  | false =>
    have HG := quick4 (c := c) (A := some ⟨A, 0, none⟩) hg (fun w hA => teGood_any _ l c w hn hA)
    clear hg hbad
    go_enter Try.func16, Try.ntmps16
    go_wp2_with (go_at_call 53; refine (HG.out _ hA).mono ?_; rintro e w1 ⟨rfl, hb1⟩)
    go_ret2
    exact ⟨_, rfl, Own2.nil _ _ _, hb1⟩
  | true =>
    have hi : inR p 1 400 = false := by rw [hg] at hbad; simpa using hbad
    have HG := quick4 (c := c) (A := some ⟨A, 0, none⟩) hg (fun w hA => teGood_any _ l c w hn hA)
    clear hg hbad
    go_enter Try.func16, Try.ntmps16
    go_wp2_with (first
      | (go_at_call 53; refine (HG.out _ hA).mono ?_; rintro e w1 ⟨rfl, hb1⟩)
      | (go_at_call 54; refine (l1In_any _ _ _ _).mono ?_; rintro e w2 ⟨rfl, rfl⟩))
    go_ret2
    exact ⟨_, rfl, Own2.nil _ _ _, hb1⟩

set_option maxRecDepth 100000 in
set_option maxHeartbeats 4000000 in
theorem implScale_yes (A : Nat) (l : List Nt2) (c : Nat) (p : Int) (w : World) (hn : l.length ≤ 1048576) (hc' : c ≤ 9223372036854775807) (hA : RA2 w (some ⟨A, 0, none⟩) l) (hg : goodT l = true) (hi : inR p 1 400 = true) :
    Calls Try.prog 18 #[.slice (some ⟨A, 0, none⟩) l.length c, .int .i64 p] w fun e w' => ∃ v, e = .returned (.tuple #[v, .bool (goodT (scL p l))]) ∧ Own2 w' w.heap.size 63 v (onlyT (scL p l)) ∧ Below w.heap.size w w' := by
  have HG := quick4 (c := c) (A := some ⟨A, 0, none⟩) hg (fun w hA => areTempos_any _ l c w hn hA)
  have ht := Lib.hid (goodT.tmp hg)
  have hl1 := ht.out.pos
  have hl2 := ht.out.few
  obtain ⟨p1, p2⟩ := inR_iff.1 hi
  clear hg
  go_enter Try.func18, Try.ntmps18
  go_wp2_with (first
    | (go_at_call 57; refine (HG.out _ hA).mono ?_; rintro e w1 ⟨rfl, hb1⟩)
    | (go_at_call 58; refine (inRange_any _ _ _ _).mono ?_; rintro e w2 ⟨rfl, rfl⟩))
  refine (cloneChange_any A _ l c _ rfl hn hc' (hA.below hb1)).mono ?_
  rintro e w2 ⟨v, rfl, ho2, hb2⟩
  obtain ⟨g, c2, rfl⟩ := ho2.some (by omega)
  have hgl := ho2.lt g rfl
  have hB2 := Lib.hid (hb1.trans (hb2.mono hb1.size))
  have hB1S := Lib.hid hb1.size
  clear hA hb1 hb2 hi
  go_wp2
  go_loopw [21] (fun i wr => ∃ k : Nat, k ≤ l.length ∧ i = .int .i64 k ∧ Own2 wr w1.heap.size 63 (.slice (some ⟨g, 0, none⟩) l.length c2) ((scL p l).take k ++ l.drop k) ∧ Below w.heap.size w wr)
    (fun i _ => l.length - (intOf i).toNat)
  case atStart => exact ⟨0, Nat.zero_le _, rfl, by simpa using ho2, hB2.out⟩
  case round =>
    obtain ⟨k, hk, rfl, hown, hb⟩ := hrel
    have hL : ((scL p l).take k ++ l.drop k).length = l.length := by simp [scL_length]; omega
    by_cases hkl : k < l.length
    · have hx : l[k]? = some l[k] := List.getElem?_eq_getElem hkl
      generalize l[k] = x at hx
      obtain ⟨a, y⟩ := x
      have hlx := ht.out.last k hkl
      rw [lst_of hx] at hlx
      simp only at hlx
      obtain ⟨s1, s2, s3, s4⟩ := sc_bound p1 p2 hlx.1 hlx.2
      have hxL : ((scL p l).take k ++ l.drop k)[k]? = some (a, y) := by
        rw [List.getElem?_append_right (by simp [scL_length]; omega)]
        simp only [List.length_take, scL_length, Nat.min_eq_left hk, Nat.sub_self, List.getElem?_drop, Nat.add_zero]
        exact hx
      obtain ⟨hgw, c0, c1⟩ := hown.ra.at k _ hxL
      rw [Nat.zero_add] at c0 c1
      simp only at c0 c1
      have i1 : (0 : Int) ≤ (k : Int) := by omega
      have i2 : (k : Int) < (l.length : Int) := by omega
      have hown1 := hown.alloc (.cells #[.int .i64 a, .int .i64 y] 63)
      have hb1 := hb.alloc hb.size (.cells #[.int .i64 a, .int .i64 y] 63)
      have d1 : (wr.alloc (.cells #[.int .i64 a, .int .i64 y] 63)).cell? ⟨g, k * 2 + 1, none⟩ = some (.int .i64 y) := (World.cell?_alloc_lt _ _ _ hgw).trans c1
      have x0 : (wr.alloc (.cells #[.int .i64 a, .int .i64 y] 63)).cell? ⟨wr.heap.size, 0, none⟩ = some (.int .i64 a) := by rw [World.cell?_alloc_new]; rfl
      have x1 : (wr.alloc (.cells #[.int .i64 a, .int .i64 y] 63)).cell? ⟨wr.heap.size, 1, none⟩ = some (.int .i64 y) := by rw [World.cell?_alloc_new]; rfl
      unfold Own2 at hown1
      rw [hL] at hown1
      have f1 := hown1.frozenAt (k * 2 + 1)
      have HX := Lib.hid hxL
      have HXL := Lib.hid hx
      have HO := Lib.hid hown1
      have HL := Lib.hid hL
      clear hx hxL hown hown1 hL hlx
      go_upto_region 7 with fail
      generalize wr.alloc (.cells #[.int .i64 a, .int .i64 y] 63) = V at *
      clear c0 c1 hb
      unfold sc at s3 s4
      go_wp2
      go_roundw
      case rel =>
        refine ⟨k + 1, by omega, by go_num, ?_, hb1.setCell (Nat.le_trans hB1S.out hgl.1) _⟩
        have k1 := (HO.out.stored (k * 2 + 1) (.int .i64 (sc p y))).1
        rw [cl2_set2 _ _ _ _ HX.out, take_set2 (scL p l) l k _ (scL_get p l k _ HXL.out) hkl] at k1
        unfold Own2
        rw [show ((scL p l).take (k + 1) ++ l.drop (k + 1)).length = l.length from by simp [scL_length]; omega]
        exact k1
      case measure => simp [intOf]; omega
    · obtain rfl : k = l.length := by omega
      rw [List.take_of_length_le (by rw [scL_length]; exact Nat.le_refl _), List.drop_length, List.append_nil] at hown
      have hown2 : Own2 wr w.heap.size 63 (.slice (some ⟨g, 0, none⟩) l.length c2) (scL p l) := hown.mono hB1S.out
      go_wp2_with fail
      refine (temposOnly_any _ (scL p l) w.heap.size w.heap.size w _ (by rw [scL_length]; exact hn) hown2 hb (Nat.le_refl _)).mono ?_
      rintro e w3 ⟨u, rfl, ho3, hb3⟩
      go_wp2
      go_ret2
      exact ⟨_, rfl, ho3, hb3⟩

end Go.Proofs.Ytjjohenpapfabaa
