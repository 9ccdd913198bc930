/- The classes of an instrument's pitches: the model's and the program's functions have one answer, in memory of their own. -/
import Derived.Test.YtbdffmacpajebaaDoorTrP
import Derived.Test.YtbdffmacpajebaaDoorInsG
import Derived.Test.YtbdffmacpajebaaDoorInsF
import Derived.Test.YtbdffmacpajebaaDoorPut
import Derived.Test.YtbdffmacpajebaaDoorRetI
import Derived.Test.YtbdffmacpajebaaDoorSrtC
namespace Go.Proofs.YtbdffmacpajebaaDoor
open Go.RowKit Go.Sort
set_option linter.unusedVariables false
set_option linter.unusedSimpArgs false

/-- All classes of an instrument's pitches. -/
def classesL (l : List Int) : List Int := clsL l l.length

set_option maxRecDepth 100000 in
set_option maxHeartbeats 2000000 in
theorem specCls_any (A : Option Addr) (l : List Int) (c : Nat) (r : Int) (w : World) (hn : l.length ≤ 1048576) (hA : RI w A l) :
    Calls Tryd.prog 33 #[.agg #[.slice A l.length c, .int .i64 r]] w fun e w' => RetI w (classesL l) (gdI l r) e w' := by
  have hb0 : Below w.heap.size w (w.alloc (.cells #[.slice A l.length c, .int .i64 r] 28)) := (Below.refl w.heap.size w).alloc (Nat.le_refl _) _
  obtain ⟨x0, x1, hz⟩ := Box.new w A l.length c r 28
  have hA := hA.below hb0
  go_enter Tryd.func33, Tryd.ntmps33
  go_wp2_with fail
  generalize w.alloc (.cells #[.slice A l.length c, .int .i64 r] 28) = W at *
  refine (inGood_any _ _ _ _ _ hn hA).mono ?_
  rintro e w1 ⟨rfl, hb1⟩
  have hB1 := hb0.trans (hb1.mono hb0.size)
  have y0 := (hb1.cell (p := ⟨w.heap.size, 0, none⟩) hz).trans x0
  have y1 := (hb1.cell (p := ⟨w.heap.size, 1, none⟩) hz).trans x1
  cases hg : gdI l r with
  | false =>
    go_wp2
    go_ret2
    rw [hg]
    exact ⟨_, rfl, by simpa using OwnI.nil w1 w.heap.size 3, hB1⟩
  | true =>
    have hgi := (gdI_iff l r).1 hg
    have hl : ∀ x ∈ l, 24 ≤ x ∧ x ≤ 96 := fun x hx => hgi.2.1.range hx
    have h20 := hgi.1.2
    have HG := Lib.hid hg
    have hA := hA.below hb1
    clear hg hgi x0 x1
    go_wp2_with fail
    go_loopw [4, 13] (fun a i wr => ∃ k : Nat, k ≤ l.length ∧ i = .int .i64 k ∧ OwnI wr w1.heap.size 3 a (clsL l k) ∧ Below w1.heap.size w1 wr)
      (fun _ i _ => l.length - (intOf i).toNat)
    case atStart => exact ⟨0, Nat.zero_le _, rfl, OwnI.nil _ _ _, Below.refl _ _⟩
    case round =>
      obtain ⟨k, hk, rfl, hown, hb⟩ := hrel
      by_cases hlt : k < l.length
      · have hx : l[k]? = some l[k] := List.getElem?_eq_getElem hlt
        generalize l[k] = x at hx
        have hs := clsL_succ l k x hx
        have hxb := hl x (List.mem_of_getElem? hx)
        obtain ⟨g, o, rfl, hgb, h0⟩ := (hA.below hb) k _ hx
        have i1 : (0 : Int) ≤ (k : Int) := by omega
        have i2 : (k : Int) < (l.length : Int) := by omega
        have htb : 0 ≤ x % 12 ∧ x % 12 < 12 := by omega
        rw [Int.tmod_eq_emod_of_nonneg (by omega)] at hs
        have HS := Lib.hid hs
        clear hs
        have hsz := clsL_length l k hk
        have hinc := Lib.hid (clsL_inc l k hk)
        have HO := Lib.hid hown
        clear hx hown
        go_wp2_with (go_at_call 54; refine (l1Put_any _ _ (x % 12) w1.heap.size _ (by omega) hb.size HO.out hinc.out).mono ?_; rintro e w3 ⟨v3, rfl, ho3, hb3⟩)
        go_roundw
        case rel =>
          refine ⟨k + 1, by omega, by go_num, ?_, hb.trans (hb3.mono hb.size)⟩
          rw [HS.out]
          exact ho3
        case measure => simp [intOf]; omega
      · obtain rfl : k = l.length := by omega
        go_wp2
        go_ret2
        rw [HG.out]
        exact ⟨_, rfl, by simpa [classesL] using hown.mono hB1.size, hB1.trans (hb.mono hB1.size)⟩

set_option maxRecDepth 100000 in
set_option maxHeartbeats 2000000 in
theorem implCls_any (A : Option Addr) (l : List Int) (c : Nat) (r : Int) (w : World) (hn : l.length ≤ 1048576) (hA : RI w A l) (hL : Lim w) :
    Calls Tryd.prog 34 #[.agg #[.slice A l.length c, .int .i64 r]] w fun e w' => RetI w (classesL l) (gdI l r) e w' := by
  have hb0 : Below w.heap.size w (w.alloc (.cells #[.slice A l.length c, .int .i64 r] 28)) := (Below.refl w.heap.size w).alloc (Nat.le_refl _) _
  obtain ⟨x0, x1, hz⟩ := Box.new w A l.length c r 28
  have hA := hA.below hb0
  have hL := hL.below hb0
  go_enter Tryd.func34, Tryd.ntmps34
  go_wp2_with fail
  generalize w.alloc (.cells #[.slice A l.length c, .int .i64 r] 28) = W at *
  refine (isIns_any _ _ _ _ _ hn hA hL).mono ?_
  rintro e w1 ⟨rfl, hb1⟩
  have hB1 := hb0.trans (hb1.mono hb0.size)
  have y0 := (hb1.cell (p := ⟨w.heap.size, 0, none⟩) hz).trans x0
  have y1 := (hb1.cell (p := ⟨w.heap.size, 1, none⟩) hz).trans x1
  cases hg : gdI l r with
  | false =>
    go_wp2
    go_ret2
    rw [hg]
    exact ⟨_, rfl, by simpa using OwnI.nil w1 w.heap.size 3, hB1⟩
  | true =>
    have hgi := (gdI_iff l r).1 hg
    have hl : ∀ x ∈ l, 24 ≤ x ∧ x ≤ 96 := fun x hx => hgi.2.1.range hx
    have h20 := hgi.1.2
    have HG := Lib.hid hg
    have hA := hA.below hb1
    clear hg hgi x0 x1
    go_wp2_with fail
    go_loopw [4, 13] (fun a i wr => ∃ k : Nat, k ≤ l.length ∧ i = .int .i64 k ∧ OwnI wr w1.heap.size 3 a (resL l k) ∧ Below w1.heap.size w1 wr)
      (fun _ i _ => l.length - (intOf i).toNat)
    case atStart => exact ⟨0, Nat.zero_le _, rfl, OwnI.nil _ _ _, Below.refl _ _⟩
    case round =>
      obtain ⟨k, hk, rfl, hown, hb⟩ := hrel
      have HO := Lib.hid hown
      clear hown
      by_cases hlt : k < l.length
      · have hx : l[k]? = some l[k] := List.getElem?_eq_getElem hlt
        generalize l[k] = x at hx
        have hs := resL_succ l k x hx
        have hxb := hl x (List.mem_of_getElem? hx)
        obtain ⟨g, o, rfl, hgb, h0⟩ := (hA.below hb) k _ hx
        have i1 : (0 : Int) ≤ (k : Int) := by omega
        have i2 : (k : Int) < (l.length : Int) := by omega
        have htb : 0 ≤ x % 12 ∧ x % 12 < 12 := by omega
        rw [Int.tmod_eq_emod_of_nonneg (by omega)] at hs
        have HS := Lib.hid hs
        clear hs
        have hsz := resL_length l k
        clear hx
        have hbr := Lib.hid (show Below wr.heap.size wr (wr.alloc (.cells #[.int .i64 (x % 12)] 3)) from (Below.refl _ _).alloc (Nat.le_refl _) _)
        have ho3 := Lib.hid (HO.out.below hbr.out (Nat.le_refl _))
        have hc3 := Lib.hid (one_new wr (x % 12))
        go_wp2_with (at_builtin; refine wpList_appI _ rfl (.tmp 17) (.tmp 20) rfl w1.heap.size _ _ rfl ho3.out (some ⟨wr.heap.size, 0, none⟩) 1 1 [x % 12] rfl rfl (fun h => by cases h) (fun j y hy => one_at hc3.out hy) (by omega) (Nat.le_trans hb.size hbr.out.size) ?_; intro v4 w4 ho4 hg4 hv4)
        go_roundw
        case rel =>
          refine ⟨k + 1, by omega, by go_num, ?_, (hb.trans (hbr.out.mono hb.size)).grown hg4 (Nat.le_trans hb.size hbr.out.size) (fun j hj => (ho3.out.lt j hj).1)⟩
          rw [HS.out]
          exact ho4
        case measure => simp [intOf]; omega
      · obtain rfl : k = l.length := by omega
        have hsz := resL_length l l.length
        go_wp2_with (first
          | (go_at_call 55; refine (sortI_any _ _ w1.heap.size _ (by omega) HO.out).mono ?_; rintro e w3 ⟨rfl, ho3, hg3⟩)
          | (go_at_call 56; refine (compactI_any _ _ w1.heap.size _ (by rw [List.length_mergeSort]; omega) ho3).mono ?_; rintro e w4 ⟨v4, rfl, ho4, hg4⟩))
        go_ret2
        rw [compact_res] at ho4
        rw [HG.out]
        have hb3 := hb.grown hg3 hb.size (fun j hj => (HO.out.lt j hj).1)
        have hb4 := hb3.grown hg4 hb3.size (fun j hj => (ho3.lt j hj).1)
        exact ⟨_, rfl, by simpa [classesL] using ho4.mono hB1.size, hB1.trans (hb4.mono hB1.size)⟩
end Go.Proofs.YtbdffmacpajebaaDoor
