/- TransposeLoss and LossTable: the model's and the program's functions have one answer. -/
import Derived.Test.YtbdffmacpajebaaDoorLost
import Derived.Test.YtbdffmacpajebaaDoorIsScore
import Derived.Test.YtbdffmacpajebaaDoorPut
import Derived.Test.YtbdffmacpajebaaDoorRetI
namespace Go.Proofs.YtbdffmacpajebaaDoor
open Go.RowKit Go.Sort
set_option linter.unusedVariables false
set_option linter.unusedSimpArgs false

/-- The answer of TransposeLoss. -/
def lossR (l : List Int) (r : Int) (m : List Nt) (b : Int) : Array Value := if ((gdI l r && goodB m) && inR b (-24) 24) = true then #[.int .i64 (lossI l m b), .bool true] else #[.int .i64 0, .bool false]
theorem lossR_form (l : List Int) (r : Int) (m : List Nt) (b : Int) : ∃ x y, lossR l r m b = #[.int .i64 x, .bool y] := by unfold lossR; split <;> exact ⟨_, _, rfl⟩

theorem trBy_any (b : Int) (w : World) :
    Calls Tryd.prog 42 #[.int .i64 b] w fun e w' => e = .returned (.bool (inR b (-24) 24)) ∧ w = w' := by
  go_enter Tryd.func42, Tryd.ntmps42
  go_wp2_with (go_at_call 57; refine (l1In_any _ _ _ _).mono ?_; rintro e w2 ⟨rfl, rfl⟩)
  go_ret
  exact ⟨rfl, rfl⟩

set_option maxRecDepth 100000 in
set_option maxHeartbeats 2000000 in
theorem specLoss_any (A : Option Addr) (l : List Int) (c : Nat) (r : Int) (M : Option Addr) (m : List Nt) (d : Nat) (b : Int) (w : World) (hn : l.length ≤ 1048576) (hA : RI w A l) (hm : m.length ≤ 1048576) (hd : m.length ≤ d) (hd' : d ≤ 9223372036854775807) (hM : RA w M m) :
    Calls Tryd.prog 18 #[.agg #[.slice A l.length c, .int .i64 r], .slice M m.length d, .int .i64 b] w fun e w' => e = .returned (.tuple (lossR l r m b)) ∧ Below w.heap.size w w' := by
  have hb0 : Below w.heap.size w (w.alloc (.cells #[.slice A l.length c, .int .i64 r] 28)) := (Below.refl w.heap.size w).alloc (Nat.le_refl _) _
  obtain ⟨x0, x1, hz⟩ := Box.new w A l.length c r 28
  have hA := hA.below hb0
  have hM := hM.below hb0
  go_enter Tryd.func18, Tryd.ntmps18
  go_wp2_with fail
  generalize w.alloc (.cells #[.slice A l.length c, .int .i64 r] 28) = W at *
  refine (inAsked_any _ _ _ _ _ _ _ _ hn hA hm hd hd' hM).mono ?_
  rintro e w1 ⟨rfl, hb1⟩
  have hB1 := hb0.trans (hb1.mono hb0.size)
  have y0 := (hb1.cell (p := ⟨w.heap.size, 0, none⟩) hz).trans x0
  have y1 := (hb1.cell (p := ⟨w.heap.size, 1, none⟩) hz).trans x1
  cases hg : (gdI l r && goodB m) with
  | false =>
    have HR := Lib.hid (show lossR l r m b = #[.int .i64 0, .bool false] by unfold lossR; rw [hg]; rfl)
    go_wp2
    go_ret2
    exact ⟨(by first | (rw [HR.out]; done) | (rw [HR.out]; rfl)), hB1⟩
  | true =>
    have hgood : Good m := (goodB_iff m).1 (by simp at hg; exact hg.2)
    cases hr : inR b (-24) 24 with
    | false =>
      have HR := Lib.hid (show lossR l r m b = #[.int .i64 0, .bool false] by unfold lossR; rw [hg, hr]; rfl)
      have HB := Lib.hid hr
      clear hg hr
      go_wp2_with (go_at_call 42; refine (trBy_any _ _).mono ?_; rw [HB.out]; rintro e w2 ⟨rfl, rfl⟩)
      go_ret2
      exact ⟨(by first | (rw [HR.out]; done) | (rw [HR.out]; rfl)), hB1⟩
    | true =>
      have hbd : -24 ≤ b ∧ b ≤ 24 := by simpa [inR] using hr
      have HR := Lib.hid (show lossR l r m b = #[.int .i64 (lossI l m b), .bool true] by unfold lossR; rw [hg, hr]; rfl)
      have HB := Lib.hid hr
      clear hg hr
      go_wp2_with (first
        | (go_at_call 42; refine (trBy_any _ _).mono ?_; rw [HB.out]; rintro e w2 ⟨rfl, rfl⟩)
        | (go_at_call 43; refine (trLoss_any _ _ _ _ _ _ _ _ _ hn (hA.below hb1) (hM.below hb1) hgood (by omega) (by omega)).mono ?_; rintro e w3 ⟨rfl, hb3⟩))
      go_ret2
      exact ⟨(by first | (rw [HR.out]; done) | (rw [HR.out]; rfl)), hB1.trans (hb3.mono hB1.size)⟩

set_option maxRecDepth 100000 in
set_option maxHeartbeats 2000000 in
theorem implLoss_any (A : Option Addr) (l : List Int) (c : Nat) (r : Int) (M : Option Addr) (m : List Nt) (d : Nat) (b : Int) (w : World) (hn : l.length ≤ 1048576) (hA : RI w A l) (hm : m.length ≤ 1048576) (hM : RA w M m) (hL : Lim w) :
    Calls Tryd.prog 20 #[.agg #[.slice A l.length c, .int .i64 r], .slice M m.length d, .int .i64 b] w fun e w' => e = .returned (.tuple (lossR l r m b)) ∧ Below w.heap.size w w' := by
  have hb0 : Below w.heap.size w (w.alloc (.cells #[.slice A l.length c, .int .i64 r] 28)) := (Below.refl w.heap.size w).alloc (Nat.le_refl _) _
  obtain ⟨x0, x1, hz⟩ := Box.new w A l.length c r 28
  have hA := hA.below hb0
  have hM := hM.below hb0
  have hL := hL.below hb0
  go_enter Tryd.func20, Tryd.ntmps20
  go_wp2_with fail
  generalize w.alloc (.cells #[.slice A l.length c, .int .i64 r] 28) = W at *
  refine (isIns_any _ _ _ _ _ hn hA hL).mono ?_
  rintro e w1 ⟨rfl, hb1⟩
  have hB1 := hb0.trans (hb1.mono hb0.size)
  cases hg : gdI l r with
  | false =>
    have HR := Lib.hid (show lossR l r m b = #[.int .i64 0, .bool false] by unfold lossR; rw [hg]; rfl)
    go_wp2
    go_ret2
    exact ⟨(by first | (rw [HR.out]; done) | (rw [HR.out]; rfl)), hB1⟩
  | true =>
    have HG := Lib.hid hg
    clear hg
    go_wp2_with fail
    refine (isScore_any _ _ _ _ hm (hM.below hb1)).mono ?_
    rintro e w2 ⟨rfl, hb2⟩
    have hb12 := hb1.trans (hb2.mono hb1.size)
    have hB2 := hB1.trans (hb2.mono hB1.size)
    cases hgb : goodB m with
    | false =>
      have HR := Lib.hid (show lossR l r m b = #[.int .i64 0, .bool false] by unfold lossR; rw [HG.out, hgb]; rfl)
      go_wp2
      go_ret2
      exact ⟨(by first | (rw [HR.out]; done) | (rw [HR.out]; rfl)), hB2⟩
    | true =>
      have hgood := (goodB_iff m).1 hgb
      have y0 := (hb12.cell (p := ⟨w.heap.size, 0, none⟩) hz).trans x0
      have y1 := (hb12.cell (p := ⟨w.heap.size, 1, none⟩) hz).trans x1
      cases hr : inR b (-24) 24 with
      | false =>
        have HR := Lib.hid (show lossR l r m b = #[.int .i64 0, .bool false] by unfold lossR; rw [hr, Bool.and_false]; rfl)
        have HB := Lib.hid hr
        clear hgb hr
        go_wp2_with (go_at_call 47; refine (inRange_any _ _ _ _).mono ?_; rw [HB.out]; rintro e w3 ⟨rfl, rfl⟩)
        go_ret2
        exact ⟨(by first | (rw [HR.out]; done) | (rw [HR.out]; rfl)), hB2⟩
      | true =>
        have hbd : -24 ≤ b ∧ b ≤ 24 := by simpa [inR] using hr
        have HR := Lib.hid (show lossR l r m b = #[.int .i64 (lossI l m b), .bool true] by unfold lossR; rw [HG.out, hgb, hr]; rfl)
        have HB := Lib.hid hr
        have hT := Lib.hid (trueN_loss l m b hgood.2)
        clear hgb hr
        go_wp2_with (first
          | (go_at_call 47; refine (inRange_any _ _ _ _).mono ?_; rw [HB.out]; rintro e w3 ⟨rfl, rfl⟩)
          | (go_at_call 49; refine (lostWith_any _ _ _ _ _ _ _ _ _ hn (hA.below hb12) (hM.below hb12) hgood (by omega) (by omega)).mono ?_; rintro e w4 ⟨rfl, hb4⟩)
          | (go_at_call 48; refine (countLost_any _ _).mono ?_; rw [hT.out]; rintro e w5 ⟨rfl, hb5⟩))
        go_ret2
        exact ⟨(by first | (rw [HR.out]; done) | (rw [HR.out]; rfl)), (hB2.trans (hb4.mono hB2.size)).trans (hb5.mono (Nat.le_trans hB2.size hb4.size))⟩

set_option maxRecDepth 100000 in
set_option maxHeartbeats 2000000 in
theorem specTab_any (A : Option Addr) (l : List Int) (c : Nat) (r : Int) (M : Option Addr) (m : List Nt) (d : Nat) (w : World) (hn : l.length ≤ 1048576) (hA : RI w A l) (hm : m.length ≤ 1048576) (hd : m.length ≤ d) (hd' : d ≤ 9223372036854775807) (hM : RA w M m) :
    Calls Tryd.prog 22 #[.agg #[.slice A l.length c, .int .i64 r], .slice M m.length d] w fun e w' => RetI w (tabL l m 49) (gdI l r && goodB m) e w' := by
  have hb0 : Below w.heap.size w (w.alloc (.cells #[.slice A l.length c, .int .i64 r] 28)) := (Below.refl w.heap.size w).alloc (Nat.le_refl _) _
  obtain ⟨x0, x1, hz⟩ := Box.new w A l.length c r 28
  have hA := hA.below hb0
  have hM := hM.below hb0
  go_enter Tryd.func22, Tryd.ntmps22
  go_wp2_with fail
  generalize w.alloc (.cells #[.slice A l.length c, .int .i64 r] 28) = W at *
  refine (inAsked_any _ _ _ _ _ _ _ _ hn hA hm hd hd' hM).mono ?_
  rintro e w1 ⟨rfl, hb1⟩
  have hB1 := hb0.trans (hb1.mono hb0.size)
  have y0 := (hb1.cell (p := ⟨w.heap.size, 0, none⟩) hz).trans x0
  have y1 := (hb1.cell (p := ⟨w.heap.size, 1, none⟩) hz).trans x1
  have hz1 := Nat.lt_of_lt_of_le hz hb1.size
  cases hg : (gdI l r && goodB m) with
  | false =>
    go_wp2
    go_ret2
    rw [hg]
    exact ⟨_, rfl, by simpa using OwnI.nil w1 w.heap.size 3, hB1⟩
  | true =>
    have hgood : Good m := (goodB_iff m).1 (by simp at hg; exact hg.2)
    have HG := Lib.hid hg
    have hA := hA.below hb1
    have hM := hM.below hb1
    clear hg x0 x1
    go_wp2_with fail
    go_loopw [6, 7] (fun a i wr => ∃ (k : Nat) (b : Int), Hid ((k : Int) - 24 = b) ∧ k ≤ 49 ∧ -24 ≤ b ∧ b ≤ 25 ∧ i = .int .i64 b ∧ OwnI wr w1.heap.size 3 a (tabL l m k) ∧ Below w1.heap.size w1 wr)
      (fun _ i _ => (25 - intOf i).toNat)
    case atStart => exact ⟨0, -24, Lib.hid rfl, by omega, by omega, by omega, rfl, OwnI.nil _ _ _, Below.refl _ _⟩
    case round =>
      obtain ⟨k, b, HK, hk, hb24, hb25, rfl, hown, hb⟩ := hrel
      have HO := Lib.hid hown
      clear hown
      by_cases hlt : b ≤ 24
      · have HS := Lib.hid (tabL_succ l m k b HK.out)
        have hlen := tabL_length l m k
        have hk1 : k + 1 ≤ 49 := by have := HK.out; omega
        have v0 := (hb.cell (p := ⟨w.heap.size, 0, none⟩) hz1).trans y0
        have v1 := (hb.cell (p := ⟨w.heap.size, 1, none⟩) hz1).trans y1
        have HT := Lib.hid (trLoss_any A l c r M m d b wr hn (hA.below hb) (hM.below hb) hgood (by omega) (by omega))
        clear y0 y1
        generalize lossI l m b = q at *
        go_wp2_with (first
          | (go_at_call 43; refine HT.out.mono ?_; rintro e w2 ⟨rfl, hb2⟩; have hbr := Lib.hid (show Below wr.heap.size wr (w2.alloc (.cells #[.int .i64 q] 3)) from hb2.alloc hb2.size _); have ho3 := Lib.hid (HO.out.below hbr.out (Nat.le_refl _)); have hc3 := Lib.hid (one_new w2 q))
          | (at_builtin; refine wpList_appI _ rfl (.tmp 16) (.tmp 21) rfl w1.heap.size _ _ rfl ho3.out (some ⟨w2.heap.size, 0, none⟩) 1 1 [q] rfl rfl (fun h => by cases h) (fun j y hy => one_at hc3.out hy) (by omega) (Nat.le_trans hb.size hbr.out.size) ?_; intro v4 w4 ho4 hg4 hv4))
        go_roundw
        case rel =>
          refine ⟨k + 1, b + 1, Lib.hid (by have := HK.out; omega), hk1, by omega, by omega, by go_num, ?_, (hb.trans (hbr.out.mono hb.size)).grown hg4 (Nat.le_trans hb.size hbr.out.size) (fun j hj => (ho3.out.lt j hj).1)⟩
          rw [HS.out]
          exact ho4
        case measure => simp [intOf]; omega
      · obtain rfl : b = 25 := by omega
        obtain rfl : k = 49 := by have := HK.out; omega
        go_wp2
        go_ret2
        rw [HG.out]
        exact ⟨_, rfl, by simpa using HO.out.mono hB1.size, hB1.trans (hb.mono hB1.size)⟩

set_option maxRecDepth 100000 in
set_option maxHeartbeats 2000000 in
theorem implTab_any (A : Option Addr) (l : List Int) (c : Nat) (r : Int) (M : Option Addr) (m : List Nt) (d : Nat) (w : World) (hn : l.length ≤ 1048576) (hA : RI w A l) (hm : m.length ≤ 1048576) (hM : RA w M m) (hL : Lim w) :
    Calls Tryd.prog 23 #[.agg #[.slice A l.length c, .int .i64 r], .slice M m.length d] w fun e w' => RetI w (tabL l m 49) (gdI l r && goodB m) e w' := by
  have hb0 : Below w.heap.size w (w.alloc (.cells #[.slice A l.length c, .int .i64 r] 28)) := (Below.refl w.heap.size w).alloc (Nat.le_refl _) _
  obtain ⟨x0, x1, hz⟩ := Box.new w A l.length c r 28
  have hA := hA.below hb0
  have hM := hM.below hb0
  have hL := hL.below hb0
  go_enter Tryd.func23, Tryd.ntmps23
  go_wp2_with fail
  generalize w.alloc (.cells #[.slice A l.length c, .int .i64 r] 28) = W at *
  refine (isIns_any _ _ _ _ _ hn hA hL).mono ?_
  rintro e w1 ⟨rfl, hb1⟩
  have hB1 := hb0.trans (hb1.mono hb0.size)
  cases hg : gdI l r with
  | false =>
    go_wp2
    go_ret2
    rw [hg, Bool.false_and]
    exact ⟨_, rfl, by simpa using OwnI.nil w1 w.heap.size 3, hB1⟩
  | true =>
    have HG := Lib.hid hg
    clear hg
    go_wp2_with fail
    refine (isScore_any _ _ _ _ hm (hM.below hb1)).mono ?_
    rintro e w2 ⟨rfl, hb2⟩
    have hb12 := hb1.trans (hb2.mono hb1.size)
    have hB2 := hB1.trans (hb2.mono hB1.size)
    cases hgb : goodB m with
    | false =>
      have HB := Lib.hid hgb
      go_wp2
      go_ret2
      rw [HG.out, HB.out, Bool.and_false]
      exact ⟨_, rfl, by simpa using OwnI.nil w2 w.heap.size 3, hB2⟩
    | true =>
      have hgood := (goodB_iff m).1 hgb
      have h30 := hgood.2
      have HB := Lib.hid hgb
      clear hgb
      have y0 := (hb12.cell (p := ⟨w.heap.size, 0, none⟩) hz).trans x0
      have y1 := (hb12.cell (p := ⟨w.heap.size, 1, none⟩) hz).trans x1
      have hz1 := Nat.lt_of_lt_of_le hz hb12.size
      have hA := hA.below hb12
      have hM := hM.below hb12
      clear hb1 hb2 hb12 hL x0 x1
      go_wp2_with fail
      go_loopw [6, 7] (fun a i wr => ∃ (k : Nat) (b : Int), Hid ((k : Int) - 24 = b) ∧ k ≤ 49 ∧ -24 ≤ b ∧ b ≤ 25 ∧ i = .int .i64 b ∧ OwnI wr w2.heap.size 3 a (tabL l m k) ∧ Below w2.heap.size w2 wr)
        (fun _ i _ => (25 - intOf i).toNat)
      case atStart => exact ⟨0, -24, Lib.hid rfl, by omega, by omega, by omega, rfl, OwnI.nil _ _ _, Below.refl _ _⟩
      case round =>
        obtain ⟨k, b, HK, hk, hb24, hb25, rfl, hown, hb⟩ := hrel
        have HO := Lib.hid hown
        clear hown
        by_cases hlt : b ≤ 24
        · have HS := Lib.hid (tabL_succ l m k b HK.out)
          have hlen := tabL_length l m k
          have hk1 : k + 1 ≤ 49 := by have := HK.out; omega
          have v0 := (hb.cell (p := ⟨w.heap.size, 0, none⟩) hz1).trans y0
          have v1 := (hb.cell (p := ⟨w.heap.size, 1, none⟩) hz1).trans y1
          have HT := Lib.hid (lostWith_any A l c r M m d b wr hn (hA.below hb) (hM.below hb) hgood (by omega) (by omega))
          have HC := Lib.hid (fun W => countLost_any (lostL l m b) W)
          rw [trueN_loss l m b h30] at HC
          clear y0 y1
          generalize lossI l m b = q at *
          go_wp2_with (first
            | (go_at_call 49; refine HT.out.mono ?_; rintro e w3 ⟨rfl, hb3⟩)
            | (go_at_call 48; refine (HC.out _).mono ?_; rintro e w5 ⟨rfl, hb5⟩; have hb35 := hb3.trans (hb5.mono hb3.size); have hbr := Lib.hid (show Below wr.heap.size wr (w5.alloc (.cells #[.int .i64 q] 3)) from hb35.alloc hb35.size _); have ho3 := Lib.hid (HO.out.below hbr.out (Nat.le_refl _)); have hc3 := Lib.hid (one_new w5 q))
            | (at_builtin; refine wpList_appI _ rfl (.tmp 20) (.tmp 26) rfl w2.heap.size _ _ rfl ho3.out (some ⟨w5.heap.size, 0, none⟩) 1 1 [q] rfl rfl (fun h => by cases h) (fun j y hy => one_at hc3.out hy) (by omega) (Nat.le_trans hb.size hbr.out.size) ?_; intro v4 w4 ho4 hg4 hv4))
          go_roundw
          case rel =>
            refine ⟨k + 1, b + 1, Lib.hid (by have := HK.out; omega), hk1, by omega, by omega, by go_num, ?_, (hb.trans (hbr.out.mono hb.size)).grown hg4 (Nat.le_trans hb.size hbr.out.size) (fun j hj => (ho3.out.lt j hj).1)⟩
            rw [HS.out]
            exact ho4
          case measure => simp [intOf]; omega
        · obtain rfl : b = 25 := by omega
          obtain rfl : k = 49 := by have := HK.out; omega
          go_wp2
          go_ret2
          rw [HG.out, HB.out, Bool.and_true]
          exact ⟨_, rfl, by simpa using HO.out.mono hB2.size, hB2.trans (hb.mono hB2.size)⟩
end Go.Proofs.YtbdffmacpajebaaDoor
