/- The end and the range of a score: the model's and the program's functions have one answer. -/
import Derived.Test.YtkgnkdebognneaaNtGood
import Derived.Test.YtkgnkdebognneaaIsScore
namespace Go.Proofs.Ytkgnkdebognneaa
open Go.RowKit Go.Sort
set_option linter.unusedVariables false

def mx (a b : Int) : Int := if a < b then b else a
def mn (a b : Int) : Int := if b < a then b else a
def endOf (l : List Nt) : Int := l.foldl (fun a x => mx a (x.2.1 + x.2.2)) 0
def lowOf (a : Int) (l : List Nt) : Int := l.foldl (fun a x => mn a x.1) a
def highOf (a : Int) (l : List Nt) : Int := l.foldl (fun a x => mx a x.1) a
def endR (l : List Nt) : Array Value := if goodB l = true then #[.int .i64 (endOf l), .bool true] else #[.int .i64 0, .bool false]
theorem endR_form (l : List Nt) : ∃ a b, endR l = #[.int .i64 a, .bool b] := by unfold endR; split <;> exact ⟨_, _, rfl⟩
theorem endOf_snoc (l : List Nt) (k : Nat) (x : Nt) (h : l[k]? = some x) : endOf (l.take (k + 1)) = mx (endOf (l.take k)) (x.2.1 + x.2.2) := by
  unfold endOf; rw [List.take_add_one, h, Option.toList_some, List.foldl_append]; rfl
theorem lowOf_snoc (a : Int) (l : List Nt) (k : Nat) (x : Nt) (h : l[k]? = some x) : lowOf a (l.take (k + 1)) = mn (lowOf a (l.take k)) x.1 := by
  unfold lowOf; rw [List.take_add_one, h, Option.toList_some, List.foldl_append]; rfl
theorem highOf_snoc (a : Int) (l : List Nt) (k : Nat) (x : Nt) (h : l[k]? = some x) : highOf a (l.take (k + 1)) = mx (highOf a (l.take k)) x.1 := by
  unfold highOf; rw [List.take_add_one, h, Option.toList_some, List.foldl_append]; rfl

set_option maxHeartbeats 400000 in
theorem l1Most_any (a b : Int) (w : World) :
    Calls Try.prog 59 #[.int .i64 a, .int .i64 b] w fun e w' => e = .returned (.int .i64 (mx a b)) ∧ w = w' := by
  by_cases h : a < b
  all_goals by_cases h' : b < a
  all_goals
    go_enter Try.func59, Try.ntmps59
    go_wp2
    all_goals (go_ret; exact ⟨ret_int (by unfold mx; split <;> omega), rfl⟩)

set_option maxHeartbeats 400000 in
theorem l1Least_any (a b : Int) (w : World) :
    Calls Try.prog 58 #[.int .i64 a, .int .i64 b] w fun e w' => e = .returned (.int .i64 (mn a b)) ∧ w = w' := by
  by_cases h : a < b
  all_goals by_cases h' : b < a
  all_goals
    go_enter Try.func58, Try.ntmps58
    go_wp2
    all_goals (go_ret; exact ⟨ret_int (by unfold mn; split <;> omega), rfl⟩)

set_option maxRecDepth 100000 in
set_option maxHeartbeats 1000000 in
theorem ntEnd_any (A : Option Addr) (l : List Nt) (c : Nat) (w : World) (hn : l.length ≤ 1048576) (hA : RA w A l) (hg : Good l) :
    Calls Try.prog 57 #[.slice A l.length c] w fun e w' => e = .returned (.int .i64 (endOf l)) ∧ Below w.heap.size w w' := by
  go_enter Try.func57, Try.ntmps57
  go_wp2
  go_loopw [3, 8] (fun a i wr => ∃ k : Nat, k ≤ l.length ∧ i = .int .i64 k ∧ a = .int .i64 (endOf (l.take k)) ∧ Below w.heap.size w wr)
    (fun _ i _ => l.length - (intOf i).toNat)
  case atStart => exact ⟨0, Nat.zero_le _, rfl, rfl, Below.refl _ _⟩
  case round =>
    obtain ⟨k, hk, rfl, rfl, hb⟩ := hrel
    by_cases hlt : k < l.length
    · have hx : l[k]? = some l[k] := List.getElem?_eq_getElem hlt
      generalize l[k] = x at hx
      have hs := endOf_snoc l k x hx
      have hv := (noteN_iff x).1 (hg.1 k x hlt hx).1
      obtain ⟨p, s, n⟩ := x
      simp only at hs hv
      obtain ⟨g, o, rfl, hgb, h0, h1, h2⟩ := (hA.below hb) k _ hx
      simp only at h0 h1 h2
      have i1 : (0 : Int) ≤ (k : Int) := by omega
      have i2 : (k : Int) < (l.length : Int) := by omega
      have HS := Lib.hid hs
      clear hs hx
      go_wp2_with fail
      refine (l1Most_any _ _ _).mono ?_
      rintro e w1 ⟨rfl, rfl⟩
      go_wp2
      go_roundw
      case rel => exact ⟨k + 1, by omega, by go_num, by rw [HS.out], hb.alloc hb.size _⟩
      case measure => simp [intOf]; omega
    · obtain rfl : k = l.length := by omega
      go_wp2
      go_ret
      exact ⟨ret_int (by rw [List.take_length]), hb⟩

set_option maxRecDepth 100000 in
set_option maxHeartbeats 1000000 in
theorem implEnd_any (A : Option Addr) (l : List Nt) (c : Nat) (w : World) (hn : l.length ≤ 1048576) (hA : RA w A l) :
    Calls Try.prog 36 #[.slice A l.length c] w fun e w' => e = .returned (.tuple (endR l)) ∧ Below w.heap.size w w' := by
  cases hgb : goodB l with
  | false =>
    rw [show endR l = #[.int .i64 0, .bool false] from by simp [endR, hgb]]
    go_enter Try.func36, Try.ntmps36
    go_wp2_with fail
    refine (isScore_any _ _ _ _ hn hA).mono ?_
    rintro e w1 ⟨rfl, hb1⟩
    go_wp2
    go_ret2
    exact ⟨rfl, hb1⟩
  | true =>
    have hg := (goodB_iff l).1 hgb
    rw [show endR l = #[.int .i64 (endOf l), .bool true] from by simp [endR, hgb]]
    go_enter Try.func36, Try.ntmps36
    go_wp2_with fail
    refine (isScore_any _ _ _ _ hn hA).mono ?_
    rintro e w1 ⟨rfl, hb1⟩
    go_wp2
    have hA1 := hA.below hb1
    clear hgb
    go_loopw [4, 12] (fun a i wr => ∃ k : Nat, k ≤ l.length ∧ i = .int .i64 k ∧ a = .int .i64 (endOf (l.take k)) ∧ Below w1.heap.size w1 wr)
      (fun _ i _ => l.length - (intOf i).toNat)
    case atStart => exact ⟨0, Nat.zero_le _, rfl, rfl, Below.refl _ _⟩
    case round =>
      obtain ⟨k, hk, rfl, rfl, hb⟩ := hrel
      by_cases hlt : k < l.length
      · have hx : l[k]? = some l[k] := List.getElem?_eq_getElem hlt
        generalize l[k] = x at hx
        have hs := endOf_snoc l k x hx
        have hv := (noteN_iff x).1 (hg.1 k x hlt hx).1
        obtain ⟨p, s, n⟩ := x
        simp only at hs hv
        obtain ⟨g, o, rfl, hgb, h0, h1, h2⟩ := (hA1.below hb) k _ hx
        simp only at h0 h1 h2
        have i1 : (0 : Int) ≤ (k : Int) := by omega
        have i2 : (k : Int) < (l.length : Int) := by omega
        have HS := Lib.hid hs
        clear hs hx
        go_wp2_with fail
        refine (endOfNote_any _ _ _ _ (by omega) (by omega) (by omega) (by omega)).mono ?_
        rintro e w2 ⟨rfl, hb2⟩
        go_wp2
        go_roundw
        case rel =>
          refine ⟨k + 1, by omega, by go_num, ?_, hb.trans (((Below.refl _ _).alloc hb.size _).trans (hb2.mono (by simp; have := hb.size; omega)))⟩
          rw [HS.out]
          rfl
        case measure => simp [intOf]; omega
      · obtain rfl : k = l.length := by omega
        go_wp2
        go_ret2
        exact ⟨by simp only [List.take_length] ; rfl, hb1.trans (hb.mono hb1.size)⟩

set_option maxRecDepth 100000 in
set_option maxHeartbeats 1000000 in
theorem specEnd_any (A : Option Addr) (l : List Nt) (c : Nat) (w : World) (hn : l.length ≤ 1048576) (hc : l.length ≤ c) (hc' : c ≤ 9223372036854775807) (hA : RA w A l) :
    Calls Try.prog 35 #[.slice A l.length c] w fun e w' => e = .returned (.tuple (endR l)) ∧ Below w.heap.size w w' := by
  cases hgb : goodB l with
  | false =>
    rw [show endR l = #[.int .i64 0, .bool false] from by simp [endR, hgb]]
    go_enter Try.func35, Try.ntmps35
    go_wp2_with fail
    refine (ntGood_any _ _ _ _ hn hc hc' hA).mono ?_
    rintro e w1 ⟨rfl, hb1⟩
    go_wp2
    go_ret2
    exact ⟨rfl, hb1⟩
  | true =>
    have hg := (goodB_iff l).1 hgb
    rw [show endR l = #[.int .i64 (endOf l), .bool true] from by simp [endR, hgb]]
    go_enter Try.func35, Try.ntmps35
    go_wp2_with fail
    refine (ntGood_any _ _ _ _ hn hc hc' hA).mono ?_
    rintro e w1 ⟨rfl, hb1⟩
    go_wp2_with fail
    refine (ntEnd_any _ _ _ _ hn (hA.below hb1) hg).mono ?_
    rintro e w2 ⟨rfl, hb2⟩
    go_wp2
    go_ret2
    exact ⟨rfl, hb1.trans (hb2.mono hb1.size)⟩

set_option maxHeartbeats 400000 in
theorem specIsScore_any (A : Option Addr) (l : List Nt) (c : Nat) (w : World) (hn : l.length ≤ 1048576) (hc : l.length ≤ c) (hc' : c ≤ 9223372036854775807) (hA : RA w A l) :
    Calls Try.prog 16 #[.slice A l.length c] w fun e w' => e = .returned (.bool (goodB l)) ∧ Below w.heap.size w w' := by
  go_enter Try.func16, Try.ntmps16
  go_wp2_with fail
  refine (ntGood_any _ _ _ _ hn hc hc' hA).mono ?_
  rintro e w1 ⟨rfl, hb1⟩
  go_wp2
  go_ret
  exact ⟨rfl, hb1⟩

def rangeR (l : List Nt) : Array Value := if goodB l = true ∧ 0 < l.length then #[.int .i64 (lowOf (l[0]?.getD (0, 0, 0)).1 l), .int .i64 (highOf (l[0]?.getD (0, 0, 0)).1 l), .bool true] else #[.int .i64 0, .int .i64 0, .bool false]

set_option maxRecDepth 100000 in
set_option maxHeartbeats 2000000 in
theorem implRange_any (A : Option Addr) (l : List Nt) (c : Nat) (w : World) (hn : l.length ≤ 1048576) (hc : l.length ≤ c) (hc' : c ≤ 9223372036854775807) (hA : RA w A l) :
    Calls Try.prog 38 #[.slice A l.length c] w fun e w' => e = .returned (.tuple (rangeR l)) ∧ Below w.heap.size w w' := by
  cases hgb : goodB l with
  | false =>
    have hr : rangeR l = #[.int .i64 0, .int .i64 0, .bool false] := by simp [rangeR, hgb]
    rw [hr]
    go_enter Try.func38, Try.ntmps38
    go_wp2_with fail
    refine (isScore_any _ _ _ _ hn hA).mono ?_
    rintro e w1 ⟨rfl, hb1⟩
    go_wp2
    go_ret3
    exact ⟨rfl, hb1⟩
  | true =>
    have hg := (goodB_iff l).1 hgb
    by_cases hl0 : l.length = 0
    · have hr : rangeR l = #[.int .i64 0, .int .i64 0, .bool false] := by simp [rangeR, hl0]
      rw [hr]
      have he : ((l.length : Int) == 0) = true := by simp [hl0]
      have HL := Lib.hid hl0
      clear hl0 hr
      go_enter Try.func38, Try.ntmps38
      go_wp2_with fail
      refine (isScore_any _ _ _ _ hn hA).mono ?_
      rintro e w1 ⟨rfl, hb1⟩
      go_wp2
      go_ret3
      exact ⟨rfl, hb1⟩
    · have hl1 : 0 < l.length := by omega
      have hz : l[0]? = some l[0] := List.getElem?_eq_getElem hl1
      have hr : rangeR l = #[.int .i64 (lowOf l[0].1 l), .int .i64 (highOf l[0].1 l), .bool true] := by simp [rangeR, hgb, hl1]
      rw [hr]
      generalize l[0] = x0 at hz
      obtain ⟨p0, s0, n0⟩ := x0
      simp only
      have he : ((l.length : Int) == 0) = false := by rw [beq_eq_false_iff_ne]; omega
      go_enter Try.func38, Try.ntmps38
      go_wp2_with fail
      refine (isScore_any _ _ _ _ hn hA).mono ?_
      rintro e w1 ⟨rfl, hb1⟩
      have hA1 := hA.below hb1
      obtain ⟨g, o, rfl, hgb0, z0, z1, z2⟩ := hA1 0 _ hz
      simp only [Nat.zero_mul, Nat.add_zero] at z0 z1 z2
      have HR := Lib.hid hr
      have HZ := Lib.hid hz
      clear hr hz hl0
      go_wp2_with fail
      go_quiet (fail)
      clear z0 z1 z2
      have hA2 : RA (w1.drewN nq) (some ⟨g, o, none⟩) l := hA1
      have hb2 : Below w.heap.size w (w1.drewN nq) := ⟨hb1.os, hb1.tape, hb1.output, hb1.size, hb1.block⟩
      generalize w1.drewN nq = W at *
      have HGB := Lib.hid hgb
      clear hgb
      go_wp2_with fail
      go_loopw [5, 6, 27] (fun a b i wr => ∃ k : Nat, k ≤ l.length ∧ i = .int .i64 k ∧ a = .int .i64 (lowOf p0 (l.take k)) ∧ b = .int .i64 (highOf p0 (l.take k)) ∧ Below W.heap.size W wr)
        (fun _ _ i _ => l.length - (intOf i).toNat)
      case atStart => exact ⟨0, Nat.zero_le _, rfl, rfl, rfl, Below.refl _ _⟩
      case round =>
        obtain ⟨k, hk, rfl, rfl, rfl, hb⟩ := hrel
        by_cases hlt : k < l.length
        · have hx : l[k]? = some l[k] := List.getElem?_eq_getElem hlt
          generalize l[k] = x at hx
          have hs1 := lowOf_snoc p0 l k x hx
          have hs2 := highOf_snoc p0 l k x hx
          obtain ⟨p, s, n⟩ := x
          simp only at hs1 hs2
          obtain ⟨g', o', hgo, hg', h0, h1, h2⟩ := (hA2.below hb) k _ hx
          simp only [Option.some.injEq, Addr.mk.injEq, and_true] at hgo
          obtain ⟨rfl, rfl⟩ := hgo
          simp only at h0 h1 h2
          have i1 : (0 : Int) ≤ (k : Int) := by omega
          have i2 : (k : Int) < (l.length : Int) := by omega
          have HS1 := Lib.hid hs1
          have HS2 := Lib.hid hs2
          clear hs1 hs2 hx
          go_wp2
          go_roundw
          case rel =>
            refine ⟨k + 1, by omega, by go_num, ?_, ?_, hb.alloc hb.size _⟩
            · exact congrArg (Value.int .i64) HS1.out.symm
            · exact congrArg (Value.int .i64) HS2.out.symm
          case measure => simp [intOf]; omega
        · obtain rfl : k = l.length := by omega
          go_wp2
          go_ret3
          exact ⟨by simp only [List.take_length] ; rfl, hb2.trans (hb.mono hb2.size)⟩

set_option maxRecDepth 100000 in
set_option maxHeartbeats 2000000 in
theorem specRange_any (A : Option Addr) (l : List Nt) (c : Nat) (w : World) (hn : l.length ≤ 1048576) (hc : l.length ≤ c) (hc' : c ≤ 9223372036854775807) (hA : RA w A l) :
    Calls Try.prog 37 #[.slice A l.length c] w fun e w' => e = .returned (.tuple (rangeR l)) ∧ Below w.heap.size w w' := by
  cases hgb : goodB l with
  | false =>
    have hr : rangeR l = #[.int .i64 0, .int .i64 0, .bool false] := by simp [rangeR, hgb]
    rw [hr]
    go_enter Try.func37, Try.ntmps37
    go_wp2_with fail
    refine (ntGood_any _ _ _ _ hn hc hc' hA).mono ?_
    rintro e w1 ⟨rfl, hb1⟩
    go_wp2
    go_ret3
    exact ⟨rfl, hb1⟩
  | true =>
    have hg := (goodB_iff l).1 hgb
    by_cases hl0 : l.length = 0
    · have hr : rangeR l = #[.int .i64 0, .int .i64 0, .bool false] := by simp [rangeR, hl0]
      rw [hr]
      have he : ((l.length : Int) == 0) = true := by simp [hl0]
      have HL := Lib.hid hl0
      clear hl0 hr
      go_enter Try.func37, Try.ntmps37
      go_wp2_with fail
      refine (ntGood_any _ _ _ _ hn hc hc' hA).mono ?_
      rintro e w1 ⟨rfl, hb1⟩
      go_wp2
      go_ret3
      exact ⟨rfl, hb1⟩
    · have hl1 : 0 < l.length := by omega
      have hz : l[0]? = some l[0] := List.getElem?_eq_getElem hl1
      have hr : rangeR l = #[.int .i64 (lowOf l[0].1 l), .int .i64 (highOf l[0].1 l), .bool true] := by simp [rangeR, hgb, hl1]
      rw [hr]
      generalize l[0] = x0 at hz
      obtain ⟨p0, s0, n0⟩ := x0
      simp only
      have he : ((l.length : Int) == 0) = false := by rw [beq_eq_false_iff_ne]; omega
      go_enter Try.func37, Try.ntmps37
      go_wp2_with fail
      refine (ntGood_any _ _ _ _ hn hc hc' hA).mono ?_
      rintro e w1 ⟨rfl, hb1⟩
      have hA1 := hA.below hb1
      obtain ⟨g, o, rfl, hgb0, z0, z1, z2⟩ := hA1 0 _ hz
      simp only [Nat.zero_mul, Nat.add_zero] at z0 z1 z2
      have HR := Lib.hid hr
      have HZ := Lib.hid hz
      clear hr hz hl0
      go_wp2_with fail
      go_quiet (fail)
      clear z0 z1 z2
      have hA2 : RA (w1.drewN nq) (some ⟨g, o, none⟩) l := hA1
      have hb2 : Below w.heap.size w (w1.drewN nq) := ⟨hb1.os, hb1.tape, hb1.output, hb1.size, hb1.block⟩
      generalize w1.drewN nq = W at *
      have HGB := Lib.hid hgb
      clear hgb
      go_wp2_with fail
      go_loopw [5, 6, 27] (fun a b i wr => ∃ k : Nat, k ≤ l.length ∧ i = .int .i64 k ∧ a = .int .i64 (lowOf p0 (l.take k)) ∧ b = .int .i64 (highOf p0 (l.take k)) ∧ Below W.heap.size W wr)
        (fun _ _ i _ => l.length - (intOf i).toNat)
      case atStart => exact ⟨0, Nat.zero_le _, rfl, rfl, rfl, Below.refl _ _⟩
      case round =>
        obtain ⟨k, hk, rfl, rfl, rfl, hb⟩ := hrel
        by_cases hlt : k < l.length
        · have hx : l[k]? = some l[k] := List.getElem?_eq_getElem hlt
          generalize l[k] = x at hx
          have hs1 := lowOf_snoc p0 l k x hx
          have hs2 := highOf_snoc p0 l k x hx
          obtain ⟨p, s, n⟩ := x
          simp only at hs1 hs2
          obtain ⟨g', o', hgo, hg', h0, h1, h2⟩ := (hA2.below hb) k _ hx
          simp only [Option.some.injEq, Addr.mk.injEq, and_true] at hgo
          obtain ⟨rfl, rfl⟩ := hgo
          simp only at h0 h1 h2
          have i1 : (0 : Int) ≤ (k : Int) := by omega
          have i2 : (k : Int) < (l.length : Int) := by omega
          have HS1 := Lib.hid hs1
          have HS2 := Lib.hid hs2
          clear hs1 hs2 hx
          go_wp2_with fail
          refine (l1Least_any _ _ _).mono ?_
          rintro e w2 ⟨rfl, rfl⟩
          go_wp2_with fail
          refine (l1Most_any _ _ _).mono ?_
          rintro e w2 ⟨rfl, rfl⟩
          go_wp2
          go_roundw
          case rel =>
            refine ⟨k + 1, by omega, by go_num, ?_, ?_, hb.alloc hb.size _⟩
            · exact congrArg (Value.int .i64) HS1.out.symm
            · exact congrArg (Value.int .i64) HS2.out.symm
          case measure => simp [intOf]; omega
        · obtain rfl : k = l.length := by omega
          go_wp2
          go_ret3
          exact ⟨by simp only [List.take_length] ; rfl, hb2.trans (hb.mono hb2.size)⟩

end Go.Proofs.Ytkgnkdebognneaa
