/- Contracts: LengthOfSheet of the model and of the program. -/
import Derived.Test.YtjjohenpapfabaaQuick
import Derived.Test.YtjjohenpapfabaaShP
namespace Go.Proofs.Ytjjohenpapfabaa
open Go.RowKit
set_option linter.unusedVariables false
set_option linter.unusedSimpArgs false

def endOf (l : List Nt) : Int := l.foldl (fun a x => mxI a x.2.2) 0
theorem endOf_snoc (l : List Nt) (k : Nat) (x : Nt) (h : l[k]? = some x) : endOf (l.take (k + 1)) = mxI (endOf (l.take k)) x.2.2 := by
  unfold endOf; rw [List.take_add_one, h, Option.toList_some, List.foldl_append]; rfl

set_option maxHeartbeats 400000 in
theorem l1Most_any (a b : Int) (w : World) :
    Calls Try.prog 91 #[.int .i64 a, .int .i64 b] w fun e w' => e = .returned (.int .i64 (mxI a b)) ∧ w = w' := by
  by_cases h : a < b
  all_goals by_cases h' : b < a
  all_goals
    go_enter Try.func91, Try.ntmps91
    go_wp2
    all_goals (go_ret; exact ⟨ret_int (by unfold mxI; split <;> omega), rfl⟩)

set_option maxRecDepth 100000 in
set_option maxHeartbeats 1000000 in
theorem shLength_any (A : Option Addr) (l : List Nt) (c : Nat) (w : World) (hn : l.length ≤ 1048576) (hA : RA w A l) :
    Calls Try.prog 76 #[.slice A l.length c] w fun e w' => e = .returned (.int .i64 (endOf l)) ∧ Below w.heap.size w w' := by
  go_enter Try.func76, Try.ntmps76
  go_wp2
  go_loopw [3, 8] (fun a i wr => ∃ k : Nat, k ≤ l.length ∧ i = .int .i64 k ∧ a = .int .i64 (endOf (l.take k)) ∧ Below w.heap.size w wr)
    (fun _ i _ => l.length - (intOf i).toNat)
  case atStart => exact ⟨0, Nat.zero_le _, rfl, rfl, Below.refl _ _⟩
  case round =>
    obtain ⟨k, hk, rfl, rfl, hb⟩ := hrel
    by_cases hlt : k < l.length
    · have hx : l[k]? = some l[k] := List.getElem?_eq_getElem hlt
      generalize l[k] = x at hx
      have hs := endOf_snoc l k x hx
      obtain ⟨p, s, n⟩ := x
      simp only at hs
      obtain ⟨g, o, rfl, hgb, h0, h1, h2⟩ := (hA.below hb) k _ hx
      simp only at h0 h1 h2
      have i1 : (0 : Int) ≤ (k : Int) := by omega
      have i2 : (k : Int) < (l.length : Int) := by omega
      have HS := Lib.hid hs
      clear hs hx
      go_wp2_with fail
      refine (l1Most_any _ _ _).mono ?_
      rintro e w1 ⟨rfl, rfl⟩
      go_wp2
      go_roundw
      case rel => exact ⟨k + 1, by omega, by go_num, by rw [HS.out], hb.alloc hb.size _⟩
      case measure => simp [intOf]; omega
    · obtain rfl : k = l.length := by omega
      go_wp2
      go_ret
      exact ⟨ret_int (by rw [List.take_length]), hb⟩

set_option maxRecDepth 100000 in
set_option maxHeartbeats 1000000 in
theorem endOfHoles_any (A : Option Addr) (l : List Nt) (c : Nat) (w : World) (hn : l.length ≤ 1048576) (hA : RA w A l) :
    Calls Try.prog 77 #[.slice A l.length c] w fun e w' => e = .returned (.int .i64 (endOf l)) ∧ Below w.heap.size w w' := by
  go_enter Try.func77, Try.ntmps77
  go_wp2
  go_loopw [3, 8] (fun a i wr => ∃ k : Nat, k ≤ l.length ∧ i = .int .i64 k ∧ a = .int .i64 (endOf (l.take k)) ∧ Below w.heap.size w wr)
    (fun _ i _ => l.length - (intOf i).toNat)
  case atStart => exact ⟨0, Nat.zero_le _, rfl, rfl, Below.refl _ _⟩
  case round =>
    obtain ⟨k, hk, rfl, rfl, hb⟩ := hrel
    by_cases hlt : k < l.length
    · have hx : l[k]? = some l[k] := List.getElem?_eq_getElem hlt
      generalize l[k] = x at hx
      have hs := endOf_snoc l k x hx
      obtain ⟨p, s, n⟩ := x
      simp only at hs
      obtain ⟨g, o, rfl, hgb, h0, h1, h2⟩ := (hA.below hb) k _ hx
      simp only at h0 h1 h2
      have i1 : (0 : Int) ≤ (k : Int) := by omega
      have i2 : (k : Int) < (l.length : Int) := by omega
      have HS := Lib.hid hs
      clear hs hx
      go_wp2
      go_roundw
      case rel =>
        refine ⟨k + 1, by omega, by go_num, ?_, hb.alloc hb.size _⟩
        rw [HS.out]
        rfl
      case measure => simp [intOf]; omega
    · obtain rfl : k = l.length := by omega
      go_wp2
      go_ret
      exact ⟨ret_int (by rw [List.take_length]), hb⟩

set_option maxRecDepth 100000 in
set_option maxHeartbeats 1000000 in
theorem specLength_false (A : Nat) (l : List Nt) (c : Nat) (w : World) (hn : l.length ≤ 1048576) (hc : l.length ≤ c) (hc' : c ≤ 9223372036854775807) (hA : RA w (some ⟨A, 0, none⟩) l) (hg : goodB l = false) :
    Calls Try.prog 41 #[.slice (some ⟨A, 0, none⟩) l.length c] w fun e w' => e = .returned (.tuple #[.int .i64 0, .bool false]) ∧ Below w.heap.size w w' := by
  have HG := shGood_quick (some ⟨A, 0, none⟩) l c false hn hc hc' hg
  clear hg
  go_enter Try.func41, Try.ntmps41
  go_wp2_with fail
  refine (HG.out _ hA).mono ?_
  rintro e w1 ⟨rfl, hb1⟩
  go_wp2
  go_ret2
  exact ⟨rfl, hb1⟩

set_option maxRecDepth 100000 in
set_option maxHeartbeats 1000000 in
theorem specLength_true (A : Nat) (l : List Nt) (c : Nat) (w : World) (hn : l.length ≤ 1048576) (hc : l.length ≤ c) (hc' : c ≤ 9223372036854775807) (hA : RA w (some ⟨A, 0, none⟩) l) (hg : goodB l = true) :
    Calls Try.prog 41 #[.slice (some ⟨A, 0, none⟩) l.length c] w fun e w' => e = .returned (.tuple #[.int .i64 (endOf l), .bool true]) ∧ Below w.heap.size w w' := by
  have HG := shGood_quick (some ⟨A, 0, none⟩) l c true hn hc hc' hg
  clear hg
  go_enter Try.func41, Try.ntmps41
  go_wp2_with fail
  refine (HG.out _ hA).mono ?_
  rintro e w1 ⟨rfl, hb1⟩
  go_wp2_with fail
  refine (shLength_any _ _ _ _ hn (hA.below hb1)).mono ?_
  rintro e w2 ⟨rfl, hb2⟩
  go_wp2
  go_ret2
  exact ⟨rfl, hb1.trans (hb2.mono hb1.size)⟩

set_option maxRecDepth 100000 in
set_option maxHeartbeats 1000000 in
theorem implLength_false (A : Nat) (l : List Nt) (c : Nat) (w : World) (hn : l.length ≤ 1048576) (hA : RA w (some ⟨A, 0, none⟩) l) (hg : goodB l = false) :
    Calls Try.prog 42 #[.slice (some ⟨A, 0, none⟩) l.length c] w fun e w' => e = .returned (.tuple #[.int .i64 0, .bool false]) ∧ Below w.heap.size w w' := by
  have HG := isSheet_quick (some ⟨A, 0, none⟩) l c false hn hg
  clear hg
  go_enter Try.func42, Try.ntmps42
  go_wp2_with fail
  refine (HG.out _ hA).mono ?_
  rintro e w1 ⟨rfl, hb1⟩
  go_wp2
  go_ret2
  exact ⟨rfl, hb1⟩

set_option maxRecDepth 100000 in
set_option maxHeartbeats 1000000 in
theorem implLength_true (A : Nat) (l : List Nt) (c : Nat) (w : World) (hn : l.length ≤ 1048576) (hA : RA w (some ⟨A, 0, none⟩) l) (hg : goodB l = true) :
    Calls Try.prog 42 #[.slice (some ⟨A, 0, none⟩) l.length c] w fun e w' => e = .returned (.tuple #[.int .i64 (endOf l), .bool true]) ∧ Below w.heap.size w w' := by
  have HG := isSheet_quick (some ⟨A, 0, none⟩) l c true hn hg
  clear hg
  go_enter Try.func42, Try.ntmps42
  go_wp2_with fail
  refine (HG.out _ hA).mono ?_
  rintro e w1 ⟨rfl, hb1⟩
  go_wp2_with fail
  refine (endOfHoles_any _ _ _ _ hn (hA.below hb1)).mono ?_
  rintro e w2 ⟨rfl, hb2⟩
  go_wp2
  go_ret2
  exact ⟨rfl, hb1.trans (hb2.mono hb1.size)⟩

theorem lengthOfSheet_both (l : List Nt) (hbig : l.length ≤ 1048576) : ∃ (va : Int) (vb : Bool),
    (∀ (A : Nat) (c : Nat) (W : World), l.length ≤ c → c ≤ 9223372036854775807 → RA W (some ⟨A, 0, none⟩) l → Calls Try.prog 41 #[.slice (some ⟨A, 0, none⟩) l.length c] W fun e W' => e = .returned (.tuple #[.int .i64 va, .bool vb]) ∧ Below W.heap.size W W') ∧
    (∀ (A : Nat) (c : Nat) (W : World), l.length ≤ c → c ≤ 9223372036854775807 → RA W (some ⟨A, 0, none⟩) l → Calls Try.prog 42 #[.slice (some ⟨A, 0, none⟩) l.length c] W fun e W' => e = .returned (.tuple #[.int .i64 va, .bool vb]) ∧ Below W.heap.size W W') := by
  cases hg : goodB l with
  | false => exact ⟨0, false, fun A c W h1 h2 hA => specLength_false A l c W hbig h1 h2 hA hg, fun A c W _ _ hA => implLength_false A l c W hbig hA hg⟩
  | true => exact ⟨endOf l, true, fun A c W h1 h2 hA => specLength_true A l c W hbig h1 h2 hA hg, fun A c W _ _ hA => implLength_true A l c W hbig hA hg⟩
end Go.Proofs.Ytjjohenpapfabaa
