/- Contracts: TempoAt, TimeOf, TimeBetween, EvenTempo, of the model and of the program. -/
import Derived.Test.YtakmlgkcinjecaaTimes
namespace Go.Proofs.Ytakmlgkcinjecaa
open Go.RowKit
set_option linter.unusedVariables false
set_option linter.unusedSimpArgs false

theorem inR_iff {n lo hi : Int} : inR n lo hi = true ↔ lo ≤ n ∧ n ≤ hi := by simp [inR]

set_option maxRecDepth 100000 in
set_option maxHeartbeats 1000000 in
theorem specTempoAt_no (A : Option Addr) (l : List Nt2) (c : Nat) (s : Int) (w : World) (hn : l.length ≤ 1048576) (hA : RA2 w A l) (hbad : (goodT l && inR s 0 2000) = false) :
    Calls Try.prog 19 #[.slice A l.length c, .int .i64 s] w fun e w' => e = .returned (.tuple #[.int .i64 0, .bool false]) ∧ Below w.heap.size w w' := by
  cases hg : goodT l with
  | false =>
    have hG := fun (w : World) (hA : RA2 w A l) => teGood_any A l c w hn hA
    rw [hg] at hG
    have HG := Lib.hid hG
    clear hG hg hbad
    go_enter Try.func19, Try.ntmps19
    go_wp2_with (go_at_call 23; refine (HG.out _ hA).mono ?_; rintro e w1 ⟨rfl, hb1⟩)
    exact bodyPost_ret (v := .tuple #[.int .i64 0, .bool false]) (by simp [results, Try.results19, go_sem]) rfl ⟨rfl, hb1⟩
  | true =>
    have hi : inR s 0 2000 = false := by rw [hg] at hbad; simpa using hbad
    have hG := fun (w : World) (hA : RA2 w A l) => teGood_any A l c w hn hA
    rw [hg] at hG
    have HG := Lib.hid hG
    clear hG hg hbad
    go_enter Try.func19, Try.ntmps19
    go_wp2_with (first
      | (go_at_call 23; refine (HG.out _ hA).mono ?_; rintro e w1 ⟨rfl, hb1⟩)
      | (go_at_call 24; refine (teStep_any _ _).mono ?_; rintro e w2 ⟨rfl, rfl⟩))
    exact bodyPost_ret (v := .tuple #[.int .i64 0, .bool false]) (by simp [results, Try.results19, go_sem]) rfl ⟨rfl, hb1⟩

set_option maxRecDepth 100000 in
set_option maxHeartbeats 1000000 in
theorem specTempoAt_yes (A : Nat) (l : List Nt2) (c : Nat) (s : Int) (w : World) (hn : l.length ≤ 1048576) (hA : RA2 w (some ⟨A, 0, none⟩) l) (hg : goodT l = true) (hi : inR s 0 2000 = true) :
    Calls Try.prog 19 #[.slice (some ⟨A, 0, none⟩) l.length c, .int .i64 s] w fun e w' => e = .returned (.tuple #[.int .i64 (lst l (atT l s)), .bool true]) ∧ Below w.heap.size w w' := by
  have ht := goodT.tmp hg
  obtain ⟨h0, h1⟩ := inR_iff.1 hi
  have hj := atT_lt ht.pos s
  have hG := fun (w : World) (hA : RA2 w (some ⟨A, 0, none⟩) l) => teGood_any (some ⟨A, 0, none⟩) l c w hn hA
  rw [hg] at hG
  have HG := Lib.hid hG
  have HC := Lib.hid fun (w : World) (hA : RA2 w (some ⟨A, 0, none⟩) l) => teAt_any (some ⟨A, 0, none⟩) l c s w ht h0 hA
  generalize atT l s = j at *
  have hx : l[j]? = some l[j] := List.getElem?_eq_getElem hj
  generalize l[j] = x at hx
  obtain ⟨a, n⟩ := x
  have hl := lst_of hx
  rw [hl]
  have HX := Lib.hid hx
  clear hG hg hl hx ht h0 h1
  have hjI : (j : Int) < (l.length : Int) := by omega
  go_enter Try.func19, Try.ntmps19
  go_wp2_with (first
    | (go_at_call 23; refine (HG.out _ hA).mono ?_; rintro e w1 ⟨rfl, hb1⟩)
    | (go_at_call 24; refine (teStep_any _ _).mono ?_; rintro e w2 ⟨rfl, rfl⟩)
    | (go_at_call 43; refine (HC.out _ (hA.below hb1)).mono ?_; rintro e w2 ⟨rfl, rfl⟩; have hB2 := hb1; obtain ⟨_, c0, c1⟩ := (hA.below hB2).at j _ HX.out; simp only [Nat.zero_add] at c0 c1))
  exact bodyPost_ret (v := .tuple #[.int .i64 n, .bool true]) (by simp [results, Try.results19, go_sem]) rfl ⟨rfl, hB2⟩

set_option maxRecDepth 100000 in
set_option maxHeartbeats 1000000 in
theorem specTimeOf_no (A : Option Addr) (l : List Nt2) (c : Nat) (s : Int) (w : World) (hn : l.length ≤ 1048576) (hA : RA2 w A l) (hbad : (goodT l && inR s 0 2000) = false) :
    Calls Try.prog 6 #[.slice A l.length c, .int .i64 s] w fun e w' => e = .returned (.tuple #[.int .i64 0, .bool false]) ∧ Below w.heap.size w w' := by
  cases hg : goodT l with
  | false =>
    have hG := fun (w : World) (hA : RA2 w A l) => teGood_any A l c w hn hA
    rw [hg] at hG
    have HG := Lib.hid hG
    clear hG hg hbad
    go_enter Try.func6, Try.ntmps6
    go_wp2_with (go_at_call 23; refine (HG.out _ hA).mono ?_; rintro e w1 ⟨rfl, hb1⟩)
    exact bodyPost_ret (v := .tuple #[.int .i64 0, .bool false]) (by simp [results, Try.results6, go_sem]) rfl ⟨rfl, hb1⟩
  | true =>
    have hi : inR s 0 2000 = false := by rw [hg] at hbad; simpa using hbad
    have hG := fun (w : World) (hA : RA2 w A l) => teGood_any A l c w hn hA
    rw [hg] at hG
    have HG := Lib.hid hG
    clear hG hg hbad
    go_enter Try.func6, Try.ntmps6
    go_wp2_with (first
      | (go_at_call 23; refine (HG.out _ hA).mono ?_; rintro e w1 ⟨rfl, hb1⟩)
      | (go_at_call 24; refine (teStep_any _ _).mono ?_; rintro e w2 ⟨rfl, rfl⟩))
    exact bodyPost_ret (v := .tuple #[.int .i64 0, .bool false]) (by simp [results, Try.results6, go_sem]) rfl ⟨rfl, hb1⟩

set_option maxRecDepth 100000 in
set_option maxHeartbeats 1000000 in
theorem specTimeOf_yes (A : Nat) (l : List Nt2) (c : Nat) (s : Int) (w : World) (hn : l.length ≤ 1048576) (hA : RA2 w (some ⟨A, 0, none⟩) l) (hg : goodT l = true) (hi : inR s 0 2000 = true) :
    Calls Try.prog 6 #[.slice (some ⟨A, 0, none⟩) l.length c, .int .i64 s] w fun e w' => e = .returned (.tuple #[.int .i64 (timeT l s), .bool true]) ∧ Below w.heap.size w w' := by
  have ht := goodT.tmp hg
  obtain ⟨h0, h1⟩ := inR_iff.1 hi
  have hj := atT_lt ht.pos s
  have hG := fun (w : World) (hA : RA2 w (some ⟨A, 0, none⟩) l) => teGood_any (some ⟨A, 0, none⟩) l c w hn hA
  rw [hg] at hG
  have HG := Lib.hid hG
  have HC := Lib.hid fun (w : World) (hA : RA2 w (some ⟨A, 0, none⟩) l) => teTime_any (some ⟨A, 0, none⟩) l c s w ht h0 h1 hA
  generalize timeT l s = T at *
  clear hG hg ht h0 h1 hj
  go_enter Try.func6, Try.ntmps6
  go_wp2_with (first
    | (go_at_call 23; refine (HG.out _ hA).mono ?_; rintro e w1 ⟨rfl, hb1⟩)
    | (go_at_call 24; refine (teStep_any _ _).mono ?_; rintro e w2 ⟨rfl, rfl⟩)
    | (go_at_call 25; refine (HC.out _ (hA.below hb1)).mono ?_; rintro e w2 ⟨rfl, hb2⟩; have hB2 := hb1.trans (hb2.mono hb1.size)))
  exact bodyPost_ret (v := .tuple #[.int .i64 T, .bool true]) (by simp [results, Try.results6, go_sem]) rfl ⟨rfl, hB2⟩

set_option maxRecDepth 100000 in
set_option maxHeartbeats 1000000 in
theorem implTempoAt_no (A : Option Addr) (l : List Nt2) (c : Nat) (s : Int) (w : World) (hn : l.length ≤ 1048576) (hA : RA2 w A l) (hbad : (goodT l && inR s 0 2000) = false) :
    Calls Try.prog 17 #[.slice A l.length c, .int .i64 s] w fun e w' => e = .returned (.tuple #[.int .i64 0, .bool false]) ∧ Below w.heap.size w w' := by
  cases hg : goodT l with
  | false =>
    have hG := fun (w : World) (hA : RA2 w A l) => areTempos_any A l c w hn hA
    rw [hg] at hG
    have HG := Lib.hid hG
    clear hG hg hbad
    go_enter Try.func17, Try.ntmps17
    go_wp2_with (go_at_call 18; refine (HG.out _ hA).mono ?_; rintro e w1 ⟨rfl, hb1⟩)
    exact bodyPost_ret (v := .tuple #[.int .i64 0, .bool false]) (by simp [results, Try.results17, go_sem]) rfl ⟨rfl, hb1⟩
  | true =>
    have hi : inR s 0 2000 = false := by rw [hg] at hbad; simpa using hbad
    have hG := fun (w : World) (hA : RA2 w A l) => areTempos_any A l c w hn hA
    rw [hg] at hG
    have HG := Lib.hid hG
    clear hG hg hbad
    go_enter Try.func17, Try.ntmps17
    go_wp2_with (first
      | (go_at_call 18; refine (HG.out _ hA).mono ?_; rintro e w1 ⟨rfl, hb1⟩)
      | (go_at_call 21; refine (isTimedStep_any _ _).mono ?_; rintro e w2 ⟨rfl, rfl⟩))
    exact bodyPost_ret (v := .tuple #[.int .i64 0, .bool false]) (by simp [results, Try.results17, go_sem]) rfl ⟨rfl, hb1⟩

set_option maxRecDepth 100000 in
set_option maxHeartbeats 1000000 in
theorem implTempoAt_yes (A : Nat) (l : List Nt2) (c : Nat) (s : Int) (w : World) (hn : l.length ≤ 1048576) (hA : RA2 w (some ⟨A, 0, none⟩) l) (hg : goodT l = true) (hi : inR s 0 2000 = true) :
    Calls Try.prog 17 #[.slice (some ⟨A, 0, none⟩) l.length c, .int .i64 s] w fun e w' => e = .returned (.tuple #[.int .i64 (lst l (atT l s)), .bool true]) ∧ Below w.heap.size w w' := by
  have ht := goodT.tmp hg
  obtain ⟨h0, h1⟩ := inR_iff.1 hi
  have hj := atT_lt ht.pos s
  have hG := fun (w : World) (hA : RA2 w (some ⟨A, 0, none⟩) l) => areTempos_any (some ⟨A, 0, none⟩) l c w hn hA
  rw [hg] at hG
  have HG := Lib.hid hG
  have HC := Lib.hid fun (w : World) (hA : RA2 w (some ⟨A, 0, none⟩) l) => changeFor_any (some ⟨A, 0, none⟩) l c s w hn hA
  generalize atT l s = j at *
  have hx : l[j]? = some l[j] := List.getElem?_eq_getElem hj
  generalize l[j] = x at hx
  obtain ⟨a, n⟩ := x
  have hl := lst_of hx
  rw [hl]
  have HX := Lib.hid hx
  clear hG hg hl hx ht h0 h1
  have hjI : (j : Int) < (l.length : Int) := by omega
  go_enter Try.func17, Try.ntmps17
  go_wp2_with (first
    | (go_at_call 18; refine (HG.out _ hA).mono ?_; rintro e w1 ⟨rfl, hb1⟩)
    | (go_at_call 21; refine (isTimedStep_any _ _).mono ?_; rintro e w2 ⟨rfl, rfl⟩)
    | (go_at_call 36; refine (HC.out _ (hA.below hb1)).mono ?_; rintro e w2 ⟨rfl, hb2⟩; have hB2 := hb1.trans (hb2.mono hb1.size); obtain ⟨_, c0, c1⟩ := (hA.below hB2).at j _ HX.out; simp only [Nat.zero_add] at c0 c1))
  exact bodyPost_ret (v := .tuple #[.int .i64 n, .bool true]) (by simp [results, Try.results17, go_sem]) rfl ⟨rfl, hB2⟩

set_option maxRecDepth 100000 in
set_option maxHeartbeats 1000000 in
theorem implTimeOf_no (A : Option Addr) (l : List Nt2) (c : Nat) (s : Int) (w : World) (hn : l.length ≤ 1048576) (hA : RA2 w A l) (hbad : (goodT l && inR s 0 2000) = false) :
    Calls Try.prog 5 #[.slice A l.length c, .int .i64 s] w fun e w' => e = .returned (.tuple #[.int .i64 0, .bool false]) ∧ Below w.heap.size w w' := by
  cases hg : goodT l with
  | false =>
    have hG := fun (w : World) (hA : RA2 w A l) => areTempos_any A l c w hn hA
    rw [hg] at hG
    have HG := Lib.hid hG
    clear hG hg hbad
    go_enter Try.func5, Try.ntmps5
    go_wp2_with (go_at_call 18; refine (HG.out _ hA).mono ?_; rintro e w1 ⟨rfl, hb1⟩)
    exact bodyPost_ret (v := .tuple #[.int .i64 0, .bool false]) (by simp [results, Try.results5, go_sem]) rfl ⟨rfl, hb1⟩
  | true =>
    have hi : inR s 0 2000 = false := by rw [hg] at hbad; simpa using hbad
    have hG := fun (w : World) (hA : RA2 w A l) => areTempos_any A l c w hn hA
    rw [hg] at hG
    have HG := Lib.hid hG
    clear hG hg hbad
    go_enter Try.func5, Try.ntmps5
    go_wp2_with (first
      | (go_at_call 18; refine (HG.out _ hA).mono ?_; rintro e w1 ⟨rfl, hb1⟩)
      | (go_at_call 21; refine (isTimedStep_any _ _).mono ?_; rintro e w2 ⟨rfl, rfl⟩))
    exact bodyPost_ret (v := .tuple #[.int .i64 0, .bool false]) (by simp [results, Try.results5, go_sem]) rfl ⟨rfl, hb1⟩

set_option maxRecDepth 100000 in
set_option maxHeartbeats 1000000 in
theorem implTimeOf_yes (A : Nat) (l : List Nt2) (c : Nat) (s : Int) (w : World) (hn : l.length ≤ 1048576) (hA : RA2 w (some ⟨A, 0, none⟩) l) (hg : goodT l = true) (hi : inR s 0 2000 = true) :
    Calls Try.prog 5 #[.slice (some ⟨A, 0, none⟩) l.length c, .int .i64 s] w fun e w' => e = .returned (.tuple #[.int .i64 (timeT l s), .bool true]) ∧ Below w.heap.size w w' := by
  have ht := goodT.tmp hg
  obtain ⟨h0, h1⟩ := inR_iff.1 hi
  have hj := atT_lt ht.pos s
  have hG := fun (w : World) (hA : RA2 w (some ⟨A, 0, none⟩) l) => areTempos_any (some ⟨A, 0, none⟩) l c w hn hA
  rw [hg] at hG
  have HG := Lib.hid hG
  have HC := Lib.hid fun (w : World) (hA : RA2 w (some ⟨A, 0, none⟩) l) => beginOf_any (some ⟨A, 0, none⟩) l c s w ht h0 h1 hA
  generalize timeT l s = T at *
  clear hG hg ht h0 h1 hj
  go_enter Try.func5, Try.ntmps5
  go_wp2_with (first
    | (go_at_call 18; refine (HG.out _ hA).mono ?_; rintro e w1 ⟨rfl, hb1⟩)
    | (go_at_call 21; refine (isTimedStep_any _ _).mono ?_; rintro e w2 ⟨rfl, rfl⟩)
    | (go_at_call 22; refine (HC.out _ (hA.below hb1)).mono ?_; rintro e w2 ⟨rfl, hb2⟩; have hB2 := hb1.trans (hb2.mono hb1.size)))
  exact bodyPost_ret (v := .tuple #[.int .i64 T, .bool true]) (by simp [results, Try.results5, go_sem]) rfl ⟨rfl, hB2⟩

theorem tempoAt_both (l : List Nt2) (s : Int) (hbig : l.length ≤ 1048576) : ∃ (va : Int) (vb : Bool),
    (∀ (A : Nat) (c : Nat) (W : World), l.length ≤ c → c ≤ 9223372036854775807 → RA2 W (some ⟨A, 0, none⟩) l → Calls Try.prog 19 #[.slice (some ⟨A, 0, none⟩) l.length c, .int .i64 s] W fun e W' => e = .returned (.tuple #[.int .i64 va, .bool vb]) ∧ Below W.heap.size W W') ∧
    (∀ (A : Nat) (c : Nat) (W : World), l.length ≤ c → c ≤ 9223372036854775807 → RA2 W (some ⟨A, 0, none⟩) l → Calls Try.prog 17 #[.slice (some ⟨A, 0, none⟩) l.length c, .int .i64 s] W fun e W' => e = .returned (.tuple #[.int .i64 va, .bool vb]) ∧ Below W.heap.size W W') := by
  cases hc : (goodT l && inR s 0 2000) with
  | false => exact ⟨0, false, fun A c W _ _ hA => specTempoAt_no (some ⟨A, 0, none⟩) l c s W hbig hA hc, fun A c W _ _ hA => implTempoAt_no (some ⟨A, 0, none⟩) l c s W hbig hA hc⟩
  | true =>
    obtain ⟨hg, hi⟩ := Bool.and_eq_true_iff.1 hc
    exact ⟨lst l (atT l s), true, fun A c W _ _ hA => specTempoAt_yes A l c s W hbig hA hg hi, fun A c W _ _ hA => implTempoAt_yes A l c s W hbig hA hg hi⟩

theorem timeOf_both (l : List Nt2) (s : Int) (hbig : l.length ≤ 1048576) : ∃ (va : Int) (vb : Bool),
    (∀ (A : Nat) (c : Nat) (W : World), l.length ≤ c → c ≤ 9223372036854775807 → RA2 W (some ⟨A, 0, none⟩) l → Calls Try.prog 6 #[.slice (some ⟨A, 0, none⟩) l.length c, .int .i64 s] W fun e W' => e = .returned (.tuple #[.int .i64 va, .bool vb]) ∧ Below W.heap.size W W') ∧
    (∀ (A : Nat) (c : Nat) (W : World), l.length ≤ c → c ≤ 9223372036854775807 → RA2 W (some ⟨A, 0, none⟩) l → Calls Try.prog 5 #[.slice (some ⟨A, 0, none⟩) l.length c, .int .i64 s] W fun e W' => e = .returned (.tuple #[.int .i64 va, .bool vb]) ∧ Below W.heap.size W W') := by
  cases hc : (goodT l && inR s 0 2000) with
  | false => exact ⟨0, false, fun A c W _ _ hA => specTimeOf_no (some ⟨A, 0, none⟩) l c s W hbig hA hc, fun A c W _ _ hA => implTimeOf_no (some ⟨A, 0, none⟩) l c s W hbig hA hc⟩
  | true =>
    obtain ⟨hg, hi⟩ := Bool.and_eq_true_iff.1 hc
    exact ⟨timeT l s, true, fun A c W _ _ hA => specTimeOf_yes A l c s W hbig hA hg hi, fun A c W _ _ hA => implTimeOf_yes A l c s W hbig hA hg hi⟩

theorem timeT_le {l : List Nt2} (h : Tmp l) {a b : Int} (h0 : 0 ≤ a) (hab : a ≤ b) : timeT l a ≤ timeT l b := by
  obtain ⟨x, rfl⟩ : ∃ x : Nat, a = x := ⟨a.toNat, by omega⟩
  obtain ⟨y, rfl⟩ : ∃ y : Nat, b = y := ⟨b.toNat, by omega⟩
  rcases Nat.lt_or_ge x y with hl | hl
  · exact Int.le_of_lt (timeT_up h x y hl)
  · obtain rfl : x = y := by omega
    exact Int.le_refl _

def twoB (l : List Nt2) (f t : Int) : Bool := goodT l && (inR f 0 2000 && (inR t 0 2000 && decide (f ≤ t)))

set_option maxRecDepth 100000 in
set_option maxHeartbeats 1000000 in
theorem teTwo_any (A : Option Addr) (l : List Nt2) (c : Nat) (f t : Int) (w : World) (hn : l.length ≤ 1048576) (hA : RA2 w A l) :
    Calls Try.prog 33 #[.slice A l.length c, .int .i64 f, .int .i64 t] w fun e w' => e = .returned (.bool (twoB l f t)) ∧ Below w.heap.size w w' := by
  have hG := fun (w : World) (hA : RA2 w A l) => teGood_any A l c w hn hA
  have hW : twoB l f t = (goodT l && (inR f 0 2000 && (inR t 0 2000 && decide (f ≤ t)))) := rfl
  have HW := Lib.hid hW
  clear hW
  generalize twoB l f t = R at *
  cases hg : goodT l <;> cases h1 : inR f 0 2000 <;> cases h2 : inR t 0 2000 <;> by_cases h3 : f ≤ t
  all_goals
    rw [hg] at hG
    have HG := Lib.hid hG
    have HW' := HW.out
    simp [hg, h1, h2, h3] at HW'
    subst HW'
    clear hG hg
    go_enter Try.func33, Try.ntmps33
    go_wp2_with (first
      | (go_at_call 23; refine (HG.out _ hA).mono ?_; rintro e w1 ⟨rfl, hb1⟩)
      | (go_at_call 24; refine (teStep_any _ _).mono ?_; rintro e w2 ⟨rfl, rfl⟩))
    go_ret
    exact ⟨by first | rfl | (simp; omega) | simp_all, hb1⟩

set_option maxRecDepth 100000 in
set_option maxHeartbeats 1000000 in
theorem specTimeBetween_no (A : Option Addr) (l : List Nt2) (c : Nat) (f t : Int) (w : World) (hn : l.length ≤ 1048576) (hA : RA2 w A l) (hbad : twoB l f t = false) :
    Calls Try.prog 12 #[.slice A l.length c, .int .i64 f, .int .i64 t] w fun e w' => e = .returned (.tuple #[.int .i64 0, .bool false]) ∧ Below w.heap.size w w' := by
  have hG := fun (w : World) (hA : RA2 w A l) => teTwo_any A l c f t w hn hA
  rw [hbad] at hG
  have HG := Lib.hid hG
  clear hG hbad
  go_enter Try.func12, Try.ntmps12
  go_wp2_with (go_at_call 33; refine (HG.out _ hA).mono ?_; rintro e w1 ⟨rfl, hb1⟩)
  exact bodyPost_ret (v := .tuple #[.int .i64 0, .bool false]) (by simp [results, Try.results12, go_sem]) rfl ⟨rfl, hb1⟩

set_option maxRecDepth 100000 in
set_option maxHeartbeats 1000000 in
theorem specTimeBetween_yes (A : Nat) (l : List Nt2) (c : Nat) (f t : Int) (w : World) (hn : l.length ≤ 1048576) (hA : RA2 w (some ⟨A, 0, none⟩) l) (hg : twoB l f t = true) :
    Calls Try.prog 12 #[.slice (some ⟨A, 0, none⟩) l.length c, .int .i64 f, .int .i64 t] w fun e w' => e = .returned (.tuple #[.int .i64 (timeT l t - timeT l f), .bool true]) ∧ Below w.heap.size w w' := by
  have ht : Tmp l ∧ (0 ≤ f ∧ f ≤ 2000) ∧ (0 ≤ t ∧ t ≤ 2000) ∧ f ≤ t := by
    simp only [twoB, Bool.and_eq_true, inR_iff, decide_eq_true_eq] at hg
    exact ⟨goodT.tmp hg.1, hg.2.1, hg.2.2.1, hg.2.2.2⟩
  obtain ⟨ht, ⟨f0, f1⟩, ⟨t0, t1⟩, hft⟩ := ht
  have hle := timeT_le ht f0 hft
  have b1 := timeT_bnd ht f0 f1
  have b2 := timeT_bnd ht t0 t1
  have HC := Lib.hid fun (w : World) (hA : RA2 w (some ⟨A, 0, none⟩) l) => teTime_any (some ⟨A, 0, none⟩) l c f w ht f0 f1 hA
  have HD := Lib.hid fun (w : World) (hA : RA2 w (some ⟨A, 0, none⟩) l) => teTime_any (some ⟨A, 0, none⟩) l c t w ht t0 t1 hA
  have hG := fun (w : World) (hA : RA2 w (some ⟨A, 0, none⟩) l) => teTwo_any (some ⟨A, 0, none⟩) l c f t w hn hA
  rw [hg] at hG
  have HG := Lib.hid hG
  generalize timeT l f = TF at *
  generalize timeT l t = TT at *
  clear hG hg ht
  go_enter Try.func12, Try.ntmps12
  go_wp2_with (go_at_call 33; refine (HG.out _ hA).mono ?_; rintro e w1 ⟨rfl, hb1⟩)
  refine (HD.out _ (hA.below hb1)).mono ?_
  rintro e w2 ⟨rfl, hb2⟩
  have hB2 := hb1.trans (hb2.mono hb1.size)
  go_wp2_with fail
  refine (HC.out _ (hA.below hB2)).mono ?_
  rintro e w3 ⟨rfl, hb3⟩
  have hB3 := hB2.trans (hb3.mono hB2.size)
  go_wp2
  exact bodyPost_ret (v := .tuple #[.int .i64 (TT - TF), .bool true]) (by simp [results, Try.results12, go_sem]) rfl ⟨rfl, hB3⟩

set_option maxRecDepth 100000 in
set_option maxHeartbeats 1000000 in
theorem implTimeBetween_no (A : Option Addr) (l : List Nt2) (c : Nat) (f t : Int) (w : World) (hn : l.length ≤ 1048576) (hA : RA2 w A l) (hbad : twoB l f t = false) :
    Calls Try.prog 11 #[.slice A l.length c, .int .i64 f, .int .i64 t] w fun e w' => e = .returned (.tuple #[.int .i64 0, .bool false]) ∧ Below w.heap.size w w' := by
  have hG := fun (w : World) (hA : RA2 w A l) => areTempos_any A l c w hn hA
  unfold twoB at hbad
  cases hg : goodT l <;> cases h1 : inR f 0 2000 <;> cases h2 : inR t 0 2000 <;> by_cases h3 : f ≤ t
  all_goals
    first
    | (exfalso; simp [hg, h1, h2, h3] at hbad; done)
    | (rw [hg] at hG
       have HG := Lib.hid hG
       clear hG hg hbad
       go_enter Try.func11, Try.ntmps11
       go_wp2_with (first
         | (go_at_call 18; refine (HG.out _ hA).mono ?_; rintro e w1 ⟨rfl, hb1⟩)
         | (go_at_call 21; refine (isTimedStep_any _ _).mono ?_; rintro e w2 ⟨rfl, rfl⟩))
       exact bodyPost_ret (v := .tuple #[.int .i64 0, .bool false]) (by simp [results, Try.results11, go_sem]) rfl ⟨rfl, hb1⟩)

set_option maxRecDepth 100000 in
set_option maxHeartbeats 1000000 in
theorem implTimeBetween_yes (A : Nat) (l : List Nt2) (c : Nat) (f t : Int) (w : World) (hn : l.length ≤ 1048576) (hA : RA2 w (some ⟨A, 0, none⟩) l) (hg : twoB l f t = true) :
    Calls Try.prog 11 #[.slice (some ⟨A, 0, none⟩) l.length c, .int .i64 f, .int .i64 t] w fun e w' => e = .returned (.tuple #[.int .i64 (timeT l t - timeT l f), .bool true]) ∧ Below w.heap.size w w' := by
  have ht : Tmp l ∧ (0 ≤ f ∧ f ≤ 2000) ∧ (0 ≤ t ∧ t ≤ 2000) ∧ f ≤ t := by
    simp only [twoB, Bool.and_eq_true, inR_iff, decide_eq_true_eq] at hg
    exact ⟨goodT.tmp hg.1, hg.2.1, hg.2.2.1, hg.2.2.2⟩
  obtain ⟨ht, ⟨f0, f1⟩, ⟨t0, t1⟩, hft⟩ := ht
  have hle := timeT_le ht f0 hft
  have b1 := timeT_bnd ht f0 f1
  have b2 := timeT_bnd ht t0 t1
  have HC := Lib.hid fun (w : World) (hA : RA2 w (some ⟨A, 0, none⟩) l) => beginOf_any (some ⟨A, 0, none⟩) l c f w ht f0 f1 hA
  have HD := Lib.hid fun (w : World) (hA : RA2 w (some ⟨A, 0, none⟩) l) => beginOf_any (some ⟨A, 0, none⟩) l c t w ht t0 t1 hA
  have hg' : goodT l = true := ht.good
  have hi1 : inR f 0 2000 = true := inR_iff.2 ⟨f0, f1⟩
  have hi2 : inR t 0 2000 = true := inR_iff.2 ⟨t0, t1⟩
  have hG := fun (w : World) (hA : RA2 w (some ⟨A, 0, none⟩) l) => areTempos_any (some ⟨A, 0, none⟩) l c w hn hA
  rw [hg'] at hG
  clear hg'
  have HG := Lib.hid hG
  generalize timeT l f = TF at *
  generalize timeT l t = TT at *
  clear hG hg ht
  go_enter Try.func11, Try.ntmps11
  go_wp2_with (first
    | (go_at_call 18; refine (HG.out _ hA).mono ?_; rintro e w1 ⟨rfl, hb1⟩)
    | (go_at_call 21; refine (isTimedStep_any _ _).mono ?_; rintro e w2 ⟨rfl, rfl⟩))
  refine (HD.out _ (hA.below hb1)).mono ?_
  rintro e w2 ⟨rfl, hb2⟩
  have hB2 := hb1.trans (hb2.mono hb1.size)
  go_wp2_with fail
  refine (HC.out _ (hA.below hB2)).mono ?_
  rintro e w3 ⟨rfl, hb3⟩
  have hB3 := hB2.trans (hb3.mono hB2.size)
  go_wp2
  exact bodyPost_ret (v := .tuple #[.int .i64 (TT - TF), .bool true]) (by simp [results, Try.results11, go_sem]) rfl ⟨rfl, hB3⟩

theorem timeBetween_both (l : List Nt2) (f t : Int) (hbig : l.length ≤ 1048576) : ∃ (va : Int) (vb : Bool),
    (∀ (A : Nat) (c : Nat) (W : World), l.length ≤ c → c ≤ 9223372036854775807 → RA2 W (some ⟨A, 0, none⟩) l → Calls Try.prog 12 #[.slice (some ⟨A, 0, none⟩) l.length c, .int .i64 f, .int .i64 t] W fun e W' => e = .returned (.tuple #[.int .i64 va, .bool vb]) ∧ Below W.heap.size W W') ∧
    (∀ (A : Nat) (c : Nat) (W : World), l.length ≤ c → c ≤ 9223372036854775807 → RA2 W (some ⟨A, 0, none⟩) l → Calls Try.prog 11 #[.slice (some ⟨A, 0, none⟩) l.length c, .int .i64 f, .int .i64 t] W fun e W' => e = .returned (.tuple #[.int .i64 va, .bool vb]) ∧ Below W.heap.size W W') := by
  cases hc : twoB l f t with
  | false => exact ⟨0, false, fun A c W _ _ hA => specTimeBetween_no (some ⟨A, 0, none⟩) l c f t W hbig hA hc, fun A c W _ _ hA => implTimeBetween_no (some ⟨A, 0, none⟩) l c f t W hbig hA hc⟩
  | true =>
    exact ⟨timeT l t - timeT l f, true, fun A c W _ _ hA => specTimeBetween_yes A l c f t W hbig hA hc, fun A c W _ _ hA => implTimeBetween_yes A l c f t W hbig hA hc⟩

end Go.Proofs.Ytakmlgkcinjecaa
