/- Contracts: StepAtTime of the model and of the program (a search by halves in the library's text). -/
import Derived.Test.YtakmlgkcinjecaaTimes2
namespace Go.Proofs.Ytakmlgkcinjecaa
open Go.RowKit Go.Sort
set_option linter.unusedVariables false
set_option linter.unusedSimpArgs false

/-- The step at a time: all steps up to it begin in time, the next one doesn't. -/
structure StepIs (l : List Nt2) (t : Int) (j : Nat) : Prop where
  le : j ≤ 2000
  lo : ∀ i : Nat, i < j → timeT l ((i : Int) + 1) ≤ t
  hi : j < 2000 → t < timeT l ((j : Int) + 1)
theorem stepIs (l : List Nt2) (t : Int) : ∃ j, StepIs l t j := by
  have : ∀ n, n ≤ 2000 → ∃ j, j ≤ n ∧ (∀ i : Nat, i < j → timeT l ((i : Int) + 1) ≤ t) ∧ (j < n → t < timeT l ((j : Int) + 1)) := by
    intro n
    induction n with
    | zero => exact fun _ => ⟨0, Nat.le_refl _, fun i h => absurd h (by omega), fun h => absurd h (by omega)⟩
    | succ n ih =>
      intro hn
      obtain ⟨j, h1, h2, h3⟩ := ih (by omega)
      rcases Nat.lt_or_ge j n with h | h
      · exact ⟨j, by omega, h2, fun _ => h3 h⟩
      · obtain rfl : j = n := by omega
        by_cases hc : t < timeT l ((j : Int) + 1)
        · exact ⟨j, by omega, h2, fun _ => hc⟩
        · refine ⟨j + 1, Nat.le_refl _, fun i hi => ?_, fun h => absurd h (by omega)⟩
          rcases Nat.lt_or_ge i j with h' | h'
          · exact h2 i h'
          · obtain rfl : i = j := by omega
            omega
  obtain ⟨j, h1, h2, h3⟩ := this 2000 (Nat.le_refl _)
  exact ⟨j, h1, h2, h3⟩
theorem StepIs.up {l : List Nt2} {t : Int} {j : Nat} (h : StepIs l t j) (hT : Tmp l) {i : Nat} (hi : j ≤ i) (hn : i < 2000) : t < timeT l ((i : Int) + 1) := by
  have h1 := h.hi (by omega)
  have := timeT_le hT (a := (j : Int) + 1) (b := (i : Int) + 1) (by omega) (by omega)
  omega

set_option maxRecDepth 100000 in
set_option maxHeartbeats 1000000 in
theorem fnStep_any (h : Int) (g c : Nat) (l : List Nt2) (t : Int) (b1 b2 : Nat) (w : World) (hT : Tmp l) (h0 : 0 ≤ h) (h1 : h ≤ 1999) (hA : RA2 w (some ⟨g, 0, none⟩) l)
    (hc1 : w.cell? ⟨b1, 0, none⟩ = some (.slice (some ⟨g, 0, none⟩) l.length c)) (hc2 : w.cell? ⟨b2, 0, none⟩ = some (.int .i64 t)) :
    Calls Try.prog 31 #[.int .i64 h, .pointer (some ⟨b1, 0, none⟩), .pointer (some ⟨b2, 0, none⟩)] w fun e w' => e = .returned (.bool (decide (t < timeT l (h + 1)))) ∧ Below w.heap.size w w' := by
  have cN : ∀ d os, Calls Try.prog 22 #[.slice (some ⟨g, 0, none⟩) l.length c, .int .i64 (h + 1)] (grow (redrawn w d) os) fun e w'' => e = .returned (.int .i64 (timeT l (h + 1))) ∧ ∃ q : Regrown, w'' = grow (redrawn w q.d) q.os :=
    fun d os => Calls.regrown_of (beginOf_any (some ⟨g, 0, none⟩) l c (h + 1) _ hT (by omega) (by omega) (hA.below (below_regrown w d os)))
  have x1 := cell_regrown hc1
  have x2 := cell_regrown hc2
  have w1 : IntKind.i64.wrap (h + 1) = h + 1 := IntWalk.i64_in _ (by omega)
  generalize timeT l (h + 1) = T at *
  clear hA hc1 hc2 hT
  go_enter Try.func31, Try.ntmps31
  go_wp2_with fail
  refine wp_region_quiet_below (by kernel_rfl) (by kernel_rfl) ?_
  repeat (go_big_quiet_step (exact (cN _ _)))
  refine wpQuiet_nil ?_
  intro _ hw'
  obtain ⟨q, hw''⟩ := hw'
  subst hw''
  go_wp2
  go_ret
  exact ⟨ret_bool (by simp), below_regrown w q.d q.os⟩

set_option maxRecDepth 100000 in
set_option maxHeartbeats 1000000 in
theorem search_any (g c : Nat) (l : List Nt2) (t : Int) (j : Nat) (b1 b2 : Nat) (w : World) (hT : Tmp l) (hJ : StepIs l t j) (hA : RA2 w (some ⟨g, 0, none⟩) l)
    (hc1 : w.cell? ⟨b1, 0, none⟩ = some (.slice (some ⟨g, 0, none⟩) l.length c)) (hc2 : w.cell? ⟨b2, 0, none⟩ = some (.int .i64 t)) (hb1 : b1 < w.heap.size) (hb2 : b2 < w.heap.size) :
    Calls Try.prog 30 #[.int .i64 2000, .func (.func 31) #[] #[.pointer (some ⟨b1, 0, none⟩), .pointer (some ⟨b2, 0, none⟩)]] w fun e w' => e = .returned (.int .i64 j) ∧ Below w.heap.size w w' := by
  have hj := hJ.le
  have HF := Lib.hid fun (W : World) (h : Nat) (hW : Below w.heap.size w W) (hh : h ≤ 1999) => fnStep_any (h : Int) g c l t b1 b2 W hT (by omega) (by omega) (hA.below hW) ((hW.cell hb1).trans hc1) ((hW.cell hb2).trans hc2)
  have HLO := Lib.hid fun i hi => hJ.lo i hi
  have HUP := Lib.hid fun i hi hn => hJ.up hT (i := i) hi hn
  clear hT hJ hA hc1 hc2
  go_enter Try.func30, Try.ntmps30
  go_wp2
  go_loopw [5, 6] (fun a b wr => ∃ x y : Nat, x ≤ j ∧ j ≤ y ∧ y ≤ 2000 ∧ a = .int .i64 x ∧ b = .int .i64 y ∧ Below w.heap.size w wr)
    (fun a b _ => (intOf b).toNat - (intOf a).toNat)
  case atStart => exact ⟨0, 2000, Nat.zero_le _, hj, Nat.le_refl _, rfl, rfl, Below.refl _ _⟩
  case round =>
    obtain ⟨x, y, hx, hy, hy2, rfl, rfl, hb⟩ := hrel
    by_cases hlt : x < y
    · obtain ⟨m, hm⟩ : ∃ m : Nat, ((x : Int) + (y : Int)) / 2 = m := ⟨(x + y) / 2, by omega⟩
      have h1 : x ≤ m := by omega
      have h2 : m < y := by omega
      have hF := HF.out wr m hb (by omega)
      by_cases hmj : m < j
      · have hd : decide (t < timeT l ((m : Int) + 1)) = false := by have := HLO.out m hmj; simp; omega
        rw [hd] at hF
        have HG := Lib.hid hF
        clear hF hd
        go_wp2_with fail
        refine HG.out.mono ?_
        rintro e w1 ⟨rfl, hb1'⟩
        go_wp2
        go_roundw
        case rel => exact ⟨m + 1, y, by omega, by omega, by omega, by go_num, rfl, hb.trans (hb1'.mono hb.size)⟩
        case measure => simp [intOf]; omega
      · have hd : decide (t < timeT l ((m : Int) + 1)) = true := by have := HUP.out m (by omega) (by omega); simpa using this
        rw [hd] at hF
        have HG := Lib.hid hF
        clear hF hd
        go_wp2_with fail
        refine HG.out.mono ?_
        rintro e w1 ⟨rfl, hb1'⟩
        go_wp2
        go_roundw
        case rel => exact ⟨x, m, by omega, by omega, by omega, rfl, rfl, hb.trans (hb1'.mono hb.size)⟩
        case measure => simp [intOf]; omega
    · obtain rfl : x = j := by omega
      go_wp2
      go_ret
      exact ⟨rfl, hb⟩

theorem areTempos_quick (A : Option Addr) (l : List Nt2) (c : Nat) (b : Bool) (hn : l.length ≤ 1048576) (h : goodT l = b) :
    Hid (∀ w : World, RA2 w A l → Calls Try.prog 18 #[.slice A l.length c] w fun e w' => e = .returned (.bool b) ∧ Below w.heap.size w w') :=
  fun w hA => by rw [← h]; exact areTempos_any A l c w hn hA
theorem teGood_quick (A : Option Addr) (l : List Nt2) (c : Nat) (b : Bool) (hn : l.length ≤ 1048576) (h : goodT l = b) :
    Hid (∀ w : World, RA2 w A l → Calls Try.prog 23 #[.slice A l.length c] w fun e w' => e = .returned (.bool b) ∧ Below w.heap.size w w') :=
  fun w hA => by rw [← h]; exact teGood_any A l c w hn hA

/-- The two variables that the program's closure holds. -/
def boxed (w : World) (A : Option Addr) (n c : Nat) (t : Int) : World := (w.alloc (.cells #[.slice A n c] 23)).alloc (.cells #[.int .i64 t] 3)
theorem boxed_facts (w : World) (A : Option Addr) (n c : Nat) (t : Int) : Below w.heap.size w (boxed w A n c t) ∧ (boxed w A n c t).heap.size = w.heap.size + 2 ∧
    (boxed w A n c t).cell? ⟨w.heap.size, 0, none⟩ = some (.slice A n c) ∧ (boxed w A n c t).cell? ⟨w.heap.size + 1, 0, none⟩ = some (.int .i64 t) := by
  refine ⟨((Below.refl _ _).alloc (Nat.le_refl _) _).alloc (by simp) _, by simp [boxed], ?_, ?_⟩
  · have hb : Below (w.alloc (.cells #[.slice A n c] 23)).heap.size (w.alloc (.cells #[.slice A n c] 23)) (boxed w A n c t) := (Below.refl _ _).alloc (Nat.le_refl _) _
    exact ((bcell hb).1 w.heap.size 0 (by simp)).trans ((World.cell?_alloc_new w _ _ 0).trans rfl)
  · have h := World.cell?_alloc_new (w.alloc (.cells #[.slice A n c] 23)) #[.int .i64 t] 3 0
    have e : (w.alloc (.cells #[.slice A n c] 23)).heap.size = w.heap.size + 1 := by simp
    rw [e] at h
    exact h.trans rfl

set_option maxRecDepth 100000 in
set_option maxHeartbeats 1000000 in
theorem implStepAtTime_no (A : Option Addr) (l : List Nt2) (c : Nat) (t : Int) (w : World) (hn : l.length ≤ 1048576) (hA : RA2 w A l) (hbad : (goodT l && decide (0 ≤ t)) = false) :
    Calls Try.prog 8 #[.slice A l.length c, .int .i64 t] w fun e w' => e = .returned (.tuple #[.int .i64 0, .bool false]) ∧ Below w.heap.size w w' := by
  obtain ⟨hB0, hz, k1, k2⟩ := boxed_facts w A l.length c t
  have HZ := Lib.hid hz
  clear hz
  cases hg : goodT l with
  | false =>
    have HG := areTempos_quick A l c false hn hg
    clear hg hbad
    go_enter Try.func8, Try.ntmps8
    go_wp2_with fail
    refine (HG.out (boxed w A l.length c t) (hA.below hB0)).mono ?_
    rintro e w1 ⟨rfl, hb1⟩
    have hB1 := hB0.trans (hb1.mono hB0.size)
    go_wp2
    exact bodyPost_ret (v := .tuple #[.int .i64 0, .bool false]) (by simp [results, Try.results8, go_sem]) rfl ⟨rfl, hB1⟩
  | true =>
    have ht : t < 0 := by simp [hg] at hbad; omega
    have HG := areTempos_quick A l c true hn hg
    clear hg hbad
    go_enter Try.func8, Try.ntmps8
    go_wp2_with fail
    refine (HG.out (boxed w A l.length c t) (hA.below hB0)).mono ?_
    rintro e w1 ⟨rfl, hb1⟩
    have hB1 := hB0.trans (hb1.mono hB0.size)
    have q2 := ((bcell hb1).1 (w.heap.size + 1) 0 (by rw [HZ.out]; omega)).trans k2
    clear k1 k2
    go_wp2
    exact bodyPost_ret (v := .tuple #[.int .i64 0, .bool false]) (by simp [results, Try.results8, go_sem]) rfl ⟨rfl, hB1⟩

set_option maxRecDepth 100000 in
set_option maxHeartbeats 1000000 in
theorem implStepAtTime_yes (A : Nat) (l : List Nt2) (c : Nat) (t : Int) (j : Nat) (w : World) (hn : l.length ≤ 1048576) (hA : RA2 w (some ⟨A, 0, none⟩) l) (hg : goodT l = true) (ht : 0 ≤ t) (hJ : StepIs l t j) :
    Calls Try.prog 8 #[.slice (some ⟨A, 0, none⟩) l.length c, .int .i64 t] w fun e w' => e = .returned (.tuple #[.int .i64 j, .bool true]) ∧ Below w.heap.size w w' := by
  obtain ⟨hB0, hz, k1, k2⟩ := boxed_facts w (some ⟨A, 0, none⟩) l.length c t
  have HG := areTempos_quick (some ⟨A, 0, none⟩) l c true hn hg
  have HS := Lib.hid fun (W : World) hA hc1 hc2 hb1 hb2 => search_any A c l t j w.heap.size (w.heap.size + 1) W (goodT.tmp hg) hJ hA hc1 hc2 hb1 hb2
  have HZ := Lib.hid hz
  clear hz hg hJ
  go_enter Try.func8, Try.ntmps8
  go_wp2_with fail
  refine (HG.out (boxed w (some ⟨A, 0, none⟩) l.length c t) (hA.below hB0)).mono ?_
  rintro e w1 ⟨rfl, hb1⟩
  have hB1 := hB0.trans (hb1.mono hB0.size)
  have q1 := ((bcell hb1).1 w.heap.size 0 (by rw [HZ.out]; omega)).trans k1
  have q2 := ((bcell hb1).1 (w.heap.size + 1) 0 (by rw [HZ.out]; omega)).trans k2
  have hz1 : w.heap.size + 1 < w1.heap.size := by have := hb1.size; rw [HZ.out] at this; omega
  clear k1 k2
  go_wp2_with fail
  refine (HS.out w1 (hA.below hB1) q1 q2 (by omega) hz1).mono ?_
  rintro e w2 ⟨rfl, hb2⟩
  have hB2 := hB1.trans (hb2.mono hB1.size)
  go_wp2
  exact bodyPost_ret (v := .tuple #[.int .i64 j, .bool true]) (by simp [results, Try.results8, go_sem]) rfl ⟨rfl, hB2⟩

set_option maxRecDepth 100000 in
set_option maxHeartbeats 1000000 in
theorem specStepAtTime_no (A : Option Addr) (l : List Nt2) (c : Nat) (t : Int) (w : World) (hn : l.length ≤ 1048576) (hA : RA2 w A l) (hbad : (goodT l && decide (0 ≤ t)) = false) :
    Calls Try.prog 9 #[.slice A l.length c, .int .i64 t] w fun e w' => e = .returned (.tuple #[.int .i64 0, .bool false]) ∧ Below w.heap.size w w' := by
  cases hg : goodT l with
  | false =>
    have HG := teGood_quick A l c false hn hg
    clear hg hbad
    go_enter Try.func9, Try.ntmps9
    go_wp2_with (go_at_call 23; refine (HG.out _ hA).mono ?_; rintro e w1 ⟨rfl, hb1⟩)
    exact bodyPost_ret (v := .tuple #[.int .i64 0, .bool false]) (by simp [results, Try.results9, go_sem]) rfl ⟨rfl, hb1⟩
  | true =>
    have ht : t < 0 := by simp [hg] at hbad; omega
    have HG := teGood_quick A l c true hn hg
    clear hg hbad
    go_enter Try.func9, Try.ntmps9
    go_wp2_with (go_at_call 23; refine (HG.out _ hA).mono ?_; rintro e w1 ⟨rfl, hb1⟩)
    exact bodyPost_ret (v := .tuple #[.int .i64 0, .bool false]) (by simp [results, Try.results9, go_sem]) rfl ⟨rfl, hb1⟩

set_option maxRecDepth 100000 in
set_option maxHeartbeats 1000000 in
theorem specStepAtTime_yes (A : Nat) (l : List Nt2) (c : Nat) (t : Int) (j : Nat) (w : World) (hn : l.length ≤ 1048576) (hA : RA2 w (some ⟨A, 0, none⟩) l) (hg : goodT l = true) (ht : 0 ≤ t) (hJ : StepIs l t j) :
    Calls Try.prog 9 #[.slice (some ⟨A, 0, none⟩) l.length c, .int .i64 t] w fun e w' => e = .returned (.tuple #[.int .i64 j, .bool true]) ∧ Below w.heap.size w w' := by
  have HG := teGood_quick (some ⟨A, 0, none⟩) l c true hn hg
  have hj := hJ.le
  have HC := Lib.hid fun (W : World) (s : Nat) (hs : s < 2000) (hA : RA2 W (some ⟨A, 0, none⟩) l) => teTime_any (some ⟨A, 0, none⟩) l c ((s : Int) + 1) W (goodT.tmp hg) (by omega) (by omega) hA
  have HJ := Lib.hid hJ
  clear hg hJ
  go_enter Try.func9, Try.ntmps9
  go_wp2_with (go_at_call 23; refine (HG.out _ hA).mono ?_; rintro e w1 ⟨rfl, hb1⟩)
  have hA1 := hA.below hb1
  go_loopw [6] (fun i wr => ∃ k : Nat, k ≤ j ∧ i = .int .i64 k ∧ Below w.heap.size w wr) (fun i _ => 2000 - (intOf i).toNat)
  case atStart => exact ⟨0, Nat.zero_le _, rfl, hb1⟩
  case round =>
    obtain ⟨k, hk, rfl, hb⟩ := hrel
    by_cases h2 : k < 2000
    · have hC := HC.out wr k h2 (hA.below hb)
      by_cases hkj : k < j
      · have hT := HJ.out.lo k hkj
        generalize timeT l ((k : Int) + 1) = T at *
        have HC2 := Lib.hid hC
        clear hC
        go_wp2_with (go_at_call 25; refine HC2.out.mono ?_; rintro e w2 ⟨rfl, hb2⟩)
        go_roundw
        case rel => exact ⟨k + 1, by omega, by go_num, hb.trans (hb2.mono hb.size)⟩
        case measure => simp [intOf]; omega
      · obtain rfl : k = j := by omega
        have hT := HJ.out.hi h2
        generalize timeT l ((k : Int) + 1) = T at *
        have HC2 := Lib.hid hC
        clear hC
        go_wp2_with (go_at_call 25; refine HC2.out.mono ?_; rintro e w2 ⟨rfl, hb2⟩)
        exact bodyPost_ret (v := .tuple #[.int .i64 k, .bool true]) (by simp [results, Try.results9, go_sem]) rfl ⟨rfl, hb.trans (hb2.mono hb.size)⟩
    · obtain rfl : k = j := by omega
      go_wp2
      exact bodyPost_ret (v := .tuple #[.int .i64 k, .bool true]) (by simp [results, Try.results9, go_sem]) rfl ⟨rfl, hb⟩

theorem stepAtTime_both (l : List Nt2) (t : Int) (hbig : l.length ≤ 1048576) : ∃ (va : Int) (vb : Bool),
    (∀ (A : Nat) (c : Nat) (W : World), l.length ≤ c → c ≤ 9223372036854775807 → RA2 W (some ⟨A, 0, none⟩) l → Calls Try.prog 9 #[.slice (some ⟨A, 0, none⟩) l.length c, .int .i64 t] W fun e W' => e = .returned (.tuple #[.int .i64 va, .bool vb]) ∧ Below W.heap.size W W') ∧
    (∀ (A : Nat) (c : Nat) (W : World), l.length ≤ c → c ≤ 9223372036854775807 → RA2 W (some ⟨A, 0, none⟩) l → Calls Try.prog 8 #[.slice (some ⟨A, 0, none⟩) l.length c, .int .i64 t] W fun e W' => e = .returned (.tuple #[.int .i64 va, .bool vb]) ∧ Below W.heap.size W W') := by
  cases hc : (goodT l && decide (0 ≤ t)) with
  | false => exact ⟨0, false, fun A c W _ _ hA => specStepAtTime_no (some ⟨A, 0, none⟩) l c t W hbig hA hc, fun A c W _ _ hA => implStepAtTime_no (some ⟨A, 0, none⟩) l c t W hbig hA hc⟩
  | true =>
    obtain ⟨hg, ht⟩ := Bool.and_eq_true_iff.1 hc
    obtain ⟨j, hJ⟩ := stepIs l t
    exact ⟨j, true, fun A c W _ _ hA => specStepAtTime_yes A l c t j W hbig hA hg (by simpa using ht) hJ, fun A c W _ _ hA => implStepAtTime_yes A l c t j W hbig hA hg (by simpa using ht) hJ⟩

end Go.Proofs.Ytakmlgkcinjecaa
