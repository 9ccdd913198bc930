/- BestTransposition: the program's function, its closure and the search that calls it. -/
import Derived.Test.YtbdffmacpajebaaDoorBest
namespace Go.Proofs.YtbdffmacpajebaaDoor
open Go.RowKit Go.Sort
set_option linter.unusedVariables false
set_option linter.unusedSimpArgs false

theorem bestS_less {F : Int → Int} {a q b : Int} (h : F b < q) : bestS F (a, q) b = (b, F b) := by unfold bestS; rw [if_pos h]
theorem bestS_more {F : Int → Int} {a q b : Int} (h : ¬ F b < q) : bestS F (a, q) b = (a, q) := by unfold bestS; rw [if_neg h]

theorem index_two0 (a b : Int) (w : World) : (Instr.index 82 (.agg #[.int .i64 a, .int .i64 b]) (.int .i64 0)).run Tryd.prog w = .ok (.int .i64 a) w := by
  have hz : ∀ w, (Go.sizeOf 3).run Tryd.prog w = .ok 1 w := Tryd.sizeOf3
  have ha : ∀ w, (isAgg 3).run Tryd.prog w = .ok false w := Tryd.isAgg3
  simp [Instr.index, go_sem, run_underlying Tryd.underlying82, asIntOf, hz, part, ha]
theorem index_two1 (a b : Int) (w : World) : (Instr.index 82 (.agg #[.int .i64 a, .int .i64 b]) (.int .i64 1)).run Tryd.prog w = .ok (.int .i64 b) w := by
  have hz : ∀ w, (Go.sizeOf 3).run Tryd.prog w = .ok 1 w := Tryd.sizeOf3
  have ha : ∀ w, (isAgg 3).run Tryd.prog w = .ok false w := Tryd.isAgg3
  simp [Instr.index, go_sem, run_underlying Tryd.underlying82, asIntOf, hz, part, ha]

/-- What the closure has captured: an instrument and a score, each in a variable of its own. -/
structure Held (w : World) (bi bl : Nat) (A : Option Addr) (l : List Int) (c : Nat) (r : Int) (M : Option Addr) (m : List Nt) (d : Nat) : Prop where
  i0 : w.cell? ⟨bi, 0, none⟩ = some (.slice A l.length c)
  i1 : w.cell? ⟨bi, 1, none⟩ = some (.int .i64 r)
  l0 : w.cell? ⟨bl, 0, none⟩ = some (.slice M m.length d)
  hi : bi < w.heap.size
  hl : bl < w.heap.size
  ri : RI w A l
  ra : RA w M m
theorem Held.below {w w' : World} {bi bl : Nat} {A : Option Addr} {l : List Int} {c : Nat} {r : Int} {M : Option Addr} {m : List Nt} {d : Nat} (h : Held w bi bl A l c r M m d) (hb : Below w.heap.size w w') : Held w' bi bl A l c r M m d :=
  ⟨(hb.cell (p := ⟨bi, 0, none⟩) h.hi).trans h.i0, (hb.cell (p := ⟨bi, 1, none⟩) h.hi).trans h.i1, (hb.cell (p := ⟨bl, 0, none⟩) h.hl).trans h.l0, Nat.lt_of_lt_of_le h.hi hb.size, Nat.lt_of_lt_of_le h.hl hb.size, h.ri.below hb, h.ra.below hb⟩

theorem egClo (args : Array Value) (w : World) : (callFunc 53 args).run Tryd.prog w = .ok (.enter 53 args) w :=
  enters_of Tryd.func53 (by kernel_rfl) rfl args w

set_option maxRecDepth 100000 in
set_option maxHeartbeats 2000000 in
theorem clo_any (bi bl : Nat) (A : Option Addr) (l : List Int) (c : Nat) (r : Int) (M : Option Addr) (m : List Nt) (d : Nat) (b : Int) (w : World) (hn : l.length ≤ 1048576) (hg : Good m) (h : Held w bi bl A l c r M m d) (hb1 : -100 ≤ b) (hb2 : b ≤ 100) :
    Calls Tryd.prog 53 #[.int .i64 b, .pointer (some ⟨bi, 0, none⟩), .pointer (some ⟨bl, 0, none⟩)] w fun e w' => e = .returned (.int .i64 (lossI l m b)) ∧ Below w.heap.size w w' := by
  obtain ⟨i0, i1, l0, hi, hl, ri, ra⟩ := h
  have hT := Lib.hid (trueN_loss l m b hg.2)
  go_enter Tryd.func53, Tryd.ntmps53
  go_wp2_with (first
    | (go_at_call 49; refine (lostWith_any _ _ _ _ _ _ _ _ _ hn ri ra hg hb1 hb2).mono ?_; rintro e w4 ⟨rfl, hb4⟩)
    | (go_at_call 48; refine (countLost_any _ _).mono ?_; rw [hT.out]; rintro e w5 ⟨rfl, hb5⟩))
  go_ret
  exact ⟨rfl, hb4.trans (hb5.mono hb4.size)⟩

set_option maxRecDepth 100000 in
set_option maxHeartbeats 4000000 in
theorem least_any (n : Nat) (bi bl : Nat) (A : Option Addr) (l : List Int) (c : Nat) (r : Int) (M : Option Addr) (m : List Nt) (d : Nat) (w : World) (hn : l.length ≤ 1048576) (hg : Good m) (h : Held w bi bl A l c r M m d) (hn1 : n ≤ 50) :
    Calls Tryd.prog 52 #[.int .i64 (n : Int), .func (.func 53) #[] #[.pointer (some ⟨bi, 0, none⟩), .pointer (some ⟨bl, 0, none⟩)]] w fun e w' => e = .returned (.tuple #[.int .i64 (bestL (lossI l m) (ordL n)).1, .int .i64 (bestL (lossI l m) (ordL n)).2]) ∧ Below w.heap.size w w' := by
  have hfn := egClo
  have h30 := hg.2
  have hf0 : ∀ x, 0 ≤ lossI l m x ∧ lossI l m x ≤ 30 := fun x => by have := lossI_bound l m x; omega
  have HC := Lib.hid (fun (b : Int) (W : World) (h : Held W bi bl A l c r M m d) (h1 : -100 ≤ b) (h2 : b ≤ 100) => clo_any bi bl A l c r M m d b W hn hg h h1 h2)
  have H2 := Lib.hid (fun k => bestL_two (lossI l m) k)
  have HI := Lib.hid (fun k => bestL_inv (lossI l m) (fun s => 0 ≤ s.2 ∧ s.2 ≤ 30) (ordL k) (hf0 0) (fun x _ => hf0 x))
  have HZ := Lib.hid (show bestL (lossI l m) (ordL 0) = (0, lossI l m 0) from rfl)
  generalize hF : lossI l m = F at *
  clear hF
  go_enter Tryd.func52, Tryd.ntmps52
  go_wp2_with (go_at_call 53; refine (HC.out _ _ h (by omega) (by omega)).mono ?_; rintro e w1 ⟨rfl, hb1⟩)
  have h1 := h.below hb1
  go_loopw [6, 7, 8] (fun a q i wr => ∃ k : Nat, k ≤ n ∧ i = .int .i64 ((k : Int) + 1) ∧ a = .int .i64 (bestL F (ordL k)).1 ∧ q = .int .i64 (bestL F (ordL k)).2 ∧ Below w1.heap.size w1 wr)
    (fun _ _ i _ => n + 1 - (intOf i).toNat)
  case atStart => exact ⟨0, Nat.zero_le _, rfl, (by rw [HZ.out]), (by rw [HZ.out]), Below.refl _ _⟩
  case round =>
    obtain ⟨k, hk, rfl, rfl, rfl, hb⟩ := hrel
    by_cases hlt : k < n
    · have t1 : (k : Int) + 1 ≤ (n : Int) := by omega
      have hR := h1.below hb
      have hix0 := index_two0
      have hix1 := index_two1
      have hs := H2.out k
      have hsb := HI.out k
      have hv1 := hf0 (-((k : Int) + 1))
      have hv2 := hf0 ((k : Int) + 1)
      generalize bestL F (ordL k) = s at *
      obtain ⟨s1, s2⟩ := s
      simp only at hsb
      by_cases p1 : F (-((k : Int) + 1)) < s2
      · rw [bestS_less p1] at hs
        by_cases p2 : F ((k : Int) + 1) < F (-((k : Int) + 1))
        · rw [bestS_less p2] at hs
          have HS := Lib.hid hs
          clear hs
          go_wp2_with fail
          refine wp_loop_rounds 3 ?_
          rw [rounds_succ]
          go_wp2_with (go_at_call 53; refine (HC.out _ wr hR (by omega) (by omega)).mono ?_; rintro e w3 ⟨rfl, hb3⟩)
          have hR3 := hR.below hb3
          rw [rounds_succ]
          go_wp2_with (go_at_call 53; refine (HC.out _ w3 hR3 (by omega) (by omega)).mono ?_; rintro e w4 ⟨rfl, hb4⟩)
          have hb34 := hb.trans ((hb3.trans (hb4.mono hb3.size)).mono hb.size)
          rw [rounds_succ]
          go_wp2
          go_roundw
          case rel => exact ⟨k + 1, by omega, by first | go_num | (congr 1; omega), (by rw [HS.out]), (by rw [HS.out]), hb34⟩
          case measure => simp [intOf]; omega
        · rw [bestS_more p2] at hs
          have HS := Lib.hid hs
          clear hs
          go_wp2_with fail
          refine wp_loop_rounds 3 ?_
          rw [rounds_succ]
          go_wp2_with (go_at_call 53; refine (HC.out _ wr hR (by omega) (by omega)).mono ?_; rintro e w3 ⟨rfl, hb3⟩)
          have hR3 := hR.below hb3
          rw [rounds_succ]
          go_wp2_with (go_at_call 53; refine (HC.out _ w3 hR3 (by omega) (by omega)).mono ?_; rintro e w4 ⟨rfl, hb4⟩)
          have hb34 := hb.trans ((hb3.trans (hb4.mono hb3.size)).mono hb.size)
          rw [rounds_succ]
          go_wp2
          go_roundw
          case rel => exact ⟨k + 1, by omega, by first | go_num | (congr 1; omega), (by rw [HS.out]), (by rw [HS.out]), hb34⟩
          case measure => simp [intOf]; omega
      · rw [bestS_more p1] at hs
        by_cases p2 : F ((k : Int) + 1) < s2
        · rw [bestS_less p2] at hs
          have HS := Lib.hid hs
          clear hs
          go_wp2_with fail
          refine wp_loop_rounds 3 ?_
          rw [rounds_succ]
          go_wp2_with (go_at_call 53; refine (HC.out _ wr hR (by omega) (by omega)).mono ?_; rintro e w3 ⟨rfl, hb3⟩)
          have hR3 := hR.below hb3
          rw [rounds_succ]
          go_wp2_with (go_at_call 53; refine (HC.out _ w3 hR3 (by omega) (by omega)).mono ?_; rintro e w4 ⟨rfl, hb4⟩)
          have hb34 := hb.trans ((hb3.trans (hb4.mono hb3.size)).mono hb.size)
          rw [rounds_succ]
          go_wp2
          go_roundw
          case rel => exact ⟨k + 1, by omega, by first | go_num | (congr 1; omega), (by rw [HS.out]), (by rw [HS.out]), hb34⟩
          case measure => simp [intOf]; omega
        · rw [bestS_more p2] at hs
          have HS := Lib.hid hs
          clear hs
          go_wp2_with fail
          refine wp_loop_rounds 3 ?_
          rw [rounds_succ]
          go_wp2_with (go_at_call 53; refine (HC.out _ wr hR (by omega) (by omega)).mono ?_; rintro e w3 ⟨rfl, hb3⟩)
          have hR3 := hR.below hb3
          rw [rounds_succ]
          go_wp2_with (go_at_call 53; refine (HC.out _ w3 hR3 (by omega) (by omega)).mono ?_; rintro e w4 ⟨rfl, hb4⟩)
          have hb34 := hb.trans ((hb3.trans (hb4.mono hb3.size)).mono hb.size)
          rw [rounds_succ]
          go_wp2
          go_roundw
          case rel => exact ⟨k + 1, by omega, by first | go_num | (congr 1; omega), (by rw [HS.out]), (by rw [HS.out]), hb34⟩
          case measure => simp [intOf]; omega
    · obtain rfl : k = n := by omega
      have t1 : ¬ (k : Int) + 1 ≤ (k : Int) := by omega
      go_wp2
      go_ret2
      exact ⟨rfl, hb1.trans (hb.mono hb1.size)⟩

set_option maxRecDepth 100000 in
set_option maxHeartbeats 2000000 in
theorem implBest_any (A : Option Addr) (l : List Int) (c : Nat) (r : Int) (M : Option Addr) (m : List Nt) (d : Nat) (w : World) (hn : l.length ≤ 1048576) (hA : RI w A l) (hm : m.length ≤ 1048576) (hM : RA w M m) (hL : Lim w) :
    Calls Tryd.prog 32 #[.agg #[.slice A l.length c, .int .i64 r], .slice M m.length d] w fun e w' => e = .returned (.tuple (bestR l r m)) ∧ Below w.heap.size w w' := by
  have hb0 : Below w.heap.size w (w.alloc (.cells #[.slice A l.length c, .int .i64 r] 28)) := (Below.refl w.heap.size w).alloc (Nat.le_refl _) _
  obtain ⟨x0, x1, hz⟩ := Box.new w A l.length c r 28
  have hs0 : (w.alloc (.cells #[.slice A l.length c, .int .i64 r] 28)).heap.size = w.heap.size + 1 := by simp
  have hmf : ∀ (fn : Fn) (first cap : Array Value) (w : World), (Instr.makeFunc fn first cap).run Tryd.prog w = .ok (.func fn first cap) w := fun _ _ _ _ => rfl
  go_enter Tryd.func32, Tryd.ntmps32
  go_wp2_with fail
  generalize w.alloc (.cells #[.slice A l.length c, .int .i64 r] 28) = V at *
  have hbv : Below V.heap.size V (V.alloc (.cells #[.slice M m.length d] 35)) := (Below.refl _ _).alloc (Nat.le_refl _) _
  have l0 : (V.alloc (.cells #[.slice M m.length d] 35)).cell? ⟨V.heap.size, 0, none⟩ = some (.slice M m.length d) := by rw [World.cell?_alloc_new]; rfl
  have hzl : V.heap.size < (V.alloc (.cells #[.slice M m.length d] 35)).heap.size := by simp
  have x0 := (hbv.cell (p := ⟨w.heap.size, 0, none⟩) hz).trans x0
  have x1 := (hbv.cell (p := ⟨w.heap.size, 1, none⟩) hz).trans x1
  have hB0 := hb0.trans (hbv.mono hb0.size)
  rw [hs0] at l0 hzl
  generalize V.alloc (.cells #[.slice M m.length d] 35) = W at *
  have hH : Held W w.heap.size (w.heap.size + 1) A l c r M m d := ⟨x0, x1, l0, by omega, hzl, hA.below hB0, hM.below hB0⟩
  have hL := hL.below hB0
  clear x0 x1 l0 hb0 hbv hz hs0
  refine (isIns_any _ _ _ _ _ hn hH.ri hL).mono ?_
  rintro e w1 ⟨rfl, hb1⟩
  have hH := hH.below hb1
  have hB1 := hB0.trans (hb1.mono hB0.size)
  cases hg : gdI l r with
  | false =>
    have HR := Lib.hid (show bestR l r m = #[.int .i64 0, .int .i64 0, .bool false] by unfold bestR; rw [hg]; rfl)
    go_wp2
    go_ret3
    exact ⟨(by first | (rw [HR.out]; done) | (rw [HR.out]; rfl)), hB1⟩
  | true =>
    have HG := Lib.hid hg
    clear hg
    obtain ⟨i0, i1, l0, hi, hl, ri, ra⟩ := id hH
    go_wp2_with fail
    refine (isScore_any _ _ _ _ hm ra).mono ?_
    rintro e w2 ⟨rfl, hb2⟩
    have hH := hH.below hb2
    have hB2 := hB1.trans (hb2.mono hB1.size)
    clear i0 i1 l0 hi hl ri ra
    cases hgb : goodB m with
    | false =>
      have HR := Lib.hid (show bestR l r m = #[.int .i64 0, .int .i64 0, .bool false] by unfold bestR; rw [HG.out, hgb]; rfl)
      go_wp2
      go_ret3
      exact ⟨(by first | (rw [HR.out]; done) | (rw [HR.out]; rfl)), hB2⟩
    | true =>
      have hgood := (goodB_iff m).1 hgb
      have HR := Lib.hid (show bestR l r m = #[.int .i64 (bestL (lossI l m) (ordL 24)).1, .int .i64 (bestL (lossI l m) (ordL 24)).2, .bool true] by unfold bestR; rw [HG.out, hgb]; rfl)
      have HQ := Lib.hid (least_any 24 _ _ A l c r M m d w2 hn hgood hH (by omega))
      generalize bestL (lossI l m) (ordL 24) = s at *
      obtain ⟨s1, s2⟩ := s
      clear hgb
      go_wp2_with (go_at_call 52; refine HQ.out.mono ?_; rintro e w3 ⟨rfl, hb3⟩)
      go_ret3
      exact ⟨(by first | (rw [HR.out]; done) | (rw [HR.out]; rfl)), hB2.trans (hb3.mono hB2.size)⟩
end Go.Proofs.YtbdffmacpajebaaDoor
