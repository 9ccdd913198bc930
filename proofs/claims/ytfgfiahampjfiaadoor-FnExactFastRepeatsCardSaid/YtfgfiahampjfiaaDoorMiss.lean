/- MissingPitches: the model's and the program's functions have one answer, in memory of their own. -/
import Derived.Test.YtfgfiahampjfiaaDoorCommon
import Derived.Test.YtfgfiahampjfiaaDoorMisP
import Derived.Test.YtfgfiahampjfiaaDoorNtGood
import Derived.Test.YtfgfiahampjfiaaDoorIsScore
import Derived.Sort.OwnSortedInts
namespace Go.Proofs.YtfgfiahampjfiaaDoor
open Go.RowKit Go.Sort
set_option linter.unusedVariables false
set_option linter.unusedSimpArgs false

def misB (P : List Int) (x : Nt) : Bool := !hasB P x.1

set_option maxRecDepth 100000 in
set_option maxHeartbeats 1000000 in
theorem inAsked_any (A : Option Addr) (l : List Int) (c : Nat) (r : Int) (M : Option Addr) (m : List Nt) (d : Nat) (w : World) (hn : l.length ≤ 1048576) (hA : RI w A l) (hm : m.length ≤ 1048576) (hd : m.length ≤ d) (hd' : d ≤ 9223372036854775807) (hM : RA w M m) :
    Calls Tryd.prog 69 #[.agg #[.slice A l.length c, .int .i64 r], .slice M m.length d] w fun e w' => e = .returned (.bool (gdI l r && goodB m)) ∧ Below w.heap.size w w' := by
  have hb0 : Below w.heap.size w (w.alloc (.cells #[.slice A l.length c, .int .i64 r] 27)) := (Below.refl w.heap.size w).alloc (Nat.le_refl _) _
  go_enter Tryd.func69, Tryd.ntmps69
  go_wp2_with fail
  refine (inGood_any _ _ _ _ _ hn (hA.below hb0)).mono ?_
  rintro e w1 ⟨rfl, hb1⟩
  have hB1 := hb0.trans (hb1.mono hb0.size)
  cases hg : gdI l r with
  | false =>
    go_wp2
    go_ret
    exact ⟨ret_bool (by simp [hg]), hB1⟩
  | true =>
    go_wp2_with fail
    refine (ntGood_any _ _ _ _ hm hd hd' (hM.below hB1)).mono ?_
    rintro e w2 ⟨rfl, hb2⟩
    go_wp2
    go_ret
    exact ⟨ret_bool (by simp [hg]), hB1.trans (hb2.mono hB1.size)⟩

set_option maxRecDepth 100000 in
set_option maxHeartbeats 2000000 in
theorem inMissing_any (A : Option Addr) (l : List Int) (c : Nat) (r : Int) (M : Option Addr) (m : List Nt) (d : Nat) (w : World) (hn : l.length ≤ 1048576) (hA : RI w A l) (hM : RA w M m) (hg : Good m) :
    Calls Tryd.prog 70 #[.agg #[.slice A l.length c, .int .i64 r], .slice M m.length d] w fun e w' => ∃ v, e = .returned v ∧ OwnI w' w.heap.size 3 v (atF (misB l) m) ∧ Below w.heap.size w w' := by
  have h30 := hg.2
  have hb0 : Below w.heap.size w (w.alloc (.cells #[.slice A l.length c, .int .i64 r] 27)) := (Below.refl w.heap.size w).alloc (Nat.le_refl _) _
  obtain ⟨x0, x1, hz⟩ := Box.new w A l.length c r 27
  have hA := hA.below hb0
  have hM := hM.below hb0
  go_enter Tryd.func70, Tryd.ntmps70
  go_wp2_with fail
  generalize w.alloc (.cells #[.slice A l.length c, .int .i64 r] 27) = W at *
  go_loopw [5, 10] (fun a i wr => ∃ k : Nat, k ≤ m.length ∧ i = .int .i64 k ∧ OwnI wr W.heap.size 3 a (atF (misB l) (m.take k)) ∧ Below W.heap.size W wr)
    (fun _ i _ => m.length - (intOf i).toNat)
  case atStart => exact ⟨0, Nat.zero_le _, rfl, OwnI.nil _ _ _, Below.refl _ _⟩
  case round =>
    obtain ⟨k, hk, rfl, hown, hb⟩ := hrel
    by_cases hlt : k < m.length
    · have hx : m[k]? = some m[k] := List.getElem?_eq_getElem hlt
      generalize m[k] = x at hx
      have hs := atF_snoc (misB l) m k x hx
      obtain ⟨p, s, n⟩ := x
      simp only at hs
      obtain ⟨g, o, rfl, hgb, h0, h1, h2⟩ := (hM.below hb) k _ hx
      simp only at h0 h1 h2
      have i1 : (0 : Int) ≤ (k : Int) := by omega
      have i2 : (k : Int) < (m.length : Int) := by omega
      have HS := Lib.hid hs
      have HO := Lib.hid hown
      clear hs hx hown
      have hsz := atF_length (misB l) m k hk
      have hinc := Lib.hid (atF_inc (misB l) m k hk)
      have y0 := (hb.cell (p := ⟨w.heap.size, 0, none⟩) hz).trans x0
      have y1 := (hb.cell (p := ⟨w.heap.size, 1, none⟩) hz).trans x1
      have hzr : w.heap.size < wr.heap.size := Nat.lt_of_lt_of_le hz hb.size
      have hnb : Below wr.heap.size wr (wr.alloc (.cells #[.int .i64 p, .int .i64 s, .int .i64 n] 74)) := (Below.refl _ _).alloc (Nat.le_refl _) _
      have hAr := (hA.below hb).below hnb
      have hzn : wr.heap.size < (wr.alloc (.cells #[.int .i64 p, .int .i64 s, .int .i64 n] 74)).heap.size := by simp
      have p0 : (wr.alloc (.cells #[.int .i64 p, .int .i64 s, .int .i64 n] 74)).cell? ⟨wr.heap.size, 0, none⟩ = some (.int .i64 p) := by rw [World.cell?_alloc_new]; rfl
      go_wp2_with fail
      generalize wr.alloc (.cells #[.int .i64 p, .int .i64 s, .int .i64 n] 74) = W1 at *
      refine (inTrack_any _ _ _ _ _ _ hn hAr).mono ?_
      rintro e w2 ⟨rfl, hb2⟩
      have hb12 := hnb.trans (hb2.mono hnb.size)
      have p2 := (hb2.cell (p := ⟨wr.heap.size, 0, none⟩) hzn).trans p0
      clear y0 y1 h0 h1 h2 hAr p0
      cases hh : hasB l p with
      | false =>
        have ht : trk p l < 0 := by have := hasB_trk l p; simp [hh] at this; omega
        go_wp2_with (go_at_call 81; refine (l1Put_any _ _ p W.heap.size _ (by omega) (by have := hb.size; have := hb12.size; omega) (HO.out.below hb12 (Nat.le_refl _)) hinc.out).mono ?_; rintro e w3 ⟨v3, rfl, ho3, hb3⟩)
        go_roundw
        case rel =>
          refine ⟨k + 1, by omega, by go_num, ?_, hb.trans ((hb12.trans (hb3.mono hb12.size)).mono hb.size)⟩
          rw [HS.out, if_pos (by simp [misB, hh])]
          exact ho3
        case measure => simp [intOf]; omega
      | true =>
        have ht : ¬ trk p l < 0 := by have := hasB_trk l p; simp [hh] at this; omega
        go_wp2
        go_roundw
        case rel =>
          refine ⟨k + 1, by omega, by go_num, ?_, hb.trans (hb12.mono hb.size)⟩
          rw [HS.out, if_neg (by simp [misB, hh])]
          exact HO.out.below hb12 (Nat.le_refl _)
        case measure => simp [intOf]; omega
    · obtain rfl : k = m.length := by omega
      go_wp2
      go_ret
      rw [List.take_length] at hown
      exact ⟨_, rfl, hown.mono hb0.size, hb0.trans (hb.mono hb0.size)⟩

set_option maxRecDepth 100000 in
set_option maxHeartbeats 2000000 in
theorem specMiss_any (A : Option Addr) (l : List Int) (c : Nat) (r : Int) (M : Option Addr) (m : List Nt) (d : Nat) (w : World) (hn : l.length ≤ 1048576) (hA : RI w A l) (hm : m.length ≤ 1048576) (hd : m.length ≤ d) (hd' : d ≤ 9223372036854775807) (hM : RA w M m) :
    Calls Tryd.prog 26 #[.agg #[.slice A l.length c, .int .i64 r], .slice M m.length d] w fun e w' => RetI w (atF (misB l) m) (gdI l r && goodB m) e w' := by
  have hb0 : Below w.heap.size w (w.alloc (.cells #[.slice A l.length c, .int .i64 r] 27)) := (Below.refl w.heap.size w).alloc (Nat.le_refl _) _
  obtain ⟨x0, x1, hz⟩ := Box.new w A l.length c r 27
  have hA := hA.below hb0
  have hM := hM.below hb0
  go_enter Tryd.func26, Tryd.ntmps26
  go_wp2_with fail
  generalize w.alloc (.cells #[.slice A l.length c, .int .i64 r] 27) = W at *
  refine (inAsked_any _ _ _ _ _ _ _ _ hn hA hm hd hd' hM).mono ?_
  rintro e w1 ⟨rfl, hb1⟩
  have hB1 := hb0.trans (hb1.mono hb0.size)
  have y0 := (hb1.cell (p := ⟨w.heap.size, 0, none⟩) hz).trans x0
  have y1 := (hb1.cell (p := ⟨w.heap.size, 1, none⟩) hz).trans x1
  cases hg : (gdI l r && goodB m) with
  | false =>
    go_wp2
    go_ret2
    rw [hg]
    exact ⟨_, rfl, by simpa using OwnI.nil w1 w.heap.size 3, hB1⟩
  | true =>
    have hgood : Good m := (goodB_iff m).1 (by simp at hg; exact hg.2)
    have HG := Lib.hid hg
    clear hg
    go_wp2_with fail
    refine (inMissing_any _ _ _ _ _ _ _ _ hn (hA.below hb1) (hM.below hb1) hgood).mono ?_
    rintro e w2 ⟨v2, rfl, ho2, hb2⟩
    go_wp2
    go_ret2
    rw [HG.out]
    exact ⟨_, rfl, by simpa using ho2.mono hB1.size, hB1.trans (hb2.mono hB1.size)⟩
end Go.Proofs.YtfgfiahampjfiaaDoor
