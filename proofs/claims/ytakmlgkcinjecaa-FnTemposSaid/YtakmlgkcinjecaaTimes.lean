/- Contracts: the change of a step and the time of a step, of the model and of the program; TempoAt, TimeOf, TimeBetween, EvenTempo. -/
import Derived.Test.YtakmlgkcinjecaaTempos
import Derived.IntWalk
namespace Go.Proofs.Ytakmlgkcinjecaa
open Go.RowKit
set_option linter.unusedVariables false
set_option linter.unusedSimpArgs false

theorem lastUp_succ (l : List Nt2) (s : Int) (k : Nat) : lastUp l s (k + 1) = if stp l k ≤ s then k else lastUp l s k := rfl

set_option maxRecDepth 100000 in
set_option maxHeartbeats 1000000 in
theorem changeFor_any (A : Option Addr) (l : List Nt2) (c : Nat) (s : Int) (w : World) (hn : l.length ≤ 1048576) (hA : RA2 w A l) :
    Calls Try.prog 36 #[.slice A l.length c, .int .i64 s] w fun e w' => e = .returned (.int .i64 (atT l s : Nat)) ∧ Below w.heap.size w w' := by
  go_enter Try.func36, Try.ntmps36
  go_wp2
  go_loopw [5, 10] (fun m i wr => ∃ k : Nat, k ≤ l.length ∧ i = .int .i64 k ∧ m = .int .i64 (lastUp l s k : Nat) ∧ Below w.heap.size w wr)
    (fun _ i _ => l.length - (intOf i).toNat)
  case atStart => exact ⟨0, Nat.zero_le _, rfl, rfl, Below.refl _ _⟩
  case round =>
    obtain ⟨k, hk, rfl, rfl, hb⟩ := hrel
    by_cases hlt : k < l.length
    · have hx : l[k]? = some l[k] := List.getElem?_eq_getElem hlt
      generalize l[k] = x at hx
      obtain ⟨a, n⟩ := x
      obtain ⟨g, o, rfl, hg, h0, h1⟩ := (hA.below hb) k _ hx
      simp only at h0 h1
      have hst : stp l k = a := stp_of hx
      by_cases hle : a ≤ s
      · have HL := Lib.hid (show lastUp l s (k + 1) = k by rw [lastUp_succ, hst, if_pos hle])
        clear hst hx
        go_wp2
        go_roundw
        case rel => exact ⟨k + 1, by omega, by go_num, by rw [HL.out], hb.alloc hb.size _⟩
        case measure => simp [intOf]; omega
      · have HL := Lib.hid (show lastUp l s (k + 1) = lastUp l s k by rw [lastUp_succ, hst, if_neg hle])
        clear hst hx
        go_wp2
        go_roundw
        case rel => exact ⟨k + 1, by omega, by go_num, by rw [HL.out], hb.alloc hb.size _⟩
        case measure => simp [intOf]; omega
    · obtain rfl : k = l.length := by omega
      go_wp2
      go_ret
      exact ⟨rfl, hb⟩

set_option maxRecDepth 100000 in
set_option maxHeartbeats 1000000 in
theorem teAt_any (A : Option Addr) (l : List Nt2) (c : Nat) (s : Int) (w : World) (h : Tmp l) (h0 : 0 ≤ s) (hA : RA2 w A l) :
    Calls Try.prog 43 #[.slice A l.length c, .int .i64 s] w fun e w' => e = .returned (.int .i64 (atT l s : Nat)) ∧ w = w' := by
  have hfew := h.few
  have hj := atT_lt h.pos s
  have HLE : Hid (∀ i, i ≤ atT l s → stp l i ≤ s) := by
    refine Lib.hid fun i hi => ?_
    have := atT_le h h0
    rcases Nat.lt_or_ge i (atT l s) with h' | h'
    · have := h.mono h' hj; omega
    · obtain rfl : i = atT l s := by omega
      exact this
  have HGT : Hid (∀ i, atT l s < i → i < l.length → s < stp l i) := Lib.hid fun i hi hl => atT_gt hi hl
  generalize atT l s = j at *
  clear h
  go_enter Try.func43, Try.ntmps43
  go_wp2
  go_loop [5] (fun i => ∃ k : Nat, k ≤ j ∧ i = .int .i64 k) (fun i => l.length - (intOf i).toNat)
  case atStart => exact ⟨0, Nat.zero_le _, rfl⟩
  case round =>
    obtain ⟨k, hk, rfl⟩ := hrel
    by_cases hlt : k + 1 < l.length
    · have hx : l[k + 1]? = some l[k + 1] := List.getElem?_eq_getElem hlt
      generalize l[k + 1] = x at hx
      obtain ⟨a, n⟩ := x
      obtain ⟨g, o, rfl, hg, c0, c1⟩ := hA (k + 1) _ hx
      simp only at c0 c1
      have hst : stp l (k + 1) = a := stp_of hx
      have i1 : (0 : Int) ≤ (k : Int) + 1 := by omega
      have i2 : (k : Int) + 1 < (l.length : Int) := by omega
      by_cases hkj : k < j
      · have hle : a ≤ s := by have := HLE.out (k + 1) (by omega); omega
        clear hst hx
        go_wp2
        go_round
        case rel => exact ⟨k + 1, by omega, by go_num⟩
        case measure => simp [intOf]; omega
      · obtain rfl : k = j := by omega
        have hgt : s < a := by have := HGT.out (k + 1) (by omega) hlt; omega
        clear hst hx
        go_wp2
        go_ret
        exact ⟨rfl, rfl⟩
    · obtain rfl : k = j := by omega
      have i2 : (l.length : Int) ≤ (k : Int) + 1 := by omega
      go_wp2
      go_ret
      exact ⟨rfl, rfl⟩

/-- What the program's sum has left to add: the part of change k. -/
theorem tmT_succ (l : List Nt2) (s : Int) (j m : Nat) : tmT l s j (m + 1) = tmT l s j m + ((if m < j then stp l (m + 1) else s) - stp l m) * lst l m := rfl

set_option maxRecDepth 100000 in
set_option maxHeartbeats 2000000 in
theorem beginOf_any (A : Option Addr) (l : List Nt2) (c : Nat) (s : Int) (w : World) (h : Tmp l) (h0 : 0 ≤ s) (hs : s ≤ 2000) (hA : RA2 w A l) :
    Calls Try.prog 22 #[.slice A l.length c, .int .i64 s] w fun e w' => e = .returned (.int .i64 (timeT l s)) ∧ Below w.heap.size w w' := by
  have hfew := h.few
  have hj := atT_lt h.pos s
  have HT : Hid (timeT l s = tmT l s (atT l s) (atT l s + 1)) := Lib.hid rfl
  have HP := Lib.hid fun m (hm : m ≤ atT l s) => tmT_part h h0 hs hm
  have HB := Lib.hid fun m (hm : m ≤ atT l s + 1) => tmT_bnd h h0 hs hm
  have HBD := Lib.hid (timeT_bnd h h0 hs)
  have HST := Lib.hid h.step
  have HLS := Lib.hid h.last
  go_enter Try.func22, Try.ntmps22
  go_wp2_with (go_at_call 36; refine (changeFor_any _ _ _ _ _ (by omega) hA).mono ?_; rintro e w1 ⟨rfl, hb1⟩)
  clear h
  generalize hTT : timeT l s = T at *
  have HTT := Lib.hid hTT
  clear hTT
  generalize atT l s = j at *
  have hA1 := hA.below hb1
  go_loopw [5, 6, 7] (fun t u i wr => ∃ (m : Nat) (x : Int), m ≤ j + 1 ∧ x + 1 = m ∧ i = .int .i64 x ∧ t = .int .i64 (T - tmT l s j m) ∧ (∃ z : Int, u = .int .i64 z ∧ z = if m ≤ j then stp l m else s) ∧ Below w.heap.size w wr)
    (fun _ _ i _ => (intOf i + 1).toNat)
  case atStart => exact ⟨j + 1, j, Nat.le_refl _, by omega, rfl, by rw [HT.out]; simp, ⟨s, rfl, by rw [if_neg (by omega)]⟩, hb1⟩
  case round =>
    obtain ⟨m, x, hm, hx, rfl, rfl, ⟨z, rfl, hz⟩, hb⟩ := hrel
    rcases m with _ | k
    · obtain rfl : x = -1 := by omega
      clear hx hz
      go_wp2
      go_ret
      exact ⟨ret_int (by first | (rw [HTT.out]; simp [tmT]) | simp [tmT]), hb⟩
    · obtain rfl : x = (k : Int) := by omega
      have hp := HP.out k (by omega)
      have hB1 := HB.out k (by omega)
      have hB2 := HB.out (k + 1) (by omega)
      have hBD := HBD.out
      have HS := Lib.hid (tmT_succ l s j k)
      have hxx : l[k]? = some l[k] := List.getElem?_eq_getElem (by omega)
      generalize l[k] = y at hxx
      obtain ⟨a, n⟩ := y
      have hz' : z = (if k < j then stp l (k + 1) else s) := by
        rw [hz]; by_cases hkj : k < j
        · rw [if_pos (by omega), if_pos hkj]
        · rw [if_neg (by omega), if_neg hkj]
      have hs' := HS.out
      rw [← hz', stp_of hxx, lst_of hxx] at hp hs'
      have HK := Lib.hid (stp_of hxx)
      obtain ⟨g, o, rfl, hg, c0, c1⟩ := (hA.below hb) k _ hxx
      simp only at c0 c1 hp hs' HK
      have HS2 : Hid (tmT l s j (k + 1) = tmT l s j k + (z - a) * n) := Lib.hid hs'
      have hxI : (k : Int) < (l.length : Int) := by omega
      have hst := HST.out k (by omega)
      rw [stp_of hxx] at hst
      simp only at hst
      generalize hq : (z - a) * n = q at *
      have HQ := Lib.hid hq
      have w1 : IntKind.i64.wrap (z - a) = z - a := IntWalk.i64_in _ (by omega)
      have w2 : IntKind.i64.wrap ((z - a) * n) = q := by rw [hq]; exact IntWalk.i64_in _ (by omega)
      have w3 : IntKind.i64.wrap (T - tmT l s j (k + 1) + q) = T - tmT l s j (k + 1) + q := IntWalk.i64_in _ (by omega)
      clear hx hz hz' hs' hq hxx HS
      go_wp2_with fail
      go_quiet (fail)
      go_wp2
      go_roundw
      case rel => exact ⟨k, (k : Int) - 1, by omega, by omega, rfl, by have := HS2.out; congr 1; first | omega | (have := HQ.out; omega), ⟨a, rfl, by rw [if_pos (by omega), HK.out]⟩, ⟨hb.os, hb.tape, hb.output, hb.size, hb.block⟩⟩
      case measure => simp [intOf]

set_option maxHeartbeats 400000 in
theorem l1Least_any (a b : Int) (w : World) :
    Calls Try.prog 45 #[.int .i64 a, .int .i64 b] w fun e w' => e = .returned (.int .i64 (min a b)) ∧ w = w' := by
  by_cases h : a < b
  all_goals
    go_enter Try.func45, Try.ntmps45
    go_wp2
    go_ret
    exact ⟨ret_int (by omega), rfl⟩

/-- The model's part of change k: its end is that of the next change, where this one is not behind the step. -/
theorem tm_round {l : List Nt2} (h : Tmp l) {s : Int} (h0 : 0 ≤ s) (hs : s ≤ 2000) {k : Nat} (hk : k < l.length) {E : Int} (hE : E = if k + 1 < l.length then min s (stp l (k + 1)) else s) :
    (stp l k < E → tmT l s (atT l s) (min k (atT l s + 1)) + (E - stp l k) * lst l k = tmT l s (atT l s) (min (k + 1) (atT l s + 1)) ∧ 0 ≤ (E - stp l k) * lst l k ∧ (E - stp l k) * lst l k ≤ 2000000000) ∧
    (E ≤ stp l k → tmT l s (atT l s) (min k (atT l s + 1)) = tmT l s (atT l s) (min (k + 1) (atT l s + 1))) := by
  have hj := atT_lt h.pos s
  have hle := atT_le h h0
  rcases Nat.lt_trichotomy k (atT l s) with hlt | heq | hgt
  · have hm : stp l (k + 1) ≤ s := by
      rcases Nat.lt_or_ge (k + 1) (atT l s) with h' | h'
      · have := h.mono h' hj; omega
      · rw [show k + 1 = atT l s by omega]; exact hle
    have hE' : E = stp l (k + 1) := by rw [hE, if_pos (by omega)]; omega
    have hp := tmT_part h h0 hs (m := k) (by omega)
    rw [if_pos hlt] at hp
    rw [show min k (atT l s + 1) = k by omega, show min (k + 1) (atT l s + 1) = k + 1 by omega, tmT_succ, if_pos hlt, hE']
    have := h.up k (by omega)
    exact ⟨fun _ => ⟨rfl, hp.2.2.1, hp.2.2.2⟩, fun h' => by omega⟩
  · have hE' : E = s := by
      rw [hE]
      split
      · have := atT_gt (show atT l s < k + 1 by omega) (by assumption); omega
      · rfl
    have hp := tmT_part h h0 hs (m := k) (by omega)
    rw [if_neg (by omega)] at hp
    rw [show min k (atT l s + 1) = k by omega, show min (k + 1) (atT l s + 1) = k + 1 by omega, tmT_succ, if_neg (by omega), hE']
    refine ⟨fun _ => ⟨rfl, hp.2.2.1, hp.2.2.2⟩, fun h' => ?_⟩
    have : s - stp l k = 0 := by rw [heq] at h' ⊢; omega
    rw [this]; simp
  · have hg := atT_gt hgt hk
    have hE' : E ≤ s := by
      rw [hE]; split <;> omega
    rw [show min k (atT l s + 1) = atT l s + 1 by omega, show min (k + 1) (atT l s + 1) = atT l s + 1 by omega]
    exact ⟨fun h' => by omega, fun _ => rfl⟩

set_option maxRecDepth 100000 in
set_option maxHeartbeats 2000000 in
theorem teTime_any (A : Option Addr) (l : List Nt2) (c : Nat) (s : Int) (w : World) (h : Tmp l) (h0 : 0 ≤ s) (hs : s ≤ 2000) (hA : RA2 w A l) :
    Calls Try.prog 25 #[.slice A l.length c, .int .i64 s] w fun e w' => e = .returned (.int .i64 (timeT l s)) ∧ Below w.heap.size w w' := by
  have hfew := h.few
  have HR := Lib.hid fun k (hk : k < l.length) E (hE : E = if k + 1 < l.length then min s (stp l (k + 1)) else s) => tm_round h h0 hs hk hE
  have HF : Hid (tmT l s (atT l s) (min l.length (atT l s + 1)) = timeT l s) := Lib.hid (by
    have hj := atT_lt h.pos s
    rw [show min l.length (atT l s + 1) = atT l s + 1 by omega]; rfl)
  have HB := Lib.hid fun m (hm : m ≤ atT l s + 1) => tmT_bnd h h0 hs hm
  have HST := Lib.hid h.step
  clear h
  generalize timeT l s = T at *
  generalize atT l s = j at *
  go_enter Try.func25, Try.ntmps25
  go_wp2
  go_loopw [5, 11] (fun t i wr => ∃ k : Nat, k ≤ l.length ∧ i = .int .i64 k ∧ t = .int .i64 (tmT l s j (min k (j + 1))) ∧ Below w.heap.size w wr)
    (fun _ i _ => l.length - (intOf i).toNat)
  case atStart => exact ⟨0, Nat.zero_le _, rfl, by simp [tmT], Below.refl _ _⟩
  case round =>
    obtain ⟨k, hk, rfl, rfl, hb⟩ := hrel
    by_cases hlt : k < l.length
    · have hx : l[k]? = some l[k] := List.getElem?_eq_getElem hlt
      generalize l[k] = x at hx
      obtain ⟨a, n⟩ := x
      obtain ⟨g, o, rfl, hg, c0, c1⟩ := (hA.below hb) k _ hx
      simp only at c0 c1
      have hB := HB.out (min k (j + 1)) (by omega)
      have hR := HR.out k hlt
      have hS := HST.out k hlt
      rw [stp_of hx, lst_of hx] at hR
      rw [stp_of hx] at hS
      simp only at hR hS
      clear hx
      generalize hT1 : tmT l s j (min (k + 1) (j + 1)) = T1 at *
      have HT1 := Lib.hid hT1
      clear hT1
      generalize tmT l s j (min k (j + 1)) = T0 at *
      by_cases hk1 : k + 1 < l.length
      · have hy : l[k + 1]? = some l[k + 1] := List.getElem?_eq_getElem hk1
        generalize l[k + 1] = y at hy
        obtain ⟨b, n'⟩ := y
        obtain ⟨_, d0, d1⟩ := ((hA.below hb).at) (k + 1) _ hy
        simp only at d0 d1
        have hR := hR (min s b) (by rw [if_pos hk1, stp_of hy])
        have hS' := HST.out (k + 1) hk1
        rw [stp_of hy] at hS'
        simp only at hS'
        have i1 : (0 : Int) ≤ (k : Int) + 1 := by omega
        have i2 : (k : Int) + 1 < (l.length : Int) := by omega
        clear hy
        have HL := Lib.hid (fun w => l1Least_any s b w)
        have hm1 : min s b ≤ 2000 := by omega
        have hm0 : 0 ≤ min s b := by omega
        generalize min s b = E at *
        by_cases hc : a < E
        · obtain ⟨he, hq0, hq1⟩ := hR.1 hc
          generalize hq : (E - a) * n = q at *
          have HE := Lib.hid he
          have HQ := Lib.hid hq
          have w1 : IntKind.i64.wrap ((E - a) * n) = q := by rw [hq]; exact IntWalk.i64_in _ (by omega)
          clear hR he hq
          go_wp2_with (go_at_call 45; refine (HL.out _).mono ?_; rintro e w1 ⟨rfl, rfl⟩)
          go_roundw
          case rel => exact ⟨k + 1, by omega, by go_num, by rw [HT1.out]; all_goals (first | rfl | (congr 1 <;> first | exact HE.out | exact HE.out.symm | omega)), hb.alloc hb.size _⟩
          case measure => simp [intOf]; omega
        · have hc' : E ≤ a := by omega
          have HE := Lib.hid (hR.2 hc')
          clear hR
          go_wp2_with (go_at_call 45; refine (HL.out _).mono ?_; rintro e w1 ⟨rfl, rfl⟩)
          go_roundw
          case rel => exact ⟨k + 1, by omega, by go_num, by rw [HT1.out]; all_goals (first | rfl | (congr 1 <;> first | exact HE.out | exact HE.out.symm | omega)), hb.alloc hb.size _⟩
          case measure => simp [intOf]; omega
      · have hR := hR s (by rw [if_neg hk1])
        have i2 : (l.length : Int) ≤ (k : Int) + 1 := by omega
        obtain ⟨E, hEs⟩ : ∃ E, E = s := ⟨s, rfl⟩
        subst hEs
        by_cases hc : a < E
        · obtain ⟨he, hq0, hq1⟩ := hR.1 hc
          generalize hq : (E - a) * n = q at *
          have HE := Lib.hid he
          have HQ := Lib.hid hq
          have w1 : IntKind.i64.wrap ((E - a) * n) = q := by rw [hq]; exact IntWalk.i64_in _ (by omega)
          clear hR he hq
          go_wp2
          go_roundw
          case rel => exact ⟨k + 1, by omega, by go_num, by rw [HT1.out]; all_goals (first | rfl | (congr 1 <;> first | exact HE.out | exact HE.out.symm | omega)), hb.alloc hb.size _⟩
          case measure => simp [intOf]; omega
        · have hc' : E ≤ a := by omega
          have HE := Lib.hid (hR.2 hc')
          clear hR
          go_wp2
          go_roundw
          case rel => exact ⟨k + 1, by omega, by go_num, by rw [HT1.out]; all_goals (first | rfl | (congr 1 <;> first | exact HE.out | exact HE.out.symm | omega)), hb.alloc hb.size _⟩
          case measure => simp [intOf]; omega
    · obtain rfl : k = l.length := by omega
      go_wp2
      go_ret
      exact ⟨ret_int HF.out, hb⟩

end Go.Proofs.Ytakmlgkcinjecaa
