/- Contracts: the change of a step and the time of a step, of the model and of the program; TempoAt, TimeOf, TimeBetween, EvenTempo. -/
import Derived.Test.YtkefphfjpkmceaaDoorTempos
import Derived.IntWalk
namespace Go.Proofs.YtkefphfjpkmceaaDoor
open Go.RowKit
set_option linter.unusedVariables false
set_option linter.unusedSimpArgs false

theorem lastUp_succ (l : List Nt2) (s : Int) (k : Nat) : lastUp l s (k + 1) = if stp l k ≤ s then k else lastUp l s k := rfl

set_option maxRecDepth 100000 in
set_option maxHeartbeats 1000000 in
theorem changeFor_any (A : Option Addr) (l : List Nt2) (c : Nat) (s : Int) (w : World) (hn : l.length ≤ 1048576) (hA : RA2 w A l) :
    Calls Tryd.prog 22 #[.slice A l.length c, .int .i64 s] w fun e w' => e = .returned (.int .i64 (atT l s : Nat)) ∧ Below w.heap.size w w' := by
  go_enter Tryd.func22, Tryd.ntmps22
  go_wp2
  go_loopw [5, 10] (fun m i wr => ∃ k : Nat, k ≤ l.length ∧ i = .int .i64 k ∧ m = .int .i64 (lastUp l s k : Nat) ∧ Below w.heap.size w wr)
    (fun _ i _ => l.length - (intOf i).toNat)
  case atStart => exact ⟨0, Nat.zero_le _, rfl, rfl, Below.refl _ _⟩
  case round =>
    obtain ⟨k, hk, rfl, rfl, hb⟩ := hrel
    by_cases hlt : k < l.length
    · have hx : l[k]? = some l[k] := List.getElem?_eq_getElem hlt
      generalize l[k] = x at hx
      obtain ⟨a, n⟩ := x
      obtain ⟨g, o, rfl, hg, h0, h1⟩ := (hA.below hb) k _ hx
      simp only at h0 h1
      have hst : stp l k = a := stp_of hx
      by_cases hle : a ≤ s
      · have HL := Lib.hid (show lastUp l s (k + 1) = k by rw [lastUp_succ, hst, if_pos hle])
        clear hst hx
        go_wp2
        go_roundw
        case rel => exact ⟨k + 1, by omega, by go_num, by rw [HL.out], hb.alloc hb.size _⟩
        case measure => simp [intOf]; omega
      · have HL := Lib.hid (show lastUp l s (k + 1) = lastUp l s k by rw [lastUp_succ, hst, if_neg hle])
        clear hst hx
        go_wp2
        go_roundw
        case rel => exact ⟨k + 1, by omega, by go_num, by rw [HL.out], hb.alloc hb.size _⟩
        case measure => simp [intOf]; omega
    · obtain rfl : k = l.length := by omega
      go_wp2
      go_ret
      exact ⟨rfl, hb⟩

set_option maxRecDepth 100000 in
set_option maxHeartbeats 1000000 in
theorem teAt_any (A : Option Addr) (l : List Nt2) (c : Nat) (s : Int) (w : World) (h : Tmp l) (h0 : 0 ≤ s) (hA : RA2 w A l) :
    Calls Tryd.prog 13 #[.slice A l.length c, .int .i64 s] w fun e w' => e = .returned (.int .i64 (atT l s : Nat)) ∧ w = w' := by
  have hfew := h.few
  have hj := atT_lt h.pos s
  have HLE : Hid (∀ i, i ≤ atT l s → stp l i ≤ s) := by
    refine Lib.hid fun i hi => ?_
    have := atT_le h h0
    rcases Nat.lt_or_ge i (atT l s) with h' | h'
    · have := h.mono h' hj; omega
    · obtain rfl : i = atT l s := by omega
      exact this
  have HGT : Hid (∀ i, atT l s < i → i < l.length → s < stp l i) := Lib.hid fun i hi hl => atT_gt hi hl
  generalize atT l s = j at *
  clear h
  go_enter Tryd.func13, Tryd.ntmps13
  go_wp2
  go_loop [5] (fun i => ∃ k : Nat, k ≤ j ∧ i = .int .i64 k) (fun i => l.length - (intOf i).toNat)
  case atStart => exact ⟨0, Nat.zero_le _, rfl⟩
  case round =>
    obtain ⟨k, hk, rfl⟩ := hrel
    by_cases hlt : k + 1 < l.length
    · have hx : l[k + 1]? = some l[k + 1] := List.getElem?_eq_getElem hlt
      generalize l[k + 1] = x at hx
      obtain ⟨a, n⟩ := x
      obtain ⟨g, o, rfl, hg, c0, c1⟩ := hA (k + 1) _ hx
      simp only at c0 c1
      have hst : stp l (k + 1) = a := stp_of hx
      have i1 : (0 : Int) ≤ (k : Int) + 1 := by omega
      have i2 : (k : Int) + 1 < (l.length : Int) := by omega
      by_cases hkj : k < j
      · have hle : a ≤ s := by have := HLE.out (k + 1) (by omega); omega
        clear hst hx
        go_wp2
        go_round
        case rel => exact ⟨k + 1, by omega, by go_num⟩
        case measure => simp [intOf]; omega
      · obtain rfl : k = j := by omega
        have hgt : s < a := by have := HGT.out (k + 1) (by omega) hlt; omega
        clear hst hx
        go_wp2
        go_ret
        exact ⟨rfl, rfl⟩
    · obtain rfl : k = j := by omega
      have i2 : (l.length : Int) ≤ (k : Int) + 1 := by omega
      go_wp2
      go_ret
      exact ⟨rfl, rfl⟩

/-- What the program's sum has left to add: the part of change k. -/
theorem tmT_succ (l : List Nt2) (s : Int) (j m : Nat) : tmT l s j (m + 1) = tmT l s j m + ((if m < j then stp l (m + 1) else s) - stp l m) * lst l m := rfl

/-- The model's part of change k: its end is that of the next change, where this one is not behind the step. -/
theorem tm_round {l : List Nt2} (h : Tmp l) {s : Int} (h0 : 0 ≤ s) (hs : s ≤ 2000) {k : Nat} (hk : k < l.length) {E : Int} (hE : E = if k + 1 < l.length then min s (stp l (k + 1)) else s) :
    (stp l k < E → tmT l s (atT l s) (min k (atT l s + 1)) + (E - stp l k) * lst l k = tmT l s (atT l s) (min (k + 1) (atT l s + 1)) ∧ 0 ≤ (E - stp l k) * lst l k ∧ (E - stp l k) * lst l k ≤ 2000000000) ∧
    (E ≤ stp l k → tmT l s (atT l s) (min k (atT l s + 1)) = tmT l s (atT l s) (min (k + 1) (atT l s + 1))) := by
  have hj := atT_lt h.pos s
  have hle := atT_le h h0
  rcases Nat.lt_trichotomy k (atT l s) with hlt | heq | hgt
  · have hm : stp l (k + 1) ≤ s := by
      rcases Nat.lt_or_ge (k + 1) (atT l s) with h' | h'
      · have := h.mono h' hj; omega
      · rw [show k + 1 = atT l s by omega]; exact hle
    have hE' : E = stp l (k + 1) := by rw [hE, if_pos (by omega)]; omega
    have hp := tmT_part h h0 hs (m := k) (by omega)
    rw [if_pos hlt] at hp
    rw [show min k (atT l s + 1) = k by omega, show min (k + 1) (atT l s + 1) = k + 1 by omega, tmT_succ, if_pos hlt, hE']
    have := h.up k (by omega)
    exact ⟨fun _ => ⟨rfl, hp.2.2.1, hp.2.2.2⟩, fun h' => by omega⟩
  · have hE' : E = s := by
      rw [hE]
      split
      · have := atT_gt (show atT l s < k + 1 by omega) (by assumption); omega
      · rfl
    have hp := tmT_part h h0 hs (m := k) (by omega)
    rw [if_neg (by omega)] at hp
    rw [show min k (atT l s + 1) = k by omega, show min (k + 1) (atT l s + 1) = k + 1 by omega, tmT_succ, if_neg (by omega), hE']
    refine ⟨fun _ => ⟨rfl, hp.2.2.1, hp.2.2.2⟩, fun h' => ?_⟩
    have : s - stp l k = 0 := by rw [heq] at h' ⊢; omega
    rw [this]; simp
  · have hg := atT_gt hgt hk
    have hE' : E ≤ s := by
      rw [hE]; split <;> omega
    rw [show min k (atT l s + 1) = atT l s + 1 by omega, show min (k + 1) (atT l s + 1) = atT l s + 1 by omega]
    exact ⟨fun h' => by omega, fun _ => rfl⟩

end Go.Proofs.YtkefphfjpkmceaaDoor
