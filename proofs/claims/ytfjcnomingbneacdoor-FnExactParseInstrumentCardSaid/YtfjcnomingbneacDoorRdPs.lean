/- The program reads names of pitches. -/
import Derived.Test.YtfjcnomingbneacDoorRdP
import Derived.Test.YtfjcnomingbneacDoorAppS
import Derived.Test.YtfjcnomingbneacDoorAppI
import Derived.Test.YtfjcnomingbneacDoorIntP
namespace Go.Proofs.YtfjcnomingbneacDoor
open Go.RowKit Go.Sort
set_option linter.unusedVariables false
set_option linter.unusedSimpArgs false

/-- The strings that a slice at A reads. -/
def RSs (w : World) (A : Option Addr) (l : List (List UInt8)) : Prop :=
  ∀ (k : Nat) (x : List UInt8), l[k]? = some x → ∃ g o, A = some ⟨g, o, none⟩ ∧ g < w.heap.size ∧ w.cell? ⟨g, o + k, none⟩ = some (.string (bs x))
theorem RSs.below {w w' : World} {A : Option Addr} {l : List (List UInt8)} (h : RSs w A l) (hb : Below w.heap.size w w') : RSs w' A l := by
  intro k x hx
  obtain ⟨g, o, hA, hg, h0⟩ := h k x hx
  exact ⟨g, o, hA, Nat.lt_of_lt_of_le hg hb.size, (hb.cell hg).trans h0⟩
theorem RSs.take {w : World} {A : Option Addr} {l : List (List UInt8)} (h : RSs w A l) (n : Nat) : RSs w A (l.take n) := by
  intro k x hx
  rw [List.getElem?_take] at hx
  split at hx
  · exact h k x hx
  · cases hx
theorem OwnS.form {w : World} {base : Nat} {v : Value} {l : List (List UInt8)} (h : OwnS w base v l) : ∃ A c, v = .slice A l.length c ∧ RSs w A l ∧ l.length ≤ c ∧ c ≤ maxLen ∧ (A = none → c = 0) ∧ (l ≠ [] → ∃ g, A = some ⟨g, 0, none⟩) := by
  rcases h.2 with ⟨rfl, hn⟩ | ⟨g, cap, cur, rfl, hg, hh, hnc, hm, hs, ht⟩
  · refine ⟨none, 0, by rw [hn], ?_, by omega, Nat.zero_le _, fun _ => rfl, fun h => absurd (List.length_eq_zero_iff.1 hn) h⟩
    intro k x hx
    have := (List.getElem?_eq_some_iff.1 hx).1
    omega
  · refine ⟨_, _, rfl, ?_, hnc, hm, fun h => (by cases h), fun _ => ⟨g, rfl⟩⟩
    intro k x hx
    have hk := (List.getElem?_eq_some_iff.1 hx).1
    have hlt : g < w.heap.size := (Array.getElem?_eq_some_iff.1 hh).1
    exact ⟨g, 0, rfl, hlt, by rw [Nat.zero_add, h.cellAt _ (by omega)]; simp [cS, hx]⟩

theorem egPitch (args : Array Value) (w : World) : (callFunc 27 args).run Tryd.prog w = .ok (.enter 27 args) w := enters_of Tryd.func27 (by kernel_rfl) rfl args w
def PitsOf (l : List (List UInt8)) (base : Nat) (w : World) (e : Ending) : Prop :=
  ((∀ x ∈ l, 0 ≤ ntRd x) ∧ ∃ v, e = .returned (.tuple #[v, .bool true]) ∧ OwnI w base 3 v (l.map ntRd)) ∨ ((∃ x ∈ l, ntRd x < 0) ∧ e = .returned (.tuple #[.slice none 0 0, .bool false]))

set_option maxRecDepth 100000 in
set_option maxHeartbeats 4000000 in
theorem readPitches_any (A : Option Addr) (l : List (List UInt8)) (n c : Nat) (w : World) (hln : l.length = n) (hn : n ≤ 2000000) (hx0 : ∀ x ∈ l, x.length ≤ 2000000) (hA : RSs w A l) (hT : Tabs w) (hE : Errs w) :
    Calls Tryd.prog 26 #[.slice A n c, .func (.func 27) #[] #[]] w fun e w' => PitsOf l w.heap.size w' e ∧ Below w.heap.size w w' := by
  have hfn := egPitch
  subst hln
  go_enter Tryd.func26, Tryd.ntmps26
  go_wp2
  go_loopw [6, 13] (fun v i wr => ∃ k : Nat, k ≤ l.length ∧ i = .int .i64 k ∧ OwnI wr w.heap.size 3 v ((l.take k).map ntRd) ∧ (∀ x ∈ l.take k, 0 ≤ ntRd x) ∧ Below w.heap.size w wr)
    (fun _ i _ => l.length - (intOf i).toNat)
  case atStart => exact ⟨0, Nat.zero_le _, rfl, OwnI.nil _ _ _, by simp, Below.refl _ _⟩
  case round =>
    obtain ⟨k, hk, rfl, hO, hok, hb⟩ := hrel
    by_cases hlt : k < l.length
    · have hx : l[k]? = some l[k] := List.getElem?_eq_getElem hlt
      generalize l[k] = x at hx
      have hmem := List.mem_of_getElem? hx
      have ht : l.take (k + 1) = l.take k ++ [x] := by rw [List.take_add_one, hx]; rfl
      obtain ⟨g, o, rfl, hg, h0⟩ := (hA.below hb) k _ hx
      have i1 : (0 : Int) ≤ (k : Int) := by omega
      have i2 : (k : Int) < (l.length : Int) := by omega
      have CP := Lib.hid (readPitch_any x wr (hx0 x hmem) (hT.below hb) (hE.below hb))
      have HT := Lib.hid ht
      have HM := Lib.hid hmem
      have HOK := Lib.hid hok
      have hlen : ((l.take k).map ntRd).length = k := by rw [List.length_map, List.length_take]; omega
      clear hx ht hmem hok
      by_cases hneg : 0 ≤ ntRd x
      · have HR := Lib.hid (show pitR x = #[.int .i64 (ntRd x), .bool true] by unfold pitR; rw [if_pos hneg])
        rw [HR.out] at CP
        have HO' := Lib.hid hO
        have hzl : ((l.take k).map ntRd).length + 1 ≤ 4000000 := by omega
        clear hO
        go_wp2_with (first
          | (go_at_call 27; refine CP.out.mono ?_; rintro e w1 ⟨rfl, hb1⟩; have HB1 := Lib.hid (hb.trans (hb1.mono hb.size)); have HO1 := Lib.hid (HO'.out.below hb1 (Nat.le_refl _)); have HC3 := Lib.hid (one_new w1 (ntRd x)); clear hb1)
          | (at_builtin; refine wpList_appI _ rfl (.tmp 25) (.tmp 27) rfl w.heap.size _ _ rfl (HO1.out.below ((RowKit.Below.refl _ _).alloc (Nat.le_refl _) _) (Nat.le_refl _)) (some ⟨w1.heap.size, 0, none⟩) 1 1 [ntRd x] rfl rfl (fun h => by cases h) (fun j y hy => one_at HC3.out hy) (by omega) (Nat.le_trans HB1.out.size (by simp)) ?_; intro v6 w6 ho6 hg6 hv6; have HO6 := Lib.hid ho6; have HB6 := Lib.hid ((HB1.out.alloc HB1.out.size _).grown hg6 (Nat.le_trans HB1.out.size (by simp)) (fun j hj => (HO1.out.lt j hj).1)); clear ho6 hg6))
        go_roundw
        case rel =>
          refine ⟨k + 1, by omega, by go_num, by rw [HT.out, List.map_append]; exact HO6.out, ?_, HB6.out⟩
          rw [HT.out]
          intro y hy
          rcases List.mem_append.1 hy with hy | hy
          · exact HOK.out y hy
          · simp only [List.mem_singleton] at hy
            subst hy
            exact hneg
        case measure => simp [intOf]; omega
      · have HR := Lib.hid (show pitR x = #[.int .i64 0, .bool false] by unfold pitR; rw [if_neg hneg])
        rw [HR.out] at CP
        go_wp2_with (go_at_call 27; refine CP.out.mono ?_; rintro e w1 ⟨rfl, hb1⟩)
        go_ret2
        exact ⟨.inr ⟨⟨x, HM.out, by omega⟩, rfl⟩, hb.trans (hb1.mono hb.size)⟩
    · obtain rfl : k = l.length := by omega
      rw [List.take_length] at hO hok
      go_wp2
      go_ret2
      exact ⟨.inl ⟨hok, _, rfl, hO⟩, hb⟩
end Go.Proofs.YtfjcnomingbneacDoor
