/- Contracts: which events are a voice, of the model and of the program. -/
import Derived.Test.YtfjcnomingbneabDoorESmall
import Derived.Test.YtfjcnomingbneabDoorESlc
import Derived.Test.YtfjcnomingbneabDoorAppN
namespace Go.Proofs.YtfjcnomingbneabDoor
open Go.RowKit
set_option linter.unusedVariables false
set_option linter.unusedSimpArgs false

def evN (x : Nt) : Bool := evB x.1 x.2.1 x.2.2
def goodV (l : List Nt) : Bool := l.all evN && decide (l.length ≤ 20)
theorem evN_iff (x : Nt) : evN x = true ↔ (x.1 = 0 ∨ 24 ≤ x.1 ∧ x.1 ≤ 96) ∧ (1 ≤ x.2.1 ∧ x.2.1 ≤ 99) ∧ (1 ≤ x.2.2 ∧ x.2.2 ≤ 16) ∧ gI x.2.1 x.2.2 = 1 := by
  simp [evN, evB, inR]
theorem goodV_iff (l : List Nt) : goodV l = true ↔ (∀ x ∈ l, evN x = true) ∧ l.length ≤ 20 := by
  simp [goodV]
theorem dvd_ticks {d : Int} (h : 1 ≤ d) (h' : d ≤ 16) : d ∣ 720720 := by
  have : d = 1 ∨ d = 2 ∨ d = 3 ∨ d = 4 ∨ d = 5 ∨ d = 6 ∨ d = 7 ∨ d = 8 ∨ d = 9 ∨ d = 10 ∨ d = 11 ∨ d = 12 ∨ d = 13 ∨ d = 14 ∨ d = 15 ∨ d = 16 := by omega
  rcases this with h | h | h | h | h | h | h | h | h | h | h | h | h | h | h | h <;> subst h <;> decide
theorem evN.okT {x : Nt} (h : evN x = true) : okT x ∧ tk x ≤ 71351280 := by
  obtain ⟨h1, h2, h3, h4⟩ := (evN_iff x).1 h
  have hd := dvd_ticks h3.1 h3.2
  have hq : 720720 / x.2.2 ≤ 720720 := Int.ediv_le_self _ (by omega)
  have ht : tk x ≤ 71351280 := by
    unfold tk
    have h0 : 0 ≤ 720720 / x.2.2 := Int.ediv_nonneg (by omega) (by omega)
    have := Int.mul_le_mul h2.2 hq h0 (by omega)
    omega
  exact ⟨⟨by omega, by omega, hd, by omega⟩, ht⟩
theorem okT_of {l : List Nt} (h : goodV l = true) : ∀ x ∈ l, okT x := fun x hx => (evN.okT (((goodV_iff l).1 h).1 x hx)).1
theorem tks_of {l : List Nt} (h : goodV l = true) (k : Nat) : 0 ≤ tks (l.take k) ∧ tks (l.take k) ≤ 1427025600 := by
  obtain ⟨h1, h2⟩ := (goodV_iff l).1 h
  have gen : ∀ m : List Nt, (∀ x ∈ m, evN x = true) → 0 ≤ tks m ∧ tks m ≤ m.length * 71351280 := by
    intro m
    induction m with
    | nil => intro _; simp [tks]
    | cons x m ih =>
      intro hm
      have a := ih (fun y hy => hm y (by simp [hy]))
      have b := evN.okT (hm x (by simp))
      have c := b.1.bounds
      simp only [tks, List.length_cons]
      omega
  have := gen (l.take k) (fun x hx => h1 x (List.mem_of_mem_take hx))
  have hl : (l.take k).length ≤ 20 := by rw [List.length_take]; omega
  omega
theorem goodV_false {l : List Nt} {k : Nat} {x : Nt} (h : l[k]? = some x) (hx : evN x = false) : goodV l = false := by
  cases hg : goodV l with
  | false => rfl
  | true =>
    have := ((goodV_iff l).1 hg).1 x (List.mem_of_getElem? h)
    rw [hx] at this
    cases this
theorem goodV_long {l : List Nt} (h : 20 < l.length) : goodV l = false := by
  unfold goodV
  have : decide (l.length ≤ 20) = false := by simp; omega
  rw [this, Bool.and_false]
theorem goodV_true {l : List Nt} (h : ∀ i x, i < l.length → l[i]? = some x → evN x = true) (h' : l.length ≤ 20) : goodV l = true :=
  (goodV_iff l).2 ⟨fun x hx => by
    obtain ⟨i, hi⟩ := List.mem_iff_getElem?.1 hx
    exact h i x (List.getElem?_eq_some_iff.1 hi).1 hi, h'⟩

set_option maxHeartbeats 1000000 in
theorem noEvent_any (p n d : Int) (w : World) :
    Calls Tryd.prog 36 #[.agg #[.int .i64 p, .int .i64 n, .int .i64 d]] w fun e w' => e = .returned (.bool (evB p n d)) ∧ Below w.heap.size w w' := by
  have hA : ∀ o, Below w.heap.size w (w.alloc o) := fun o => (Below.refl _ _).alloc (Nat.le_refl _) o
  by_cases hv : ((decide (p = 0) || inR p 24 96) && (inR n 1 99 && inR d 1 16)) = true
  · obtain ⟨hv1, hv2⟩ := Bool.and_eq_true_iff.1 hv
    obtain ⟨h1, h2⟩ := Bool.and_eq_true_iff.1 hv2
    have k1 : 1 ≤ n ∧ n ≤ 99 := by simpa [inR] using h1
    have k2 : 1 ≤ d ∧ d ≤ 16 := by simpa [inR] using h2
    have hres : evB p n d = decide ((low n d).2 = d) := by
      rw [evB_gcd (by omega) (by omega)]
      simp [evB, hv1, h1, h2]
    have hb := low_spec (a := n) (b := d) (by omega) (by omega)
    have b1 : 0 ≤ (low n d).1 ∧ (low n d).1 ≤ n := ⟨hb.2.2.2.1, hb.2.2.2.2.2.1⟩
    have b2 : 0 < (low n d).2 ∧ (low n d).2 ≤ d := ⟨hb.2.2.2.2.1, hb.2.2.2.2.2.2.1⟩
    rw [hres]
    have HNP := Lib.hid (noPart_any n d · (by omega) (by omega) (by omega) (by omega))
    clear hb hres hv hv2
    generalize (low n d).1 = a at *
    generalize (low n d).2 = b at *
    by_cases h0 : p = 0
    · have hne : (p != 0) = false := by simp [h0]
      go_enter Tryd.func36, Tryd.ntmps36
      go_wp2_with (first
        | (go_at_call 43; refine (l1In_any _ _ _ _).mono ?_; rintro e w2 ⟨rfl, rfl⟩)
        | (go_at_call 55; refine (HNP.out _).mono ?_; rintro e w1 ⟨rfl, hb1⟩; have c2 := (((bcell hb1).1 w.heap.size 2 (by simp)).trans (World.cell?_alloc_new w _ _ 2)).trans rfl; have hB := (hA _).trans (hb1.mono (by simp))))
      go_ret
      exact ⟨ret_bool (by first | rfl | (rw [Bool.eq_iff_iff]; simp)), hB⟩
    · have hne : (p != 0) = true := by simp [h0]
      have hp : inR p 24 96 = true := by simpa [h0] using hv1
      go_enter Tryd.func36, Tryd.ntmps36
      go_wp2_with (first
        | (go_at_call 54; refine (ntPitch_any _ _).mono ?_; rintro e w2 ⟨rfl, rfl⟩)
        | (go_at_call 43; refine (l1In_any _ _ _ _).mono ?_; rintro e w2 ⟨rfl, rfl⟩)
        | (go_at_call 55; refine (HNP.out _).mono ?_; rintro e w1 ⟨rfl, hb1⟩; have c2 := (((bcell hb1).1 w.heap.size 2 (by simp)).trans (World.cell?_alloc_new w _ _ 2)).trans rfl; have hB := (hA _).trans (hb1.mono (by simp))))
      go_ret
      exact ⟨ret_bool (by first | rfl | (rw [Bool.eq_iff_iff]; simp)), hB⟩
  · have hres : evB p n d = false := by
      cases he : evB p n d with
      | false => rfl
      | true =>
        exfalso
        apply hv
        simp only [evB, Bool.and_eq_true] at he
        simp only [Bool.and_eq_true]
        exact ⟨he.1, he.2.1, he.2.2.1⟩
    rw [hres]
    by_cases h0 : p = 0
    · have hne : (p != 0) = false := by simp [h0]
      cases h1 : inR n 1 99 with
      | false =>
        go_enter Tryd.func36, Tryd.ntmps36
        go_wp2_with (first
          | (go_at_call 43; refine (l1In_any _ _ _ _).mono ?_; rintro e w2 ⟨rfl, rfl⟩))
        go_ret
        exact ⟨rfl, hA _⟩
      | true =>
        have h2 : inR d 1 16 = false := by
          cases h2 : inR d 1 16 with
          | false => rfl
          | true => exact absurd (by simp [h0, h1, h2]) hv
        go_enter Tryd.func36, Tryd.ntmps36
        go_wp2_with (first
          | (go_at_call 43; refine (l1In_any _ _ _ _).mono ?_; rintro e w2 ⟨rfl, rfl⟩))
        go_ret
        exact ⟨rfl, hA _⟩
    · have hne : (p != 0) = true := by simp [h0]
      cases hp : inR p 24 96 with
      | false =>
        go_enter Tryd.func36, Tryd.ntmps36
        go_wp2_with (first
          | (go_at_call 54; refine (ntPitch_any _ _).mono ?_; rintro e w2 ⟨rfl, rfl⟩))
        go_ret
        exact ⟨rfl, hA _⟩
      | true =>
        cases h1 : inR n 1 99 with
        | false =>
          go_enter Tryd.func36, Tryd.ntmps36
          go_wp2_with (first
            | (go_at_call 54; refine (ntPitch_any _ _).mono ?_; rintro e w2 ⟨rfl, rfl⟩)
            | (go_at_call 43; refine (l1In_any _ _ _ _).mono ?_; rintro e w2 ⟨rfl, rfl⟩))
          go_ret
          exact ⟨rfl, hA _⟩
        | true =>
          have h2 : inR d 1 16 = false := by
            cases h2 : inR d 1 16 with
            | false => rfl
            | true => exact absurd (by simp [hp, h1, h2]) hv
          go_enter Tryd.func36, Tryd.ntmps36
          go_wp2_with (first
            | (go_at_call 54; refine (ntPitch_any _ _).mono ?_; rintro e w2 ⟨rfl, rfl⟩)
            | (go_at_call 43; refine (l1In_any _ _ _ _).mono ?_; rintro e w2 ⟨rfl, rfl⟩))
          go_ret
          exact ⟨rfl, hA _⟩

set_option maxRecDepth 100000 in
set_option maxHeartbeats 1000000 in
theorem implIsVoice_any' (A : Option Addr) (l : List Nt) (c : Nat) (w : World) (hn : l.length ≤ 1048576) (hA : RA w A l) :
    Calls Tryd.prog 42 #[.slice A l.length c] w fun e w' => e = .returned (.bool (goodV l)) ∧ Below w.heap.size w w' := by
  by_cases h20 : l.length ≤ 20
  · go_enter Tryd.func42, Tryd.ntmps42
    go_wp2
    go_loopw [10] (fun i wr => ∃ k : Nat, k ≤ l.length ∧ i = .int .i64 k ∧ (∀ i x, i < k → l[i]? = some x → evN x = true) ∧ Below w.heap.size w wr)
      (fun i _ => l.length - (intOf i).toNat)
    case atStart => exact ⟨0, Nat.zero_le _, rfl, fun _ _ h => absurd h (by omega), Below.refl _ _⟩
    case round =>
      obtain ⟨k, hk, rfl, hgood, hb⟩ := hrel
      have HG := Lib.hid hgood
      clear hgood
      by_cases hlt : k < l.length
      · have hx : l[k]? = some l[k] := List.getElem?_eq_getElem hlt
        generalize l[k] = x at hx
        obtain ⟨p, n, d⟩ := x
        obtain ⟨g, o, rfl, hg, h0, h1, h2⟩ := (hA.below hb) k _ hx
        simp only at h0 h1 h2
        have HX := Lib.hid hx
        have i1 : (0 : Int) ≤ (k : Int) := by omega
        have i2 : (k : Int) < (l.length : Int) := by omega
        clear hx
        cases hv : evB p n d with
        | false =>
          go_wp2_with (go_at_call 61; refine (isEvent_any _ _ _ _).mono ?_; rintro e w1 ⟨rfl, hb1⟩)
          go_ret
          exact ⟨ret_bool (goodV_false HX.out hv).symm, (hb.alloc hb.size _).trans (hb1.mono (by simp; have := hb.size; omega))⟩
        | true =>
          go_wp2_with (go_at_call 61; refine (isEvent_any _ _ _ _).mono ?_; rintro e w1 ⟨rfl, hb1⟩)
          go_roundw
          case rel =>
            refine ⟨k + 1, by omega, by go_num, ?_, (hb.alloc hb.size _).trans (hb1.mono (by simp; have := hb.size; omega))⟩
            intro i x hi hx
            rcases Nat.lt_or_ge i k with h | h
            · exact HG.out i x h hx
            · obtain rfl : i = k := by omega
              have e := HX.out.symm.trans hx
              injection e with e
              subst e
              exact hv
          case measure => simp [intOf]; omega
      · obtain rfl : k = l.length := by omega
        go_wp2
        go_ret
        exact ⟨ret_bool (by rw [goodV_true HG.out h20]), hb⟩
  · go_enter Tryd.func42, Tryd.ntmps42
    go_wp2
    go_ret
    exact ⟨ret_bool (by rw [goodV_long (by omega)]), Below.refl _ _⟩

theorem implIsVoice_any (A : Option Addr) (l : List Nt) (c : Nat) (w : World) (hn : l.length ≤ 1048576) (hc : l.length ≤ c) (hc' : c ≤ 9223372036854775807) (hA : RA w A l) :
    Calls Tryd.prog 42 #[.slice A l.length c] w fun e w' => e = .returned (.bool (goodV l)) ∧ Below w.heap.size w w' := implIsVoice_any' A l c w hn hA

end Go.Proofs.YtfjcnomingbneabDoor
