/- The model reads a number of at most six digits. -/
import Derived.Test.YtfjcnomingbneacDoorPars
import Derived.LoopTactic
import Derived.OwnWalk
import Derived.IntWalk
namespace Go.Proofs.YtfjcnomingbneacDoor
open Go.RowKit Go.Sort
set_option linter.unusedVariables false
set_option linter.unusedSimpArgs false

theorem bs_get (s : List UInt8) (k : Nat) (x : UInt8) (hx : s[k]? = some x) (h : k < (bs s).size) : (bs s)[k]'h = x := by
  have hk := (List.getElem?_eq_some_iff.1 hx)
  obtain ⟨h1, h2⟩ := hk
  rw [← h2]
  rfl

theorem bs_extract (s : List UInt8) (f k : Nat) : (bs s).extract f k = bs ((s.drop f).take (k - f)) := by
  apply ByteArray.ext
  simp [bs, ByteArray.data_extract]

theorem readL_bad {s : List UInt8} (h : ¬ (plainNum s = true ∧ s.length ≤ 6)) : readL s = -1 := by unfold readL; rw [if_neg h]

set_option maxRecDepth 100000 in
set_option maxHeartbeats 2000000 in
theorem l1Read_any (s : List UInt8) (w : World) (hs : s.length ≤ 2000000) :
    Calls Tryd.prog 41 #[.string (bs s)] w fun e w' => e = .returned (.int .i64 (readL s)) ∧ w' = w := by
  have hsz : (bs s).size = s.length := bs_size s
  by_cases hl : 1 ≤ s.length ∧ s.length ≤ 6
  · obtain ⟨c, hc⟩ : ∃ c, s[0]? = some c := ⟨s[0], List.getElem?_eq_getElem (by omega)⟩
    have hh : s.head? = some c := by rw [← hc]; cases s <;> rfl
    have hne : s ≠ [] := by intro e; subst e; simp at hl
    have hg0 : ∀ h, (bs s)[0]'h = c := fun h => bs_get s 0 c hc h
    have i0 : (0 : Int) < (s.length : Int) := by omega
    have i1 : (1 : Int) ≤ (s.length : Int) := by omega
    have i2 : (s.length : Int) ≤ 6 := by omega
    by_cases h48 : c.toNat = 48 ∧ 1 < s.length
    · have c1 : (c.toNat : Int) = 48 := by omega
      have c2 : (1 : Int) < (s.length : Int) := by omega
      have HB := Lib.hid (readL_bad (s := s) (by
        intro h
        have h0 := h.1
        simp only [plainNum, Bool.and_eq_true, Bool.or_eq_true, decide_eq_true_eq] at h0
        rcases h0.2 with e | e
        · apply e; rw [hh]; congr 1; exact UInt8.toNat_inj.1 (by rw [h48.1]; rfl)
        · omega))
      clear hc hh
      generalize hB : bs s = B at *
      go_enter Tryd.func41, Tryd.ntmps41
      go_wp2
      go_ret
      exact ⟨by rw [HB.out]; rfl, by first | rfl | trivial⟩
    · have hpl : s.all isDig = true → plainNum s = true := by
        intro hd
        simp only [plainNum, Bool.and_eq_true, Bool.or_eq_true, decide_eq_true_eq]
        refine ⟨⟨hd, hne⟩, ?_⟩
        by_cases h1 : s.length = 1
        · exact .inr h1
        · left
          rw [hh]
          intro e
          injection e with e
          subst e
          exact h48 ⟨rfl, by omega⟩
      have HPL := Lib.hid hpl
      have H48 : ¬ ((c.toNat : Int) = 48) ∨ ((c.toNat : Int) = 48 ∧ ¬ ((1 : Int) < (s.length : Int))) := by
        by_cases h : c.toNat = 48
        · right; exact ⟨by omega, fun h' => h48 ⟨h, by omega⟩⟩
        · left; omega
      clear hc hh hpl h48
      rcases H48 with H48 | ⟨H48, H1⟩
      all_goals
        go_enter Tryd.func41, Tryd.ntmps41
        go_wp2
        go_loopw [3, 4] (fun n i wr => ∃ k : Nat, k ≤ s.length ∧ i = .int .i64 k ∧ n = .int .i64 (valL (s.take k)) ∧ (s.take k).all isDig = true ∧ wr = w)
          (fun _ i _ => s.length - (intOf i).toNat)
        case atStart => exact ⟨0, Nat.zero_le _, rfl, rfl, rfl, rfl⟩
        case round =>
          obtain ⟨k, hk, rfl, rfl, hd, rfl⟩ := hrel
          by_cases hlt : k < s.length
          · have hx : s[k]? = some s[k] := List.getElem?_eq_getElem hlt
            generalize s[k] = x at hx
            have hgk : ∀ h, (bs s)[k]'h = x := fun h => bs_get s k x hx h
            have hts : s.take (k + 1) = s.take k ++ [x] := by rw [List.take_add_one, hx]; rfl
            have hvl := valL_snoc (s.take k) x
            have hall : (s.take (k + 1)).all isDig = ((s.take k).all isDig && isDig x) := by rw [hts, List.all_append]; simp
            have hvb := valL_lt (s.take k) hd
            have hvb2 : valL (s.take k) < 10 ^ 6 := Nat.lt_of_lt_of_le hvb (Nat.pow_le_pow_right (by omega) (by rw [List.length_take]; omega))
            have hx8 := x.toNat_lt
            have i3 : (0 : Int) ≤ (k : Int) := by omega
            have i4 : (k : Int) < (s.length : Int) := by omega
            have HT := Lib.hid hts
            have HV := Lib.hid hvl
            have HA := Lib.hid hall
            have HX := Lib.hid hx
            clear hts hvl hall hx hvb
            by_cases hdx : isDig x = true
            · have hx0 := hdx
              simp only [isDig, Bool.and_eq_true, decide_eq_true_eq] at hx0
              have e1 : ¬ ((x.toNat : Int) < 48) := by omega
              have e2 : ¬ ((57 : Int) < (x.toNat : Int)) := by omega
              have m1 : IntKind.i64.wrap (10 * (valL (s.take k) : Int)) = 10 * (valL (s.take k) : Int) := IntWalk.i64_in _ (by omega)
              have m2 : IntKind.u8.wrap ((x.toNat : Int) - 48) = (x.toNat : Int) - 48 := IntWalk.u8_in _ (by omega)
              have m3 : IntKind.i64.wrap ((x.toNat : Int) - 48) = (x.toNat : Int) - 48 := IntWalk.i64_in _ (by omega)
              have m4 : IntKind.i64.wrap (10 * (valL (s.take k) : Int) + ((x.toNat : Int) - 48)) = 10 * (valL (s.take k) : Int) + ((x.toNat : Int) - 48) := IntWalk.i64_in _ (by omega)
              go_wp2
              go_roundw
              case rel =>
                refine ⟨k + 1, by omega, by go_num, ?_, by rw [HA.out, hd, hdx]; rfl, by first | rfl | trivial⟩
                rw [HT.out, HV.out]
                congr 1
                omega
              case measure => simp [intOf]; omega
            · have HB := Lib.hid (readL_bad (s := s) (by
                intro h
                have h0 := h.1
                simp only [plainNum, Bool.and_eq_true] at h0
                exact hdx (List.all_eq_true.1 h0.1.1 x (List.mem_of_getElem? HX.out))))
              have hx0 : ((x.toNat : Int) < 48) ∨ (¬ ((x.toNat : Int) < 48) ∧ (57 : Int) < (x.toNat : Int)) := by
                simp only [isDig, Bool.and_eq_true, decide_eq_true_eq] at hdx
                omega
              clear hdx
              rcases hx0 with e1 | ⟨e1, e2⟩
              all_goals
                go_wp2
                go_ret
                exact ⟨by rw [HB.out]; rfl, by first | rfl | trivial⟩
          · obtain rfl : k = s.length := by omega
            rw [List.take_length] at hd ⊢
            go_wp2
            go_ret
            exact ⟨by rw [readL, if_pos ⟨HPL.out hd, hl.2⟩]; rfl, by first | rfl | trivial⟩
  · have HB := Lib.hid (readL_bad (s := s) (by
      intro h
      have h0 := h.1
      simp only [plainNum, Bool.and_eq_true, decide_eq_true_eq] at h0
      have := List.length_pos_iff.2 h0.1.2
      exact hl ⟨by omega, h.2⟩))
    have h1 : ¬ ((1 : Int) ≤ (s.length : Int)) ∨ ¬ ((s.length : Int) ≤ 6) := by omega
    clear hl
    rcases h1 with h1 | h1
    all_goals
      go_enter Tryd.func41, Tryd.ntmps41
      go_wp2
      go_ret
      exact ⟨by rw [HB.out]; rfl, by first | rfl | trivial⟩
end Go.Proofs.YtfjcnomingbneacDoor
