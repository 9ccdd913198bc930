/- The program cuts a name before its first digit: a walk over runes. -/
import Derived.Test.YtfjcnomingbneacDoorNumP
import Derived.Test.YtfjcnomingbneacDoorL1R
import Derived.Laws.RangeAny
import Derived.Lib.DecodeN
import Derived.Lib.OthersKept
namespace Go.Proofs.YtfjcnomingbneacDoor
open Go.RowKit Go.Sort
set_option linter.unusedVariables false
set_option linter.unusedSimpArgs false

theorem decodeN_bytes (n b0 b1 b2 b3 : Nat) (h : 1 ≤ n) : (1 < (Lib.decodeN n b0 b1 b2 b3).2 → 1 < n ∧ 128 ≤ b1) ∧ (2 < (Lib.decodeN n b0 b1 b2 b3).2 → 2 < n ∧ 128 ≤ b2) ∧ (3 < (Lib.decodeN n b0 b1 b2 b3).2 → 3 < n ∧ 128 ≤ b3) ∧ (Lib.decodeN n b0 b1 b2 b3).2 ≤ 4 := by
  unfold Lib.decodeN
  repeat' split
  all_goals simp only
  all_goals omega
theorem get_bs (s : List UInt8) (i : Nat) : (bs s).get! i = s.getD i 0 := by
  by_cases h : i < s.length
  · have h1 : i < (bs s).size := by rw [bs_size]; exact h
    have := get_at (bs s) i h1
    rw [Nat.add_zero] at this
    rw [this, bs_get s i s[i] (List.getElem?_eq_getElem h) h1, List.getD_eq_getElem?_getD, List.getElem?_eq_getElem h]
    rfl
  · simp [ByteArray.get!, bs, List.getD_eq_getElem?_getD, List.getElem?_eq_none (by omega : s.length ≤ i), h]
    rfl
/-- What one step over a string's runes tells of its bytes. -/
theorem rune_step (s : List UInt8) (k : Nat) (x : UInt8) (hx : s[k]? = some x) :
    (x.toNat < 128 ∧ Utf8.decode (bs s) k = (x.toNat, 1)) ∨
    (128 ≤ x.toNat ∧ 128 ≤ (Utf8.decode (bs s) k).1 ∧ 1 ≤ (Utf8.decode (bs s) k).2 ∧ k + (Utf8.decode (bs s) k).2 ≤ s.length ∧ ∀ j y, j < (Utf8.decode (bs s) k).2 → s[k + j]? = some y → 128 ≤ y.toNat) := by
  have hk := (List.getElem?_eq_some_iff.1 hx).1
  have h1 : k < (bs s).size := by rw [bs_size]; exact hk
  have hg := bs_get s k x hx h1
  by_cases ha : x.toNat < 128
  · left
    refine ⟨ha, ?_⟩
    rw [decode_ascii (bs s) k h1 (by rw [hg]; exact ha), hg]
  · right
    have hh := decode_high (bs s) k h1 (by rw [hg]; omega)
    have hd := Lib.decode_at (bs s) k
    rw [get_bs, get_bs, get_bs, get_bs, bs_size] at hd
    have hb := decodeN_bytes (s.length - k) (s.getD k 0).toNat (s.getD (k + 1) 0).toNat (s.getD (k + 2) 0).toNat (s.getD (k + 3) 0).toNat (by omega)
    rw [← hd] at hb
    obtain ⟨c1, c2, c3, c4⟩ := hb
    refine ⟨by omega, hh.1, hh.2, by omega, ?_⟩
    intro j y hj hy
    have hyd : s.getD (k + j) 0 = y := by rw [List.getD_eq_getElem?_getD, hy]; rfl
    rcases j with _ | _ | _ | _ | j
    · rw [Nat.add_zero, hx] at hy
      injection hy with hy
      subst hy
      omega
    · rw [← hyd]; exact (c1 (by omega)).2
    · rw [← hyd]; exact (c2 (by omega)).2
    · rw [← hyd]; exact (c3 (by omega)).2
    · omega

def nodig (c : UInt8) : Bool := !isDig c
def splC (s : List UInt8) : List UInt8 := s.takeWhile nodig
def splD (s : List UInt8) : List UInt8 := s.dropWhile nodig
theorem spl_at {s : List UInt8} {k : Nat} {x : UInt8} (hx : s[k]? = some x) (hd : isDig x = true) (hno : ∀ j y, j < k → s[j]? = some y → isDig y = false) : splC s = s.take k ∧ splD s = s.drop k := by
  have hk := (List.getElem?_eq_some_iff.1 hx)
  obtain ⟨h1, h2⟩ := hk
  have hs : s = s.take k ++ x :: s.drop (k + 1) := by
    conv => lhs; rw [← List.take_append_drop k s, List.drop_eq_getElem_cons h1, h2]
  have hp : ∀ a ∈ s.take k, nodig a = true := by
    intro a ha
    obtain ⟨j, hj, rfl⟩ := List.getElem_of_mem ha
    rw [List.length_take] at hj
    have := hno j s[j] (by omega) (List.getElem?_eq_getElem (by omega))
    simp [nodig, List.getElem_take, this]
  have hx0 : nodig x = false := by simp [nodig, hd]
  have hdr : s.drop k = x :: s.drop (k + 1) := by rw [List.drop_eq_getElem_cons h1, h2]
  constructor
  · unfold splC
    conv => lhs; rw [hs]
    rw [List.takeWhile_append_of_pos hp, List.takeWhile_cons, hx0]
    simp
  · unfold splD
    conv => lhs; rw [hs]
    rw [List.dropWhile_append_of_pos hp, List.dropWhile_cons, hx0, hdr]
    simp
theorem spl_none {s : List UInt8} (hno : ∀ j y, j < s.length → s[j]? = some y → isDig y = false) : splC s = s ∧ splD s = [] := by
  have hp : ∀ a ∈ s, nodig a = true := by
    intro a ha
    obtain ⟨j, hj, rfl⟩ := List.getElem_of_mem ha
    have := hno j s[j] hj (List.getElem?_eq_getElem hj)
    simp [nodig, this]
  constructor
  · unfold splC
    have := List.takeWhile_append_of_pos (l₂ := []) hp
    simpa using this
  · unfold splD
    have := List.dropWhile_append_of_pos (l₂ := []) hp
    simpa using this

theorem iter_below (w : World) (s : ByteArray) (k : Nat) : Below w.heap.size w (w.iter s k) := (Below.refl _ _).alloc (Nat.le_refl _) _

theorem isDigit_any (r : Int) (w : World) :
    Calls Tryd.prog 49 #[.int .i32 r] w fun e w' => e = .returned (.bool (decide (48 ≤ r) && decide (r ≤ 57))) ∧ w' = w := by
  by_cases h1 : 48 ≤ r <;> by_cases h2 : r ≤ 57
  all_goals
    go_enter Tryd.func49, Tryd.ntmps49
    go_wp2
    go_ret
    exact ⟨by simp [h1, h2], by first | rfl | trivial⟩

set_option maxRecDepth 100000 in
set_option maxHeartbeats 2000000 in
theorem splitName_any (s : List UInt8) (w : World) (hs : s.length ≤ 2000000) :
    Calls Tryd.prog 43 #[.string (bs s)] w fun e w' => e = .returned (.tuple #[.string (bs (splC s)), .string (bs (splD s))]) ∧ Below w.heap.size w w' := by
  have hsz : (bs s).size = s.length := bs_size s
  go_enter Tryd.func43, Tryd.ntmps43
  go_wp2
  go_loopw [8] (fun t wr => ∃ k : Nat, k ≤ s.length ∧ wr = w.iter (bs s) k ∧ (∀ j y, j < k → s[j]? = some y → isDig y = false))
    (fun _ wr => s.length - wr.iterPos w.heap.size)
  case atStart => exact ⟨0, Nat.zero_le _, rfl, fun _ _ h => absurd h (by omega)⟩
  case round =>
    obtain ⟨k, hk, rfl, hno⟩ := hrel
    by_cases hlt : k < s.length
    · have hx : s[k]? = some s[k] := List.getElem?_eq_getElem hlt
      generalize s[k] = x at hx
      have hst := rune_step s k x hx
      have hkz : k < (bs s).size := by omega
      have i3 : (0 : Int) ≤ (k : Int) := by omega
      have i4 : (k : Int) ≤ (s.length : Int) := by omega
      have hnx : ∀ ty, (Instr.next (.pointer (some ⟨w.heap.size, 0, none⟩)) true ty).run Tryd.prog (w.iter (bs s) k) = _ := fun ty => run_next_any w (bs s) k ty hkz
      have HX := Lib.hid hx
      have HN := Lib.hid hno
      clear hx hno
      rcases hst with ⟨ha, hdec⟩ | ⟨ha, h128, hw1, hw2, hby⟩
      · rw [hdec] at hnx
        clear hdec
        simp only at hnx
        by_cases hdx : isDig x = true
        · have hR := spl_at HX.out hdx HN.out
          have HR1 := Lib.hid (show bs (splC s) = (bs s).extract 0 k by rw [bs_extract, hR.1]; simp)
          have HR2 := Lib.hid (show bs (splD s) = (bs s).extract k s.length by rw [bs_extract, hR.2, List.take_of_length_le (by rw [List.length_drop]; omega)])
          have hx0 := hdx
          simp only [isDig, Bool.and_eq_true, decide_eq_true_eq] at hx0
          have hD : (decide ((48 : Int) ≤ (x.toNat : Int)) && decide ((x.toNat : Int) ≤ 57)) = true := by simp; omega
          clear hR
          go_wp2_with (go_at_call 49; refine (isDigit_any _ _).mono ?_; rintro e w1 ⟨rfl, rfl⟩; rw [hD])
          go_region
          all_goals
            go_wp2
            go_ret2
            rw [HR1.out, HR2.out]
            exact ⟨rfl, by first | exact (iter_below w _ _).drew | exact iter_below w _ _⟩
        · have hD : (decide ((48 : Int) ≤ (x.toNat : Int)) && decide ((x.toNat : Int) ≤ 57)) = false := by
            simp only [isDig, Bool.and_eq_true, decide_eq_true_eq] at hdx
            rw [Bool.and_eq_false_iff]
            simp only [decide_eq_false_iff_not]
            omega
          go_wp2_with (go_at_call 49; refine (isDigit_any _ _).mono ?_; rintro e w1 ⟨rfl, rfl⟩; rw [hD])
          refine ⟨⟨k + 1, by omega, rfl, ?_⟩, by simp; omega⟩
          intro j y hj hy
          rcases Nat.lt_or_ge j k with h | h
          · exact HN.out j y h hy
          · obtain rfl : j = k := by omega
            have e := HX.out.symm.trans hy
            injection e with e
            subst e
            simpa using hdx
      · generalize hd1 : (Utf8.decode (bs s) k).1 = R at *
        generalize hd2 : (Utf8.decode (bs s) k).2 = W at *
        have hD : (decide ((48 : Int) ≤ (R : Int)) && decide ((R : Int) ≤ 57)) = false := by
          rw [Bool.and_eq_false_iff]
          simp only [decide_eq_false_iff_not]
          omega
        clear hd1 hd2
        go_wp2_with (go_at_call 49; refine (isDigit_any _ _).mono ?_; rintro e w1 ⟨rfl, rfl⟩; rw [hD])
        refine ⟨⟨k + W, by omega, rfl, ?_⟩, by simp; omega⟩
        intro j y hj hy
        rcases Nat.lt_or_ge j k with h | h
        · exact HN.out j y h hy
        · have := hby (j - k) y (by omega) (by rw [show k + (j - k) = j by omega]; exact hy)
          simp only [isDig, Bool.and_eq_false_iff, decide_eq_false_iff_not]
          omega
    · obtain rfl : k = s.length := by omega
      have hR := spl_none hno
      have hnx : ∀ ty, (Instr.next (.pointer (some ⟨w.heap.size, 0, none⟩)) true ty).run Tryd.prog (w.iter (bs s) s.length) = _ := fun ty => run_next_end w (bs s) s.length ty (by omega)
      clear hno
      go_wp2
      go_ret2
      rw [hR.1, hR.2]
      exact ⟨rfl, iter_below w _ _⟩
end Go.Proofs.YtfjcnomingbneacDoor
