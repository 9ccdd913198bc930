/- What strconv.Atoi says of a numeral; the sentinels. -/
import Derived.Test.YtfjcnomingbneacDoorPars
import Derived.Test.YtfjcnomingbneacDoorBld
import Derived.Test.YtfjcnomingbneacDoorShA
import Derived.Lib.AtoiAllCases
import Derived.Lib.SmallJoins
namespace Go.Proofs.YtfjcnomingbneacDoor
open Go.RowKit Go.Sort
set_option linter.unusedVariables false
set_option linter.unusedSimpArgs false

theorem foldl_mono : ∀ (s : List UInt8) (a : Nat), a ≤ s.foldl (fun a c => 10 * a + (c.toNat - 48)) a := by
  intro s
  induction s with
  | nil => intro a; exact Nat.le_refl _
  | cons c s ih =>
    intro a
    have := ih (10 * a + (c.toNat - 48))
    simp only [List.foldl_cons]
    omega
theorem parse_digs : ∀ (s : List UInt8) (a : Nat), s.all isDig = true → s.foldl (fun a c => 10 * a + (c.toNat - 48)) a < 18446744073709551616 → Lib.parseUint10 a s = .ok (s.foldl (fun a c => 10 * a + (c.toNat - 48)) a)
  | [], a, _, _ => rfl
  | c :: s, a, hd, hv => by
    simp only [List.all_cons, Bool.and_eq_true] at hd
    have hc := hd.1
    simp only [isDig, Bool.and_eq_true, decide_eq_true_eq] at hc
    simp only [List.foldl_cons] at hv ⊢
    have hm := foldl_mono s (10 * a + (c.toNat - 48))
    unfold Lib.parseUint10
    rw [if_pos hc, if_neg (by omega), if_neg (by omega), Nat.mul_comm a 10]
    exact parse_digs s _ hd.2 hv
theorem atoi_plain {s : List UInt8} (h : plainNum s = true) (hv : valL s ≤ 9223372036854775807) : Lib.atoiAll s = .ok (valL s : Int) := by
  have h0 := h
  simp only [plainNum, Bool.and_eq_true, decide_eq_true_eq] at h0
  obtain ⟨⟨hd, hne⟩, _⟩ := h0
  cases s with
  | nil => exact absurd rfl hne
  | cons c r =>
    have hc : isDig c = true := by simp only [List.all_cons, Bool.and_eq_true] at hd; exact hd.1
    simp only [isDig, Bool.and_eq_true, decide_eq_true_eq] at hc
    have hp := parse_digs (c :: r) 0 hd (by have : valL (c :: r) < 18446744073709551616 := by omega
                                            exact this)
    have hv2 : (c :: r).foldl (fun a c => 10 * a + (c.toNat - 48)) 0 = valL (c :: r) := rfl
    rw [hv2] at hp
    unfold Lib.atoiAll
    simp only
    rw [if_neg (by omega)]
    unfold Lib.parseMag
    rw [if_neg (by simp), hp]
    simp only
    rw [if_neg (by omega), if_neg (by omega), if_neg (by omega)]
def numOk (s : List UInt8) : Bool := plainNum s && decide (valL s ≤ 9223372036854775807)
theorem numOk_dec {s : List UInt8} {v : Int} (h0 : 0 ≤ v) (h1 : v ≤ 9223372036854775807) (h : dec v = s) : numOk s = true ∧ (valL s : Int) = v := by
  subst h
  simp only [dec, numOk, plain_dec, dec_val, Bool.true_and, decide_eq_true_eq]
  omega
theorem dec_of_numOk {s : List UInt8} (h : numOk s = true) : dec (valL s : Int) = s := by
  simp only [numOk, Bool.and_eq_true] at h
  simpa [dec] using dec_of_plain s.length s rfl h.1
/-- The two sentinels of strconv hold errors. -/
def Errs (w : World) : Prop := (∃ tp p, w.var? Tryd.prog "strconv.ErrSyntax" = some #[.iface tp p]) ∧ (∃ tp p, w.var? Tryd.prog "strconv.ErrRange" = some #[.iface tp p])
theorem gSyn : Tryd.prog.globalNamed "strconv.ErrSyntax" = some 3 := by kernel_rfl
theorem gRng : Tryd.prog.globalNamed "strconv.ErrRange" = some 4 := by kernel_rfl
theorem Errs.below {w w' : World} (h : Errs w) (hb : Below w.heap.size w w') : Errs w' := by
  obtain ⟨⟨tp, p, h1⟩, tq, q, h2⟩ := h
  exact ⟨⟨tp, p, Go.Joins.var_stays gSyn h1 hb (Nat.le_refl _)⟩, tq, q, Go.Joins.var_stays gRng h2 hb (Nat.le_refl _)⟩
def numR (s : List UInt8) : Array Value := if numOk s = true then #[.int .i64 (valL s : Int), .bool true] else #[.int .i64 0, .bool false]

/-- Atoi at every string: a number, or an error. -/
theorem atoi_any (s : List UInt8) (w : World) (hs : s.length ≤ 2000000) (hE : Errs w) :
    Calls Tryd.prog 44 #[.string (bs s)] w fun e w' => ((∃ v, Lib.atoiAll s = .ok v ∧ -9223372036854775808 ≤ v ∧ v ≤ 9223372036854775807 ∧ e = .returned (.tuple #[.int .i64 v, .nilIface])) ∨ ((∀ v, Lib.atoiAll s ≠ .ok v) ∧ ∃ z t p, e = .returned (.tuple #[.int .i64 z, .iface t (.pointer (some p))]))) ∧ Below w.heap.size w w' := by
  have hb : (bs s).data.toList = s := by simp [bs]
  have hz := bs_size s
  obtain ⟨⟨tp, p, h1⟩, tq, q, h2⟩ := hE
  rcases h : Lib.atoiAll s with v | _ | _
  · refine (Tryd.strconv_Atoi_ok (bs s) (by omega) v (by rw [hb]; exact h) w).mono ?_
    rintro e w' ⟨rfl, hw⟩
    have hbd := Lib.atoiAll_bounds h
    refine ⟨.inl ⟨v, rfl, hbd.1, hbd.2, rfl⟩, ?_⟩
    rcases hw with rfl | ⟨t, rfl⟩
    · exact Below.refl _ _
    · exact Lib.bytesWorld_below w _ t
  · refine (Any.strconv_Atoi_syntax_var Tryd.laysC172 (bs s) (by omega) (by rw [hb]; exact h) tp p w h1).mono ?_
    rintro e w' ⟨N, rfl, _, _, hB⟩
    exact ⟨.inr ⟨fun v => by simp, _, _, _, rfl⟩, hB⟩
  · refine (Tryd.strconv_Atoi_range_var (bs s) (by omega) (by rw [hb]; exact h) tq q w h2).mono ?_
    rintro e w' ⟨N, rfl, _, _, hB⟩
    exact ⟨.inr ⟨fun v => by simp, _, _, _, rfl⟩, hB⟩

theorem numR_no {s : List UInt8} (h : ∀ v, 0 ≤ v → v ≤ 9223372036854775807 → Lib.atoiAll s = .ok v → dec v ≠ s) : numR s = #[.int .i64 0, .bool false] := by
  unfold numR
  rw [if_neg]
  intro h0
  have h1 := h0
  simp only [numOk, Bool.and_eq_true, decide_eq_true_eq] at h1
  exact h _ (by omega) (by omega) (atoi_plain h1.1 h1.2) (dec_of_numOk h0)
theorem bs_beq (a b : List UInt8) : ((bs a).toList == (bs b).toList) = decide (a = b) := by
  rw [show (bs a).toList = a from ByteArray.toList_mk a, show (bs b).toList = b from ByteArray.toList_mk b]
  by_cases h : a = b <;> simp [h]
/-- strconv.Itoa at every number that is not negative. -/
theorem itoa_all (z : Int) (w : World) (h0 : 0 ≤ z) (h1 : z ≤ 9223372036854775807) (hT : Lib.TabIs Tryd.prog w "internal/strconv.uint64pow10" .u64 Lib.pow10Tab) :
    Calls Tryd.prog 21 #[.int .i64 z] w fun e w' => e = .returned (.string (bs (dec z))) ∧ Below w.heap.size w w' := by
  refine (Tryd.strconv_Itoa z (by omega) (by omega) w hT).mono ?_
  rintro e w' ⟨rfl, k, os, rfl⟩
  refine ⟨?_, ?_⟩
  · obtain ⟨u, rfl⟩ : ∃ u : Nat, z = u := ⟨z.toNat, by omega⟩
    rw [Lib.itoa_nonneg]
    simp [dec, bs]
  · exact ((Below.refl _ w).trans ⟨rfl, rfl, rfl, by simp [grow], fun i hi => by simp [grow, Array.getElem?_append, hi]⟩)

set_option maxRecDepth 100000 in
set_option maxHeartbeats 1000000 in
theorem readNumber_any (s : List UInt8) (w : World) (hs : s.length ≤ 2000000) (hT : Tabs w) (hE : Errs w) :
    Calls Tryd.prog 28 #[.string (bs s)] w fun e w' => e = .returned (.tuple (numR s)) ∧ Below w.heap.size w w' := by
  go_enter Tryd.func28, Tryd.ntmps28
  go_wp2_with fail
  refine (atoi_any s w hs hE).mono ?_
  rintro e w1 ⟨hcase, hb1⟩
  rcases hcase with ⟨v, hv, hv0, hv1, rfl⟩ | ⟨hv, z, t, p, rfl⟩
  · by_cases hneg : v < 0
    · have HR := Lib.hid (numR_no (s := s) (by
        intro u h0 h1 h2
        rw [hv] at h2
        injection h2 with h2
        omega))
      clear hv
      go_wp2
      go_ret2
      exact ⟨by rw [HR.out]; rfl, hb1⟩
    · by_cases he : dec v = s
      · have hk := numOk_dec (by omega) hv1 he
        have HR := Lib.hid (show numR s = #[.int .i64 v, .bool true] by unfold numR; rw [if_pos hk.1, hk.2])
        have hbe : ((bs (dec v)).toList == (bs s).toList) = true := by rw [bs_beq]; simpa using he
        have C := Lib.hid (itoa_all v w1 (by omega) hv1 (hT.below hb1).pow)
        clear hv he hk
        generalize bs (dec v) = D at *
        generalize hS : bs s = S at *
        clear hS
        go_wp2_with (go_at_call 21; refine C.out.mono ?_; rintro e w2 ⟨rfl, hb2⟩)
        go_ret2
        exact ⟨by rw [HR.out]; rfl, hb1.trans (hb2.mono hb1.size)⟩
      · have HR := Lib.hid (numR_no (s := s) (by
          intro u h0 h1 h2
          rw [hv] at h2
          injection h2 with h2
          subst h2
          exact he))
        have hbe : ((bs (dec v)).toList == (bs s).toList) = false := by rw [bs_beq]; simpa using he
        have C := Lib.hid (itoa_all v w1 (by omega) hv1 (hT.below hb1).pow)
        clear hv he
        generalize bs (dec v) = D at *
        generalize hS : bs s = S at *
        clear hS
        go_wp2_with (go_at_call 21; refine C.out.mono ?_; rintro e w2 ⟨rfl, hb2⟩)
        go_ret2
        exact ⟨by rw [HR.out]; rfl, hb1.trans (hb2.mono hb1.size)⟩
  · have HR := Lib.hid (numR_no (s := s) (fun u _ _ h2 => absurd h2 (hv u)))
    clear hv
    go_wp2
    go_ret2
    exact ⟨by rw [HR.out]; rfl, hb1⟩
end Go.Proofs.YtfjcnomingbneacDoor
