/- The program reads a name of a pitch: it finds what the model finds. -/
import Derived.Test.YtfjcnomingbneacDoorSplN
import Derived.Test.YtfjcnomingbneacDoorNtR
namespace Go.Proofs.YtfjcnomingbneacDoor
open Go.RowKit Go.Sort
set_option linter.unusedVariables false
set_option linter.unusedSimpArgs false

theorem nameOf_nodig : ∀ r, r < 12 → ∀ c ∈ nameOf r, nodig c = true := by decide
theorem nameOf_inj : ∀ r, r < 12 → ∀ q, q < 12 → nameOf r = nameOf q → r = q := by decide
theorem spl_nm (p : Int) (h : 24 ≤ p) (h' : p ≤ 96) : splC (nm p) = nameOf (p % 12).toNat ∧ splD (nm p) = Lib.decDigits (p / 12).toNat := by
  have hn := nameOf_nodig (p % 12).toNat (by omega)
  have hd := dec_digs (p / 12).toNat
  have hne := dec_ne (p / 12).toNat
  unfold nm splC splD
  cases hc : Lib.decDigits (p / 12).toNat with
  | nil => exact absurd hc hne
  | cons c t =>
    have hc0 : nodig c = false := by simp [nodig, hd c (by rw [hc]; simp)]
    rw [List.takeWhile_append_of_pos hn, List.dropWhile_append_of_pos hn, List.takeWhile_cons, List.dropWhile_cons, hc0]
    simp
theorem nm_inj {p q : Int} (h : 24 ≤ p) (h' : p ≤ 96) (k : 24 ≤ q) (k' : q ≤ 96) (e : nm p = nm q) : p = q := by
  have h1 := spl_nm p h h'
  have h2 := spl_nm q k k'
  rw [e] at h1
  have e1 := nameOf_inj _ (by omega) _ (by omega) (h1.1.symm.trans h2.1)
  have e2 := dec_inj (h1.2.symm.trans h2.2)
  omega
theorem ntRd_nm (p : Int) (h : 24 ≤ p) (h' : p ≤ 96) : ntRd (nm p) = p := by
  have := ntRd_at (s := nm p) (k := (p - 24).toNat) (by omega) (fun i hi e => by
    have := nm_inj (p := 24 + (i : Int)) (q := p) (by omega) (by omega) h h' e
    omega) (by rw [show 24 + ((p - 24).toNat : Int) = p by omega])
  rw [this]; omega
theorem ntRd_cases (s : List UInt8) : (∃ p, 24 ≤ p ∧ p ≤ 96 ∧ nm p = s ∧ ntRd s = p) ∨ (ntRd s = -1 ∧ ∀ p, 24 ≤ p → p ≤ 96 → nm p ≠ s) := by
  by_cases h : ∃ p, 24 ≤ p ∧ p ≤ 96 ∧ nm p = s
  · obtain ⟨p, h1, h2, rfl⟩ := h
    exact .inl ⟨p, h1, h2, rfl, ntRd_nm p h1 h2⟩
  · exact .inr ⟨ntRd_none (fun i hi e => h ⟨24 + (i : Int), by omega, by omega, e⟩), fun p h1 h2 e => h ⟨p, h1, h2, e⟩⟩
def pitR (s : List UInt8) : Array Value := if 0 ≤ ntRd s then #[.int .i64 (ntRd s), .bool true] else #[.int .i64 0, .bool false]
theorem spl_join (s : List UInt8) : splC s ++ splD s = s := List.takeWhile_append_dropWhile
/-- A residue that fits names the pitch. -/
theorem pitR_at {s : List UInt8} {r : Nat} (hr : r < 12) (hn : numOk (splD s) = true) (hc : nameOf r = splC s) (h1 : 24 ≤ 12 * (valL (splD s) : Int) + r) (h2 : 12 * (valL (splD s) : Int) + r ≤ 96) : pitR s = #[.int .i64 (12 * (valL (splD s) : Int) + r), .bool true] := by
  have hs : nm (12 * (valL (splD s) : Int) + r) = s := by
    unfold nm
    rw [show ((12 * (valL (splD s) : Int) + r) % 12).toNat = r by omega, show ((12 * (valL (splD s) : Int) + r) / 12).toNat = valL (splD s) by omega, hc]
    have := dec_of_numOk hn
    simp only [dec, Int.toNat_natCast] at this
    rw [this, spl_join]
  have := ntRd_nm _ h1 h2
  rw [hs] at this
  unfold pitR
  rw [this, if_pos (by omega)]
theorem pitR_no {s : List UInt8} (h : ∀ r : Nat, r < 12 → numOk (splD s) = true → valL (splD s) ≤ 8 → ¬ (nameOf r = splC s ∧ 24 ≤ 12 * (valL (splD s) : Int) + r ∧ 12 * (valL (splD s) : Int) + r ≤ 96)) : pitR s = #[.int .i64 0, .bool false] := by
  rcases ntRd_cases s with ⟨p, h1, h2, rfl, h4⟩ | ⟨h1, _⟩
  · exfalso
    have hs := spl_nm p h1 h2
    have hd : valL (splD (nm p)) = (p / 12).toNat := by rw [hs.2, dec_val]
    refine h (p % 12).toNat (by omega) ?_ (by omega) ⟨hs.1.symm, by omega, by omega⟩
    rw [hs.2]
    simp only [numOk, plain_dec, dec_val, Bool.true_and, decide_eq_true_eq]
    omega
  · unfold pitR
    rw [h1, if_neg (by omega)]

theorem index_names (NS : Array Value) (k : Nat) (s : ByteArray) (hk : k < 12) (h : NS[k]? = some (.string s)) (w : World) :
    (Instr.index 64 (.agg NS) (.int .i64 (k : Int))).run Tryd.prog w = .ok (.string s) w := by
  have hz : ∀ w, (Go.sizeOf 9).run Tryd.prog w = .ok 1 w := Tryd.sizeOf9
  have ha : ∀ w, (isAgg 9).run Tryd.prog w = .ok false w := Tryd.isAgg9
  simp [Instr.index, go_sem, run_underlying Tryd.underlying64, asIntOf, h, hz, part, ha]
  intro h'
  omega

def nmsV : Array Value := #[Value.string ⟨(nameOf 0).toArray⟩, Value.string ⟨(nameOf 1).toArray⟩, Value.string ⟨(nameOf 2).toArray⟩, Value.string ⟨(nameOf 3).toArray⟩, Value.string ⟨(nameOf 4).toArray⟩, Value.string ⟨(nameOf 5).toArray⟩, Value.string ⟨(nameOf 6).toArray⟩, Value.string ⟨(nameOf 7).toArray⟩, Value.string ⟨(nameOf 8).toArray⟩, Value.string ⟨(nameOf 9).toArray⟩, Value.string ⟨(nameOf 10).toArray⟩, Value.string ⟨(nameOf 11).toArray⟩]
theorem nmsV_get : ∀ k, k < 12 → nmsV[k]? = some (.string (bs (nameOf k)))
  | 0, _ => rfl
  | 1, _ => rfl
  | 2, _ => rfl
  | 3, _ => rfl
  | 4, _ => rfl
  | 5, _ => rfl
  | 6, _ => rfl
  | 7, _ => rfl
  | 8, _ => rfl
  | 9, _ => rfl
  | 10, _ => rfl
  | 11, _ => rfl
  | k + 12, h => absurd h (by omega)

set_option maxRecDepth 100000 in
set_option maxHeartbeats 2000000 in
theorem readPitch_any (s : List UInt8) (w : World) (hs : s.length ≤ 2000000) (hT : Tabs w) (hE : Errs w) :
    Calls Tryd.prog 27 #[.string (bs s)] w fun e w' => e = .returned (.tuple (pitR s)) ∧ Below w.heap.size w w' := by
  have hld : (splD s).length ≤ 2000000 := by have := congrArg List.length (spl_join s); rw [List.length_append] at this; omega
  go_enter Tryd.func27, Tryd.ntmps27
  go_wp2_with fail
  refine (splitName_any s w hs).mono ?_
  rintro e w1 ⟨rfl, hb1⟩
  have hT1 := hT.below hb1
  have hE1 := hE.below hb1
  go_wp2_with fail
  refine (readNumber_any (splD s) w1 hld hT1 hE1).mono ?_
  rintro e w2 ⟨rfl, hb2⟩
  have hT2 := hT1.below hb2
  have hB2 := hb1.trans (hb2.mono hb1.size)
  cases hn : numOk (splD s) with
  | false =>
    have HR := Lib.hid (pitR_no (s := s) (fun r _ h => absurd (hn.symm.trans h) (by simp)))
    rw [show numR (splD s) = #[.int .i64 0, .bool false] from by unfold numR; rw [if_neg (by simp [hn])]]
    clear hn
    go_wp2
    go_ret2
    exact ⟨by rw [HR.out]; rfl, hB2⟩
  | true =>
    rw [show numR (splD s) = #[.int .i64 (valL (splD s) : Int), .bool true] from by unfold numR; rw [if_pos hn]]
    by_cases h8 : valL (splD s) ≤ 8
    · have i8 : ¬ ((8 : Int) < (valL (splD s) : Int)) := by omega
      have n0 := hT2.names 0 (by omega)
      have n1 := hT2.names 1 (by omega)
      have n2 := hT2.names 2 (by omega)
      have n3 := hT2.names 3 (by omega)
      have n4 := hT2.names 4 (by omega)
      have n5 := hT2.names 5 (by omega)
      have n6 := hT2.names 6 (by omega)
      have n7 := hT2.names 7 (by omega)
      have n8 := hT2.names 8 (by omega)
      have n9 := hT2.names 9 (by omega)
      have n10 := hT2.names 10 (by omega)
      have n11 := hT2.names 11 (by omega)
      go_wp2
      have hNS : #[Value.string ⟨(nameOf 0).toArray⟩, Value.string ⟨(nameOf 1).toArray⟩, Value.string ⟨(nameOf 2).toArray⟩, Value.string ⟨(nameOf 3).toArray⟩, Value.string ⟨(nameOf 4).toArray⟩, Value.string ⟨(nameOf 5).toArray⟩, Value.string ⟨(nameOf 6).toArray⟩, Value.string ⟨(nameOf 7).toArray⟩, Value.string ⟨(nameOf 8).toArray⟩, Value.string ⟨(nameOf 9).toArray⟩, Value.string ⟨(nameOf 10).toArray⟩, Value.string ⟨(nameOf 11).toArray⟩] = nmsV := rfl
      rw [hNS]
      clear hNS n0 n1 n2 n3 n4 n5 n6 n7 n8 n9 n10 n11
      have HNV := Lib.hid nmsV_get
      generalize nmsV = NS at *
      go_loopw [28] (fun i wr => ∃ k : Nat, k ≤ 12 ∧ i = .int .i64 k ∧ wr = w2 ∧ ∀ r : Nat, r < k → ¬ (nameOf r = splC s ∧ 24 ≤ 12 * (valL (splD s) : Int) + r ∧ 12 * (valL (splD s) : Int) + r ≤ 96))
        (fun i _ => 12 - (intOf i).toNat)
      case atStart => exact ⟨0, by omega, rfl, rfl, fun _ h => absurd h (by omega)⟩
      case round =>
        obtain ⟨k, hk, rfl, rfl, hno⟩ := hrel
        have HN := Lib.hid hno
        clear hno
        by_cases hlt : k < 12
        · have hget := HNV.out k hlt
          have i1 : (0 : Int) ≤ (k : Int) := by omega
          have i2 : (k : Int) < 12 := by omega
          have hix := fun W => index_names NS k _ hlt hget W
          have m1 : IntKind.i64.wrap (12 * (valL (splD s) : Int)) = 12 * (valL (splD s) : Int) := IntWalk.i64_in _ (by omega)
          have m2 : IntKind.i64.wrap (12 * (valL (splD s) : Int) + (k : Int)) = 12 * (valL (splD s) : Int) + (k : Int) := IntWalk.i64_in _ (by omega)
          have NEXT : ¬ (nameOf k = splC s ∧ 24 ≤ 12 * (valL (splD s) : Int) + k ∧ 12 * (valL (splD s) : Int) + k ≤ 96) → ∀ r : Nat, r < k + 1 → ¬ (nameOf r = splC s ∧ 24 ≤ 12 * (valL (splD s) : Int) + r ∧ 12 * (valL (splD s) : Int) + r ≤ 96) := by
            intro hn r hr
            rcases Nat.lt_or_ge r k with h | h
            · exact HN.out r h
            · obtain rfl : r = k := by omega
              exact hn
          by_cases hc : nameOf k = splC s
          · have hbe : ((bs (nameOf k)).toList == (bs (splC s)).toList) = true := by rw [bs_beq]; simpa using hc
            by_cases hin : 24 ≤ 12 * (valL (splD s) : Int) + k ∧ 12 * (valL (splD s) : Int) + k ≤ 96
            · have HR := Lib.hid (pitR_at hlt hn hc hin.1 hin.2)
              have hpi : inR (12 * (valL (splD s) : Int) + k) 24 96 = true := inR_true hin.1 hin.2
              clear hc hn hget NEXT
              generalize bs (nameOf k) = N at *
              generalize bs (splC s) = C at *
              go_wp2_with (go_at_call 37; refine (isPitch_any _ _).mono ?_; rintro e w3 ⟨rfl, rfl⟩; rw [hpi])
              go_ret2
              exact ⟨by rw [HR.out]; rfl, hB2⟩
            · have hpi : inR (12 * (valL (splD s) : Int) + k) 24 96 = false := inR_false (by omega)
              have HNX := Lib.hid (NEXT (fun h => hin h.2))
              clear hc hn hget NEXT
              generalize bs (nameOf k) = N at *
              generalize bs (splC s) = C at *
              go_wp2_with (go_at_call 37; refine (isPitch_any _ _).mono ?_; rintro e w3 ⟨rfl, rfl⟩; rw [hpi])
              go_roundw
              case rel => exact ⟨k + 1, by omega, by go_num, by first | rfl | trivial, HNX.out⟩
              case measure => simp [intOf]; omega
          · have hbe : ((bs (nameOf k)).toList == (bs (splC s)).toList) = false := by rw [bs_beq]; simpa using hc
            have HNX := Lib.hid (NEXT (fun h => hc h.1))
            clear hc hn hget NEXT
            generalize bs (nameOf k) = N at *
            generalize bs (splC s) = C at *
            go_wp2
            go_roundw
            case rel => exact ⟨k + 1, by omega, by go_num, by first | rfl | trivial, HNX.out⟩
            case measure => simp [intOf]; omega
        · obtain rfl : k = 12 := by omega
          have HR := Lib.hid (pitR_no (s := s) (fun r hr _ _ => HN.out r hr))
          go_wp2
          go_ret2
          exact ⟨by rw [HR.out]; rfl, hB2⟩
    · have i8 : (8 : Int) < (valL (splD s) : Int) := by omega
      have HR := Lib.hid (pitR_no (s := s) (fun r _ _ h => absurd h h8))
      clear hn h8
      go_wp2
      go_ret2
      exact ⟨by rw [HR.out]; rfl, hB2⟩
end Go.Proofs.YtfjcnomingbneacDoor
