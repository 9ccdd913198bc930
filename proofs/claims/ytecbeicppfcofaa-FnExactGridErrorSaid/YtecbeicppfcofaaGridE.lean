/- Contracts: the greatest distance of a start from its rounded step. -/
import Derived.Test.YtecbeicppfcofaaExact
namespace Go.Proofs.Ytecbeicppfcofaa
open Go.RowKit
set_option linter.unusedVariables false
set_option linter.unusedSimpArgs false

/-- The starts of all events, in ticks. -/
def startsL (l : List Nt) : List Int := (List.range l.length).map fun j => tks (l.take j)
theorem startsL_length (l : List Nt) : (startsL l).length = l.length := by simp [startsL]
theorem startsL_take (l : List Nt) : (edgesTo l l.length).take l.length = startsL l := by
  simp [edgesTo, startsL, ← List.map_take, List.take_range]
theorem startsL_get (l : List Nt) (k : Nat) (h : k < l.length) : (startsL l)[k]? = some (tks (l.take k)) := by
  rw [startsL, List.getElem?_map, List.getElem?_range h]; rfl
theorem startsL_bounds {l : List Nt} (h : goodV l = true) : ∀ t ∈ startsL l, 0 ≤ t ∧ t ≤ 30000000000 := by
  intro t ht
  simp only [startsL, List.mem_map, List.mem_range] at ht
  obtain ⟨j, _, rfl⟩ := ht
  have := tks_of h j
  omega
def gridErrorR (l : List Nt) (r : Int) : Array Value := if (goodV l && inR r 1 48) = true then #[.int .i64 (low (farL r (startsL l)) 720720).1, .int .i64 (low (farL r (startsL l)) 720720).2, .bool true] else #[.int .i64 0, .int .i64 0, .bool false]
theorem gridErrorR_form (l : List Nt) (r : Int) : ∃ a b d, gridErrorR l r = #[.int .i64 a, .int .i64 b, .bool d] := by unfold gridErrorR; split <;> exact ⟨_, _, _, rfl⟩

/-- The distance in the model's fraction and in ticks. -/
theorem err_low {T r : Int} (hT : 0 ≤ T) : ((((low T 720720).1 * r - (low T 720720).2 * stepOf T r).natAbs : Nat) : Int) ≤ 360360 ∧
    low (((low T 720720).1 * r - (low T 720720).2 * stepOf T r).natAbs : Nat) (low T 720720).2 = low ((offT T r).natAbs : Nat) 720720 := by
  have h := off_low (T := T) (g := r) hT
  have hb := off_bounds T r
  obtain ⟨hg, e1, e2, h0, h1, _⟩ := low_spec hT (show (0 : Int) < 720720 by omega)
  generalize (low T 720720).1 * r - (low T 720720).2 * stepOf T r = z at *
  generalize (low T 720720).2 = b at *
  generalize gI T 720720 = q at *
  generalize offT T r = o at *
  have habs : ((z.natAbs : Nat) : Int) * q = ((o.natAbs : Nat) : Int) := by
    rw [← h, Int.natAbs_mul]
    have : ((q.natAbs : Nat) : Int) = q := by omega
    rw [Int.natCast_mul, this]
  constructor
  · have h2 : ((z.natAbs : Nat) : Int) * 1 ≤ ((z.natAbs : Nat) : Int) * q := Int.mul_le_mul_of_nonneg_left (by omega) (by omega)
    omega
  · refine low_cross (by omega) h1 (by omega) (by omega) ?_
    rw [← habs]
    conv => lhs; rhs; rw [e2]
    ac_rfl

set_option maxRecDepth 100000 in
set_option maxHeartbeats 2000000 in
theorem implGridError_any (g : Nat) (l : List Nt) (c : Nat) (r : Int) (w : World) (hn : l.length ≤ 1048576) (hc : l.length ≤ c) (hc' : c ≤ 9223372036854775807) (hA : RA w (some ⟨g, 0, none⟩) l) :
    Calls Try.prog 31 #[.slice (some ⟨g, 0, none⟩) l.length c, .int .i64 r] w fun e w' => e = .returned (.tuple (gridErrorR l r)) ∧ Below w.heap.size w w' := by
  cases hg : goodV l with
  | false =>
    have hr : gridErrorR l r = #[.int .i64 0, .int .i64 0, .bool false] := by simp [gridErrorR, hg]
    rw [hr]
    go_enter Try.func31, Try.ntmps31
    go_wp2_with fail
    refine (implIsVoice_any' _ _ _ _ hn hA).mono ?_
    rintro e w1 ⟨rfl, hb1⟩
    go_wp2
    go_ret3
    exact ⟨rfl, hb1⟩
  | true =>
    cases hi : inR r 1 48 with
    | false =>
      have hr : gridErrorR l r = #[.int .i64 0, .int .i64 0, .bool false] := by simp [gridErrorR, hi]
      rw [hr]
      go_enter Try.func31, Try.ntmps31
      go_wp2_with fail
      refine (implIsVoice_any' _ _ _ _ hn hA).mono ?_
      rintro e w1 ⟨rfl, hb1⟩
      go_wp2_with (go_at_call 55; refine (isGrid_any _ _).mono ?_; rintro e w2 ⟨rfl, rfl⟩)
      go_ret3
      exact ⟨rfl, hb1⟩
    | true =>
      have hi' : 1 ≤ r ∧ r ≤ 48 := by simpa [inR] using hi
      have hr : gridErrorR l r = #[.int .i64 (low (farL r (startsL l)) 720720).1, .int .i64 (low (farL r (startsL l)) 720720).2, .bool true] := by simp [gridErrorR, hg, hi]
      rw [hr]
      have h20 := ((goodV_iff l).1 hg).2
      have hok := okT_of hg
      have HE := Lib.hid (fun W hA => edgesOf_any (some ⟨g, 0, none⟩) l c W h20 hok hA)
      have hfb := farL_bounds r (startsL l)
      have HF := Lib.hid (fun E cc W (hR : RI W E (edgesTo l l.length)) => farthest_any E (startsL l) l.length cc r W (startsL_length l) (by omega) (startsL_bounds hg) hi'.1 hi'.2 (by
        rw [← startsL_take]
        intro j x hx
        rw [List.getElem?_take] at hx
        split at hx
        · exact hR j x hx
        · cases hx))
      have HL := Lib.hid (fun W => lowestTerms_any (farL r (startsL l)) 720720 W hfb.1 (by omega) (by omega) (by omega))
      have HA := Lib.hid hA
      clear hr hok hA hfb
      generalize (low (farL r (startsL l)) 720720).1 = a at *
      generalize (low (farL r (startsL l)) 720720).2 = b at *
      generalize farL r (startsL l) = F at *
      go_enter Try.func31, Try.ntmps31
      go_wp2_with fail
      refine (implIsVoice_any' _ _ _ _ hn HA.out).mono ?_
      rintro e w1 ⟨rfl, hb1⟩
      go_wp2_with fail
      refine (isGrid_any _ _).mono ?_
      rintro e w2 ⟨rfl, rfl⟩
      go_wp2_with fail
      refine (HE.out _ (HA.out.below hb1)).mono ?_
      rintro e w2 ⟨v, rfl, ho, hb2⟩
      obtain ⟨E, ce, rfl, hRI, hce, hcm, hEn, hEb⟩ := ho.form
      rw [edgesTo_length] at ho hce ⊢
      have HFC := Lib.hid (HF.out E ce w2 hRI)
      have hB2 := hb1.trans (hb2.mono hb1.size)
      obtain ⟨ge, rfl⟩ : ∃ ge, E = some ⟨ge, 0, none⟩ := by
        cases E with
        | none =>
          have := hEn rfl
          omega
        | some ad =>
          obtain ⟨ge, rfl, _⟩ := hEb _ rfl
          exact ⟨ge, rfl⟩
      have i1 : (0 : Int) ≤ (l.length : Int) := by omega
      have i2 : (l.length : Int) ≤ (ce : Int) := by omega
      clear ho hRI hEn hEb
      go_wp2_with (first
        | (go_at_call 60; refine HFC.out.mono ?_; rintro e w3 ⟨rfl, rfl⟩)
        | (go_at_call 48; refine (HL.out _).mono ?_; rintro e w3 ⟨rfl, hb3⟩))
      go_ret3
      exact ⟨rfl, hB2.trans (hb3.mono hB2.size)⟩

set_option maxRecDepth 100000 in
set_option maxHeartbeats 4000000 in
theorem specGridError_any (g : Nat) (l : List Nt) (c : Nat) (r : Int) (w : World) (hn : l.length ≤ 1048576) (hc : l.length ≤ c) (hc' : c ≤ 9223372036854775807) (hA : RA w (some ⟨g, 0, none⟩) l) :
    Calls Try.prog 30 #[.slice (some ⟨g, 0, none⟩) l.length c, .int .i64 r] w fun e w' => e = .returned (.tuple (gridErrorR l r)) ∧ Below w.heap.size w w' := by
  cases hg : goodV l with
  | false =>
    have hr : gridErrorR l r = #[.int .i64 0, .int .i64 0, .bool false] := by simp [gridErrorR, hg]
    rw [hr]
    go_enter Try.func30, Try.ntmps30
    go_wp2_with fail
    refine (noGood_any _ _ _ _ hn hA).mono ?_
    rintro e w1 ⟨rfl, hb1⟩
    go_wp2
    go_ret3
    exact ⟨rfl, hb1⟩
  | true =>
    cases hi : inR r 1 48 with
    | false =>
      have hr : gridErrorR l r = #[.int .i64 0, .int .i64 0, .bool false] := by simp [gridErrorR, hi]
      rw [hr]
      go_enter Try.func30, Try.ntmps30
      go_wp2_with fail
      refine (noGood_any _ _ _ _ hn hA).mono ?_
      rintro e w1 ⟨rfl, hb1⟩
      go_wp2_with (go_at_call 52; refine (noGrid_any _ _).mono ?_; rintro e w2 ⟨rfl, rfl⟩)
      go_ret3
      exact ⟨rfl, hb1⟩
    | true =>
      have hi' : 1 ≤ r ∧ r ≤ 48 := by simpa [inR] using hi
      have hr : gridErrorR l r = #[.int .i64 (low (farL r (startsL l)) 720720).1, .int .i64 (low (farL r (startsL l)) 720720).2, .bool true] := by simp [gridErrorR, hg, hi]
      rw [hr]
      have h20 := ((goodV_iff l).1 hg).2
      have hok := okT_of hg
      have HN := Lib.hid (fun (k : Nat) (hk : k ≤ l.length) W hA => noSum_any (some ⟨g, 0, none⟩) (l.take k) k c W (by rw [List.length_take]; omega) (by omega) (fun x hx => hok x (List.mem_of_mem_take hx)) hA)
      have HT := Lib.hid (tks_of hg)
      have HS := Lib.hid (fun (k : Nat) (hk : k ≤ l.length) W hA => noStep_any g l c k r W h20 hok (by have := tks_of hg k; omega) hk hc hc' hi'.1 hi'.2 hA)
      have HA := Lib.hid hA
      clear hok hA hr
      go_enter Try.func30, Try.ntmps30
      go_wp2_with fail
      refine (noGood_any _ _ _ _ hn HA.out).mono ?_
      rintro e w1 ⟨rfl, hb1⟩
      have HA1 := Lib.hid (HA.out.below hb1)
      go_wp2_with fail
      refine (noGrid_any _ _).mono ?_
      rintro e w2 ⟨rfl, rfl⟩
      go_wp2_with fail
      go_loopw [7, 8, 24] (fun p q a wr => ∃ k : Nat, k ≤ l.length ∧ a = .int .i64 (k : Int) ∧ p = .int .i64 (low (farL r ((startsL l).take k)) 720720).1 ∧ q = .int .i64 (low (farL r ((startsL l).take k)) 720720).2 ∧ Below w1.heap.size w1 wr)
        (fun _ _ a _ => l.length - (intOf a).toNat)
      case atStart =>
        have h0 : low (farL r ((startsL l).take 0)) 720720 = (0, 1) := low_zero (by omega)
        refine ⟨0, Nat.zero_le _, rfl, ?_, ?_, Below.refl _ _⟩ <;> rw [h0]
      case round =>
        obtain ⟨k, hk, rfl, rfl, rfl, hb⟩ := hrel
        by_cases hkl : k < l.length
        · have j1 : (k : Int) < (l.length : Int) := by omega
          have j2 : (0 : Int) ≤ (k : Int) := by omega
          have j3 : (k : Int) ≤ (c : Int) := by omega
          have hT := HT.out k
          have hs := low_spec hT.1 (show (0 : Int) < 720720 by omega)
          have hst := stepOf_bounds hT.1 (by omega) hi'.1 hi'.2
          have herr := err_low (T := tks (l.take k)) (r := r) hT.1
          have hft := farL_take (g := r) (startsL_get l k hkl)
          have hfb := farL_bounds r ((startsL l).take k)
          have hob := off_bounds (tks (l.take k)) r
          have HNK := Lib.hid (HN.out k hk)
          have HSK := Lib.hid (HS.out k hk)
          have a0 := hs.2.2.2.1
          have b0 := hs.2.2.2.2.1
          have a1 := hs.2.2.2.2.2.1
          have b1 := hs.2.2.2.2.2.2.1
          clear hs
          have hlt := low_lt (p := ((offT (tks (l.take k)) r).natAbs : Nat)) (q := 720720) (x := farL r ((startsL l).take k)) (y := 720720) (by omega) (by omega) hfb.1 (by omega)
          have hs1 := low_spec (a := ((offT (tks (l.take k)) r).natAbs : Nat)) (b := 720720) (by omega) (by omega)
          have hs2 := low_spec (a := farL r ((startsL l).take k)) (b := 720720) hfb.1 (by omega)
          have p1 : 0 ≤ (low ((offT (tks (l.take k)) r).natAbs : Nat) 720720).1 ∧ (low ((offT (tks (l.take k)) r).natAbs : Nat) 720720).1 ≤ 360360 := ⟨hs1.2.2.2.1, by omega⟩
          have p2 : 0 < (low ((offT (tks (l.take k)) r).natAbs : Nat) 720720).2 ∧ (low ((offT (tks (l.take k)) r).natAbs : Nat) 720720).2 ≤ 720720 := ⟨hs1.2.2.2.2.1, hs1.2.2.2.2.2.2.1⟩
          have p3 : 0 ≤ (low (farL r ((startsL l).take k)) 720720).1 ∧ (low (farL r ((startsL l).take k)) 720720).1 ≤ 360360 := ⟨hs2.2.2.2.1, by omega⟩
          have p4 : 0 < (low (farL r ((startsL l).take k)) 720720).2 ∧ (low (farL r ((startsL l).take k)) 720720).2 ≤ 720720 := ⟨hs2.2.2.2.2.1, hs2.2.2.2.2.2.2.1⟩
          clear hs1 hs2
          unfold fstep at hft
          generalize stepOf (tks (l.take k)) r = s at *
          generalize hoff : offT (tks (l.take k)) r = o at *
          generalize (low (tks (l.take k)) 720720).1 = a at *
          generalize (low (tks (l.take k)) 720720).2 = b at *
          have hm := mul_bounds (t := a) (g := r) a0 (by omega) hi'.1 hi'.2
          have hm2 : 0 ≤ b * s := Int.mul_nonneg (by omega) hst.1
          have hm3 : b * s ≤ 720720 * 3000000 := Int.mul_le_mul b1 hst.2.1 hst.1 (by omega)
          have HNP := Lib.hid (fun W => noPart_any (((a * r - b * s).natAbs : Nat) : Int) b W (by omega) b0 (by omega) (by omega))
          rw [herr.2] at HNP
          have HAB := Lib.hid (fun W => l1Abs_any (a * r - b * s) W (by omega) (by omega))
          have HFT := Lib.hid hft
          have HLT := Lib.hid hlt
          clear herr hft hlt hT
          generalize hF : farL r ((startsL l).take k) = F at *
          generalize hLF : low F 720720 = LF at *
          obtain ⟨t1, t2⟩ := LF
          generalize hLO : low ((o.natAbs : Nat) : Int) 720720 = LO at *
          obtain ⟨q1, q2⟩ := LO
          simp only at p1 p2 p3 p4 HLT HNP ⊢
          have m1 : 0 ≤ q1 * t2 := Int.mul_nonneg p1.1 (by omega)
          have m2 : q1 * t2 ≤ 360360 * 720720 := Int.mul_le_mul p1.2 p4.2 (by omega) (by omega)
          have m3 : 0 ≤ t1 * q2 := Int.mul_nonneg p3.1 (by omega)
          have m4 : t1 * q2 ≤ 360360 * 720720 := Int.mul_le_mul p3.2 p2.2 (by omega) (by omega)
          generalize hn1 : q1 * t2 = n1 at *
          generalize hn2 : t1 * q2 = n2 at *
          generalize hu : a * r = u at *
          generalize hv : b * s = v at *
          have HLF := Lib.hid hLF
          have HLO := Lib.hid hLO
          have HOFF := Lib.hid hoff
          have HHF := Lib.hid hF
          clear hLF hLO hoff hF
          by_cases hcmp : F < ((o.natAbs : Nat) : Int)
          · have hgt : n2 < n1 := HLT.out.2 (by omega)
            go_wp2_with (first
              | (go_at_call 47; refine (HNK.out _ ((HA1.out.below hb).take k)).mono ?_; rintro e w3 ⟨rfl, hb3⟩; have hB3 := Lib.hid (hb.trans (hb3.mono hb.size)); clear hb3)
              | (go_at_call 53; refine (HSK.out _ (HA1.out.below hB3.out)).mono ?_; rintro e w4 ⟨rfl, hb4⟩; have hB4 := Lib.hid (hB3.out.trans (hb4.mono hB3.out.size)); clear hb4)
              | (go_at_call 62; refine (HAB.out _).mono ?_; rintro e w5 ⟨rfl, rfl⟩)
              | (go_at_call 61; refine (HNP.out _).mono ?_; rintro e w6 ⟨rfl, hb6⟩; have hB6 := Lib.hid (hB4.out.trans (hb6.mono hB4.out.size)); clear hb6))
            go_roundw
            case rel =>
              have e : farL r ((startsL l).take (k + 1)) = ((o.natAbs : Nat) : Int) := by rw [HFT.out]; omega
              exact ⟨k + 1, by omega, by go_num, by rw [e, HLO.out], by rw [e, HLO.out], hB6.out⟩
            case measure => simp [intOf]; omega
          · have hgt : ¬ n2 < n1 := fun h => hcmp (by have := HLT.out.1 h; omega)
            go_wp2_with (first
              | (go_at_call 47; refine (HNK.out _ ((HA1.out.below hb).take k)).mono ?_; rintro e w3 ⟨rfl, hb3⟩; have hB3 := Lib.hid (hb.trans (hb3.mono hb.size)); clear hb3)
              | (go_at_call 53; refine (HSK.out _ (HA1.out.below hB3.out)).mono ?_; rintro e w4 ⟨rfl, hb4⟩; have hB4 := Lib.hid (hB3.out.trans (hb4.mono hB3.out.size)); clear hb4)
              | (go_at_call 62; refine (HAB.out _).mono ?_; rintro e w5 ⟨rfl, rfl⟩)
              | (go_at_call 61; refine (HNP.out _).mono ?_; rintro e w6 ⟨rfl, hb6⟩; have hB6 := Lib.hid (hB4.out.trans (hb6.mono hB4.out.size)); clear hb6))
            go_roundw
            case rel =>
              have e : farL r ((startsL l).take (k + 1)) = F := by rw [HFT.out]; omega
              exact ⟨k + 1, by omega, by go_num, by rw [e, HLF.out], by rw [e, HLF.out], hB6.out⟩
            case measure => simp [intOf]; omega
        · obtain rfl : k = l.length := by omega
          have he : (startsL l).take l.length = startsL l := List.take_of_length_le (by rw [startsL_length]; exact Nat.le_refl _)
          go_wp2
          go_ret3
          exact ⟨by simp only [he]; rfl, hb1.trans (hb.mono hb1.size)⟩

end Go.Proofs.Ytecbeicppfcofaa
