/- Contracts: the least grid on which a voice is exact. -/
import Derived.Test.YtecbeicppfcofaaStep
namespace Go.Proofs.Ytecbeicppfcofaa
open Go.RowKit
set_option linter.unusedVariables false
set_option linter.unusedSimpArgs false

/-- The first k edges are whole steps. -/
def exactTo (l : List Nt) (g : Int) (k : Nat) : Bool := (List.range k).all fun j => decide (tks (l.take j) * g % 720720 = 0)
theorem exactTo_succ (l : List Nt) (g : Int) (k : Nat) : exactTo l g (k + 1) = (exactTo l g k && decide (tks (l.take k) * g % 720720 = 0)) := by
  simp [exactTo, List.range_succ]
def exactB (l : List Nt) (g : Int) : Bool := exactTo l g (l.length + 1)
def gridF (l : List Nt) : Option Nat := (List.range 48).find? fun (i : Nat) => exactB l ((i : Int) + 1)
theorem gridF_some {l : List Nt} {i : Nat} (h : ∀ j : Nat, j < i → exactB l ((j : Int) + 1) = false) (hi : exactB l ((i : Int) + 1) = true) (h48 : i < 48) : gridF l = some i := by
  unfold gridF
  rw [List.find?_range_eq_some]
  exact ⟨hi, List.mem_range.2 h48, fun j hj => by rw [h j hj]; rfl⟩
theorem gridF_none {l : List Nt} (h : ∀ j : Nat, j < 48 → exactB l ((j : Int) + 1) = false) : gridF l = none := by
  unfold gridF
  rw [List.find?_eq_none]
  intro j hj
  rw [h j (List.mem_range.1 hj)]
  simp
def exactGridR (l : List Nt) : Array Value := if goodV l = true then (match gridF l with | some i => #[.int .i64 ((i : Int) + 1), .bool true] | none => #[.int .i64 0, .bool false]) else #[.int .i64 0, .bool false]
theorem exactGridR_form (l : List Nt) : ∃ a d, exactGridR l = #[.int .i64 a, .bool d] := by
  unfold exactGridR
  split
  · split <;> exact ⟨_, _, rfl⟩
  · exact ⟨_, _, rfl⟩

theorem fold_zero (g : Int) (l : List Int) (a : Int) (h : 0 ≤ a) : l.foldl (fstep g) a = 0 ↔ a = 0 ∧ ∀ t ∈ l, offT t g = 0 := by
  induction l generalizing a with
  | nil => simp
  | cons t l ih =>
    have h2 : 0 ≤ fstep g a t := by unfold fstep; omega
    rw [List.foldl_cons, ih _ h2]
    simp only [List.mem_cons, forall_eq_or_imp]
    have : fstep g a t = 0 ↔ a = 0 ∧ offT t g = 0 := by unfold fstep; omega
    rw [this, and_assoc]
theorem far_exact (l : List Nt) (g : Int) : decide (farL g (edgesTo l l.length) = 0) = exactB l g := by
  rw [Bool.eq_iff_iff, decide_eq_true_eq]
  unfold farL
  rw [fold_zero g _ 0 (by omega)]
  simp only [exactB, exactTo, edgesTo, List.all_eq_true, List.mem_map, List.mem_range, decide_eq_true_eq, true_and]
  constructor
  · intro h j hj
    exact (off_zero _ _).1 (h _ ⟨j, hj, rfl⟩)
  · rintro h t ⟨j, hj, rfl⟩
    exact (off_zero _ _).2 (h j hj)
theorem edges_bounds {l : List Nt} (h : goodV l = true) (k : Nat) : ∀ t ∈ edgesTo l k, 0 ≤ t ∧ t ≤ 30000000000 := by
  intro t ht
  simp only [edgesTo, List.mem_map, List.mem_range] at ht
  obtain ⟨j, _, rfl⟩ := ht
  have := tks_of h j
  omega

set_option maxRecDepth 100000 in
set_option maxHeartbeats 2000000 in
theorem implExactGrid_any (g : Nat) (l : List Nt) (c : Nat) (w : World) (hn : l.length ≤ 1048576) (hc : l.length ≤ c) (hc' : c ≤ 9223372036854775807) (hA : RA w (some ⟨g, 0, none⟩) l) :
    Calls Try.prog 29 #[.slice (some ⟨g, 0, none⟩) l.length c] w fun e w' => e = .returned (.tuple (exactGridR l)) ∧ Below w.heap.size w w' := by
  cases hg : goodV l with
  | false =>
    have hr : exactGridR l = #[.int .i64 0, .bool false] := by simp [exactGridR, hg]
    rw [hr]
    go_enter Try.func29, Try.ntmps29
    go_wp2_with fail
    refine (implIsVoice_any' _ _ _ _ hn hA).mono ?_
    rintro e w1 ⟨rfl, hb1⟩
    go_wp2
    go_ret2
    exact ⟨rfl, hb1⟩
  | true =>
    have h20 := ((goodV_iff l).1 hg).2
    have hok := okT_of hg
    have HE := Lib.hid (fun W hA => edgesOf_any (some ⟨g, 0, none⟩) l c W h20 hok hA)
    have HBD := Lib.hid (edges_bounds hg l.length)
    have HG := Lib.hid hg
    have HA := Lib.hid hA
    clear hok hA
    go_enter Try.func29, Try.ntmps29
    go_wp2_with fail
    refine (implIsVoice_any' _ _ _ _ hn HA.out).mono ?_
    rintro e w1 ⟨rfl, hb1⟩
    go_wp2_with fail
    refine (HE.out _ (HA.out.below hb1)).mono ?_
    rintro e w2 ⟨v, rfl, ho, hb2⟩
    obtain ⟨E, ce, rfl, hRI, hce, hcm, hE, hEb⟩ := ho.form
    rw [edgesTo_length] at ho ⊢
    have HF := Lib.hid (fun (r : Int) h1 h2 => farthest_any E (edgesTo l l.length) (l.length + 1) ce r w2 (edgesTo_length l l.length) (by omega) HBD.out h1 h2 hRI)
    have hB2 := hb1.trans (hb2.mono hb1.size)
    clear ho hRI hE hEb
    go_wp2_with fail
    go_loop [5] (fun a => ∃ i : Nat, i ≤ 48 ∧ a = .int .i64 ((i : Int) + 1) ∧ ∀ j : Nat, j < i → exactB l ((j : Int) + 1) = false)
      (fun a => 49 - (intOf a).toNat)
    case atStart => exact ⟨0, by omega, rfl, fun j h => absurd h (by omega)⟩
    case round =>
      obtain ⟨i, hi, rfl, hno⟩ := hrel
      have HNO := Lib.hid hno
      clear hno
      by_cases h48 : i < 48
      · have i1 : (i : Int) + 1 ≤ 48 := by omega
        have hfe := far_exact l ((i : Int) + 1)
        have HFI := Lib.hid (HF.out ((i : Int) + 1) (by omega) i1)
        cases hex : exactB l ((i : Int) + 1) with
        | true =>
          rw [hex] at hfe
          have hz := of_decide_eq_true hfe
          rw [hz] at HFI
          clear hfe hz
          go_wp2_with (go_at_call 60; refine HFI.out.mono ?_; rintro e w3 ⟨rfl, rfl⟩)
          go_ret2
          refine ⟨?_, hB2⟩
          have hr : exactGridR l = #[.int .i64 ((i : Int) + 1), .bool true] := by simp [exactGridR, HG.out, gridF_some HNO.out hex h48]
          rw [hr]
          rfl
        | false =>
          rw [hex] at hfe
          have hz := of_decide_eq_false hfe
          have hzb : (farL ((i : Int) + 1) (edgesTo l l.length) == 0) = false := by rw [beq_eq_false_iff_ne]; exact hz
          clear hfe hz
          generalize farL ((i : Int) + 1) (edgesTo l l.length) = F at *
          go_wp2_with (go_at_call 60; refine HFI.out.mono ?_; rintro e w3 ⟨rfl, rfl⟩)
          go_round
          case rel =>
            refine ⟨i + 1, by omega, by first | go_num | (congr 1; omega), fun j hj => ?_⟩
            rcases Nat.lt_or_ge j i with h | h
            · exact HNO.out j h
            · obtain rfl : j = i := by omega
              exact hex
          case measure => simp [intOf]; omega
      · obtain rfl : i = 48 := by omega
        go_wp2
        go_ret2
        refine ⟨?_, hB2⟩
        have hr : exactGridR l = #[.int .i64 0, .bool false] := by simp [exactGridR, HG.out, gridF_none HNO.out]
        rw [hr]
        rfl

set_option maxRecDepth 100000 in
set_option maxHeartbeats 4000000 in
theorem specExactGrid_any (g : Nat) (l : List Nt) (c : Nat) (w : World) (hn : l.length ≤ 1048576) (hc : l.length ≤ c) (hc' : c ≤ 9223372036854775807) (hA : RA w (some ⟨g, 0, none⟩) l) :
    Calls Try.prog 28 #[.slice (some ⟨g, 0, none⟩) l.length c] w fun e w' => e = .returned (.tuple (exactGridR l)) ∧ Below w.heap.size w w' := by
  cases hg : goodV l with
  | false =>
    have hr : exactGridR l = #[.int .i64 0, .bool false] := by simp [exactGridR, hg]
    rw [hr]
    go_enter Try.func28, Try.ntmps28
    go_wp2_with fail
    refine (noGood_any _ _ _ _ hn hA).mono ?_
    rintro e w1 ⟨rfl, hb1⟩
    go_wp2
    go_ret2
    exact ⟨rfl, hb1⟩
  | true =>
    have h20 := ((goodV_iff l).1 hg).2
    have hok := okT_of hg
    have HN := Lib.hid (fun (k : Nat) (hk : k ≤ l.length) W hA => noSum_any (some ⟨g, 0, none⟩) (l.take k) k c W (by rw [List.length_take]; omega) (by omega) (fun x hx => hok x (List.mem_of_mem_take hx)) hA)
    have HT := Lib.hid (tks_of hg)
    have HG := Lib.hid hg
    have HA := Lib.hid hA
    clear hok hA
    go_enter Try.func28, Try.ntmps28
    go_wp2_with fail
    refine (noGood_any _ _ _ _ hn HA.out).mono ?_
    rintro e w1 ⟨rfl, hb1⟩
    have HA1 := Lib.hid (HA.out.below hb1)
    go_wp2_with fail
    go_loopw [4] (fun a wr => ∃ i : Nat, i ≤ 48 ∧ a = .int .i64 ((i : Int) + 1) ∧ (∀ j : Nat, j < i → exactB l ((j : Int) + 1) = false) ∧ Below w1.heap.size w1 wr)
      (fun a _ => 49 - (intOf a).toNat)
    case atStart => exact ⟨0, by omega, rfl, fun j h => absurd h (by omega), Below.refl _ _⟩
    case round =>
      obtain ⟨i, hi, rfl, hno, hb⟩ := hrel
      have HNO := Lib.hid hno
      clear hno
      by_cases h48 : i < 48
      · have i1 : (i : Int) + 1 ≤ 48 := by omega
        have i0 : (1 : Int) ≤ (i : Int) + 1 := by omega
        obtain ⟨r, hr⟩ : ∃ r : Int, r = (i : Int) + 1 := ⟨_, rfl⟩
        rw [← hr] at i0 i1 ⊢
        have HRR := Lib.hid hr
        clear hr
        go_wp2_with fail
        go_loopw [5, 6] (fun b a wx => ∃ k : Nat, k ≤ l.length + 1 ∧ a = .int .i64 (k : Int) ∧ b = .bool (exactTo l r k) ∧ Below wr.heap.size wr wx)
          (fun _ a _ => l.length + 1 - (intOf a).toNat)
        case atStart => exact ⟨0, by omega, rfl, rfl, Below.refl _ _⟩
        case round =>
          obtain ⟨k, hk, rfl, rfl, hbx⟩ := hrel
          by_cases hkl : k ≤ l.length
          · have j1 : (k : Int) ≤ (l.length : Int) := by omega
            have j2 : (0 : Int) ≤ (k : Int) := by omega
            have j3 : (k : Int) ≤ (c : Int) := by omega
            have hT := HT.out k
            have hs := low_spec hT.1 (show (0 : Int) < 720720 by omega)
            have hwl := whole_low (T := tks (l.take k)) (g := r) hT.1
            have hes := exactTo_succ l r k
            have HNK := Lib.hid (HN.out k hkl)
            have a0 := hs.2.2.2.1
            have b0 := hs.2.2.2.2.1
            have a1 := hs.2.2.2.2.2.1
            have b1 := hs.2.2.2.2.2.2.1
            clear hs
            generalize (low (tks (l.take k)) 720720).1 = a at *
            generalize (low (tks (l.take k)) 720720).2 = b at *
            have hm := mul_bounds (t := a) (g := r) a0 (by omega) i0 i1
            have hz : (b == 0) = false := by rw [beq_eq_false_iff_ne]; omega
            have hq : (a * r).tmod b = a * r % b := Int.tmod_eq_emod_of_nonneg hm.1
            have hq0 : 0 ≤ a * r % b := Int.emod_nonneg _ (by omega)
            have hq1 : a * r % b < b := Int.emod_lt_of_pos _ b0
            have hdd : decide (tks (l.take k) * r % 720720 = 0) = decide (a * r % b = 0) := by rw [Bool.eq_iff_iff]; simp only [decide_eq_true_eq]; exact hwl.symm
            rw [hdd] at hes
            clear hwl hdd hT
            generalize a * r % b = q at *
            generalize hu : a * r = u at *
            have HES := Lib.hid hes
            clear hes
            cases hex : exactTo l r k with
            | false =>
              go_wp2_with fail
              refine (HNK.out _ (((HA1.out.below hb).below hbx).take k)).mono ?_
              rintro e w3 ⟨rfl, hb3⟩
              go_wp2
              go_roundw
              case rel => exact ⟨k + 1, by omega, by go_num, by rw [HES.out, hex]; rfl, hbx.trans (hb3.mono hbx.size)⟩
              case measure => simp [intOf]; omega
            | true =>
              by_cases h0 : q = 0
              · subst h0
                go_wp2_with fail
                refine (HNK.out _ (((HA1.out.below hb).below hbx).take k)).mono ?_
                rintro e w3 ⟨rfl, hb3⟩
                go_wp2
                go_roundw
                case rel => exact ⟨k + 1, by omega, by go_num, by rw [HES.out, hex]; rfl, hbx.trans (hb3.mono hbx.size)⟩
                case measure => simp [intOf]; omega
              · have hqb : (q == 0) = false := by rw [beq_eq_false_iff_ne]; exact h0
                go_wp2_with fail
                refine (HNK.out _ (((HA1.out.below hb).below hbx).take k)).mono ?_
                rintro e w3 ⟨rfl, hb3⟩
                go_wp2
                go_roundw
                case rel => exact ⟨k + 1, by omega, by go_num, by rw [HES.out, hex]; simp [h0], hbx.trans (hb3.mono hbx.size)⟩
                case measure => simp [intOf]; omega
          · obtain rfl : k = l.length + 1 := by omega
            have hbB := hb.trans (hbx.mono hb.size)
            have j4 : ¬ ((l.length : Int) + 1 ≤ (l.length : Int)) := by omega
            cases hex : exactTo l r (l.length + 1) with
            | true =>
              go_wp2
              go_ret2
              refine ⟨?_, hb1.trans (hbB.mono hb1.size)⟩
              have hre : exactGridR l = #[.int .i64 r, .bool true] := by
                have hr := HRR.out
                have he : exactB l ((i : Int) + 1) = true := by unfold exactB; rw [← hr]; exact hex
                simp [exactGridR, HG.out, gridF_some HNO.out he h48, hr]
              rw [hre]
              rfl
            | false =>
              go_wp2
              go_roundw
              case rel =>
                refine ⟨i + 1, by omega, by have hr := HRR.out; first | (rw [hr]; go_num) | (congr 1; omega) | go_num, fun j hj => ?_, hbB⟩
                rcases Nat.lt_or_ge j i with h | h
                · exact HNO.out j h
                · obtain rfl : j = i := by omega
                  unfold exactB; rw [← HRR.out]; exact hex
              case measure => have hr := HRR.out; simp [intOf]; omega
      · obtain rfl : i = 48 := by omega
        go_wp2
        go_ret2
        refine ⟨?_, hb1.trans (hb.mono hb1.size)⟩
        have hre : exactGridR l = #[.int .i64 0, .bool false] := by simp [exactGridR, HG.out, gridF_none HNO.out]
        rw [hre]
        rfl

end Go.Proofs.Ytecbeicppfcofaa
