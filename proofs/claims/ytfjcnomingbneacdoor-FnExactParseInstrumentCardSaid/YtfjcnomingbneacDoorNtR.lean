/- The model reads a name of a pitch. -/
import Derived.Test.YtfjcnomingbneacDoorL1R
namespace Go.Proofs.YtfjcnomingbneacDoor
open Go.RowKit Go.Sort
set_option linter.unusedVariables false
set_option linter.unusedSimpArgs false

/-- The pitch with a name, or -1. -/
def ntRd (s : List UInt8) : Int := match (List.range 73).find? (fun (i : Nat) => decide (nm (24 + (i : Int)) = s)) with
  | some i => 24 + (i : Int)
  | none => -1
theorem find_range (p : Nat → Bool) (n k : Nat) (hk : k < n) (hlow : ∀ i, i < k → p i = false) (hp : p k = true) : (List.range n).find? p = some k := by
  rw [List.find?_range_eq_some]
  refine ⟨hp, by simpa using hk, fun j hj => ?_⟩
  simp [hlow j hj]
theorem ntRd_at {s : List UInt8} {k : Nat} (hk : k < 73) (hlow : ∀ i : Nat, i < k → nm (24 + (i : Int)) ≠ s) (h : nm (24 + (k : Int)) = s) : ntRd s = 24 + (k : Int) := by
  unfold ntRd
  rw [find_range _ 73 k hk (fun i hi => by simp [hlow i hi]) (by simp [h])]
theorem ntRd_none {s : List UInt8} (h : ∀ i : Nat, i < 73 → nm (24 + (i : Int)) ≠ s) : ntRd s = -1 := by
  unfold ntRd
  rw [List.find?_eq_none.2 (fun i hi => by simp only [List.mem_range] at hi; simp [h i hi])]
theorem bs_inj {a b : List UInt8} (h : bs a = bs b) : a = b := by
  have := congrArg (fun x => x.data.toList) h
  simpa [bs] using this

theorem bs_toList (a : List UInt8) : (bs a).toList = a := ByteArray.toList_mk a

set_option maxRecDepth 100000 in
set_option maxHeartbeats 2000000 in
theorem ntRead_any (s : List UInt8) (w : World) :
    Calls Tryd.prog 42 #[.string (bs s)] w fun e w' => e = .returned (.int .i64 (ntRd s)) ∧ Below w.heap.size w w' := by
  go_enter Tryd.func42, Tryd.ntmps42
  go_wp2
  go_loopw [3] (fun p wr => ∃ k : Nat, k ≤ 73 ∧ p = .int .i64 (24 + (k : Int)) ∧ (∀ i : Nat, i < k → nm (24 + (i : Int)) ≠ s) ∧ Below w.heap.size w wr)
    (fun p _ => 97 - (intOf p).toNat)
  case atStart => exact ⟨0, by omega, rfl, fun _ h => absurd h (by omega), Below.refl _ _⟩
  case round =>
    obtain ⟨k, hk, rfl, hno, hb⟩ := hrel
    have HN := Lib.hid hno
    clear hno
    by_cases hlt : k < 73
    · have i1 : (24 : Int) + (k : Int) ≤ 96 := by omega
      have i0 : (0 : Int) ≤ (k : Int) := by omega
      have CN := Lib.hid (fun W => ntName_n (24 + (k : Int)) W (by omega) (by omega))
      by_cases he : nm (24 + (k : Int)) = s
      · have HE := Lib.hid (ntRd_at hlt HN.out he)
        have hes : bs (nm (24 + (k : Int))) = bs s := by rw [he]
        go_wp2_with (go_at_call 34; refine (CN.out _).mono ?_; rintro e w1 ⟨rfl, hb1⟩; rw [hes])
        go_ret
        exact ⟨by rw [HE.out]; rfl, hb.trans (hb1.mono hb.size)⟩
      · have hes : ((bs (nm (24 + (k : Int)))).toList == (bs s).toList) = false := by rw [bs_toList, bs_toList]; simpa using he
        generalize bs (nm (24 + (k : Int))) = N at *
        generalize hS : bs s = S at *
        clear hS
        go_wp2_with (go_at_call 34; refine (CN.out _).mono ?_; rintro e w1 ⟨rfl, hb1⟩)
        refine ⟨⟨k + 1, by omega, by go_num, ?_, hb.trans (hb1.mono hb.size)⟩, by simp [intOf]; omega⟩
        intro i hi
        rcases Nat.lt_or_ge i k with h | h
        · exact HN.out i h
        · obtain rfl : i = k := by omega
          exact he
    · obtain rfl : k = 73 := by omega
      have HE := Lib.hid (ntRd_none HN.out)
      go_wp2
      go_ret
      exact ⟨by rw [HE.out]; rfl, hb⟩
end Go.Proofs.YtfjcnomingbneacDoor
