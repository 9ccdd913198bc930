/- The walk of the law of ParseVoice. -/
import Derived.Test.YtfjcnomingbneabDoorPVoI
import Derived.Test.YtfjcnomingbneabDoorPVoS
import Derived.Test.YtfjcnomingbneabDoorMarkE
namespace Go.Proofs.YtfjcnomingbneabDoor
open Go.ChangeShapes Go.WideShapes Go.ChangeAt Go.RowKit
set_option linter.unusedVariables false
set_option linter.unusedSimpArgs false

theorem vcVal (s : List UInt8) : ∃ (G : List Nt) (ok : Bool), G.length ≤ 1048576 ∧ ∀ base w e, VcOf s base w e → ∃ v, e = .returned (.tuple #[v, .bool ok]) ∧ Own w base 42 v G := by
  by_cases h : ∃ l, goodV l = true ∧ vT l = s
  · obtain ⟨l, hg, hi⟩ := h
    have hk := good_evs hg
    refine ⟨l, true, by omega, ?_⟩
    intro base w e he
    rcases he with ⟨l', v, hg', hi', rfl, ho⟩ | ⟨hno, _⟩
    · obtain rfl : l' = l := by
        by_cases h0 : s = []
        · rw [h0] at hi hi'
          rw [vT_nil hi, vT_nil hi']
        · rw [← mo_end h0 hg hi, ← mo_end h0 hg' hi']
      exact ⟨v, rfl, ho⟩
    · exact absurd hi (hno l hg)
  · refine ⟨[], false, by simp, ?_⟩
    intro base w e he
    rcases he with ⟨l', v, hg', hi', _, _⟩ | ⟨hno, rfl⟩
    · exact absurd ⟨l', hg', hi'⟩ h
    · exact ⟨_, rfl, Own.nil _ _ _⟩

set_option maxRecDepth 100000 in
set_option maxHeartbeats 8000000 in
theorem parseVoLaw_walk (s : List UInt8) (w : World) (hP : PW w) :
    Calls Tryd.prog 4 #[.string (bs s)] w fun e w' => e = .returned (.bool true) ∧ RowKit.Below w.heap.size w w' := by
  have hsz : (bs s).size = s.length := bs_size s
  by_cases hbig : s.length ≤ 1048576
  · have i0 : ¬ ((1048576 : Int) < (s.length : Int)) := by omega
    obtain ⟨G, ok, hG, HV0⟩ := vcVal s
    have HV := Lib.hid HV0
    clear HV0
    go_enter Tryd.func4, Tryd.ntmps4
    go_wp2_with fail
    refine (specParseV_any s w hbig).mono ?_
    rintro e w1 ⟨hI, hB⟩
    obtain ⟨v0, rfl, hv0⟩ := HV.out _ _ _ hI
    have lt0 := Lib.hid hv0.lt
    clear hI
    go_wp2_with fail
    refine (implParseV_any s w1 (by omega) (hP.below hB)).mono ?_
    rintro e w2 ⟨hI, hb⟩
    obtain ⟨v1, rfl, hv1⟩ := HV.out _ _ _ hI
    have hv0 := hv0.below hb (Nat.le_refl _)
    have HZ := Lib.hid hB.size
    have hB := hB.trans (hb.mono hB.size)
    have lt1 := Lib.hid hv1.lt
    clear hI hb
    obtain ⟨A0, k0, hf0, hr0⟩ := hv0.form
    obtain ⟨A1, k1, hf1, hr1⟩ := hv1.form
    subst hf0
    subst hf1
    go_wp2_with fail
    refine (eqEventS_any _ _ _ _ _ _ _ (by omega) (by omega) hr1 hr0).mono ?_
    rintro e w3 ⟨rfl, hb⟩
    have hv0 := hv0.below hb (Nat.le_refl _)
    have hv1 := hv1.below hb (Nat.le_refl _)
    have hB := hB.trans (hb.mono hB.size)
    clear hb hr0 hr1
    go_wp2_with fail
    refine (markEventS_any _ G 1 _ _ hG (by omega) (by omega) hv1).mono ?_
    rintro e w4 ⟨rfl, hm1, hg⟩
    have hv0 := hv0.grown hg (by
      cases hj : (Value.slice A0 G.length k0).ownBlock with
      | none => exact .inl rfl
      | some j => exact .inr fun h => by have h1 := (lt1.out _ h.symm).1; have h2 := (lt0.out _ hj).2; omega)
    have hB := hB.grown hg hB.size (fun j hj => by have := (lt1.out _ hj).1; have := HZ.out; omega)
    have hp : ¬ (1 + 3 * (G.length : Int) < 0) := by omega
    clear hg hv1
    have hmr1 := hm1.ra
    go_wp2_with fail
    refine (heldEventS_any _ 1 G.length _ _ hG (by omega) (by omega) hmr1).mono ?_
    rintro e w5 ⟨rfl, rfl⟩
    go_wp2_with fail
    refine (implParseV_any s w4 (by omega) (hP.below hB)).mono ?_
    rintro e w6 ⟨hI, hb⟩
    obtain ⟨v2, rfl, hv2⟩ := HV.out _ _ _ hI
    have hv0 := hv0.below hb (Nat.le_refl _)
    have hm1 := hm1.below hb (Nat.le_refl _)
    have hB := hB.trans (hb.mono hB.size)
    clear hI hb
    obtain ⟨A2, k2, hf2, hr2⟩ := hv2.form
    subst hf2
    have hr0 := hv0.ra
    go_wp2_with fail
    refine (eqEventS_any _ _ _ _ _ _ _ (by omega) (by omega) hr2 hr0).mono ?_
    rintro e w7 ⟨rfl, hb⟩
    have hm1 := hm1.below hb (Nat.le_refl _)
    have hB := hB.trans (hb.mono hB.size)
    clear hb
    have hmr2 := hm1.ra
    go_wp2_with fail
    refine (heldEventS_any _ 1 G.length _ _ hG (by omega) (by omega) hmr2).mono ?_
    rintro e w8 ⟨rfl, rfl⟩
    go_wp2
    go_ret
    exact ⟨rfl, hB⟩
  · have i0 : (1048576 : Int) < (s.length : Int) := by omega
    go_enter Tryd.func4, Tryd.ntmps4
    go_wp2
    go_ret
    exact ⟨rfl, RowKit.Below.refl _ _⟩
end Go.Proofs.YtfjcnomingbneabDoor
