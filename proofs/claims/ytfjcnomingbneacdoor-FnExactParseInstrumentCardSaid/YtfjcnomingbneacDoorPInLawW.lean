/- The walk of the law of ParseInstrument. -/
import Derived.Test.YtfjcnomingbneacDoorPInS
import Derived.Test.YtfjcnomingbneacDoorMark
import Derived.Deep.DeepCutAuto
namespace Go.Proofs.YtfjcnomingbneacDoor
open Go.ChangeShapes Go.WideShapes Go.ChangeAt Go.RowKit
set_option linter.unusedVariables false
set_option linter.unusedSimpArgs false

theorem insVal (s : List UInt8) : ∃ (G : List Int) (q : Int) (ok : Bool), G.length ≤ 1048576 ∧ ∀ base w e, InsOf s base w e → ∃ v, e = .returned (.tuple #[.agg #[v, .int .i64 q], .bool ok]) ∧ OwnI w base 3 v G := by
  by_cases h : ∃ l r, gdI l r = true ∧ iT l r = s
  · obtain ⟨l, r, hg, hi⟩ := h
    refine ⟨l, r, true, by have := (gdI_facts hg).1; omega, ?_⟩
    intro base w e he
    rcases he with ⟨l', r', v, hg', hi', rfl, ho⟩ | ⟨hno, _⟩
    · obtain ⟨rfl, rfl⟩ := iT_inj hg' hg (hi'.trans hi.symm)
      exact ⟨v, rfl, ho⟩
    · exact absurd hi (hno l r hg)
  · refine ⟨[], 0, false, by simp, ?_⟩
    intro base w e he
    rcases he with ⟨l', r', v, hg', hi', _, _⟩ | ⟨hno, rfl⟩
    · exact absurd ⟨l', r', hg', hi'⟩ h
    · exact ⟨_, rfl, OwnI.nil _ _ _⟩

theorem Box.grown {w w' : World} {b : Nat} {A : Option Addr} {n c : Nat} {r : Int} {row : Option Nat} (h : Box w b A n c r) (hg : w.grownBy w' row) (hne : some b ≠ row) : Box w' b A n c r := by
  have hblk := hg.block b h.2.2 hne
  refine ⟨?_, ?_, Nat.lt_of_lt_of_le h.2.2 hg.size⟩
  · rw [World.cell?_of_block (a := ⟨b, 0, none⟩) hblk]; exact h.1
  · rw [World.cell?_of_block (a := ⟨b, 1, none⟩) hblk]; exact h.2.1

set_option maxRecDepth 100000 in
set_option maxHeartbeats 8000000 in
theorem parseILaw_walk (s : List UInt8) (w : World) (hT : Tabs w) (hE : Errs w) (hL : Lim w) :
    Calls Tryd.prog 4 #[.string (bs s)] w fun e w' => e = .returned (.bool true) ∧ Below w.heap.size w w' := by
  have hsz : (bs s).size = s.length := bs_size s
  by_cases hbig : s.length ≤ 1048576
  · have i0 : ¬ ((1048576 : Int) < (s.length : Int)) := by omega
    obtain ⟨G, q, ok, hG, HV0⟩ := insVal s
    have HV := Lib.hid HV0
    clear HV0
    go_enter Tryd.func4, Tryd.ntmps4
    go_wp2_with fail
    refine (specParseI_any s w hbig).mono ?_
    rintro e w1 ⟨hI, hB⟩
    obtain ⟨v0, rfl, hv0⟩ := HV.out _ _ _ hI
    have lt0 := Lib.hid hv0.lt
    obtain ⟨A0, k0, rfl, -, -, -, -, -⟩ := hv0.form
    have hb := (Below.refl w1.heap.size w1).alloc (Nat.le_refl _) (.cells #[.slice A0 G.length k0, .int .i64 q] 28)
    have hX3 := Box.new w1 A0 G.length k0 q 28
    have hB := hB.trans (hb.mono hB.size)
    have hv0 := hv0.below hb (Nat.le_refl _)
    have HZ1 := Lib.hid hX3.2.2
    have HZ0 := Lib.hid hB.size
    clear hI hb
    go_wp2_with fail
    generalize w1.alloc (.cells #[.slice A0 G.length k0, .int .i64 q] 28) = W1 at *
    refine (implParseI_any s W1 hbig (hT.below hB) (hE.below hB) (hL.below hB)).mono ?_
    rintro e w2 ⟨hI, hb⟩
    obtain ⟨v1, rfl, hv1⟩ := HV.out _ _ _ hI
    have hX3 := hX3.below hb
    have hv0 := hv0.below hb (Nat.le_refl _)
    have hBs := hB.size
    have hB := hB.trans (hb.mono hB.size)
    have lt1 := Lib.hid hv1.lt
    clear hI hb
    obtain ⟨A1, k1, rfl, -, -, -, -, -⟩ := hv1.form
    have hb := (Below.refl w2.heap.size w2).alloc (Nat.le_refl _) (.cells #[.slice A1 G.length k1, .int .i64 q] 28)
    have hX5 := Box.new w2 A1 G.length k1 q 28
    have hX3 := hX3.below hb
    have hv0 := hv0.below hb (Nat.le_refl _)
    have hv1 := hv1.below hb (Nat.le_refl _)
    have hB := hB.trans (hb.mono hB.size)
    clear hb
    obtain ⟨a0, a1, az⟩ := id hX3
    obtain ⟨b0, b1, bz⟩ := id hX5
    go_wp2_with fail
    generalize w2.alloc (.cells #[.slice A1 G.length k1, .int .i64 q] 28) = W2 at *
    refine (eqIns_any _ _ _ _ _ _ _ _ _ (by omega) (by omega) hv1.ra hv0.ra).mono ?_
    rintro e w3 ⟨rfl, hb⟩
    have hX3 := hX3.below hb
    have hX5 := hX5.below hb
    have hv0 := hv0.below hb (Nat.le_refl _)
    have hv1 := hv1.below hb (Nat.le_refl _)
    have hB := hB.trans (hb.mono hB.size)
    clear hb a0 a1 az b0 b1 bz
    obtain ⟨b0, b1, bz⟩ := id hX5
    go_wp2_with fail
    refine (markIns_any A1 G k1 q 1 _ _ hG (by omega) (by omega) hv1).mono ?_
    rintro e w4 ⟨rfl, hm1, hg⟩
    have hz1 : w1.heap.size < W1.heap.size := HZ1.out
    have hX3 := hX3.grown hg (fun h => by have := (lt1.out _ h.symm).1; omega)
    have hX5 := hX5.grown hg (fun h => by have := (lt1.out _ h.symm).2; omega)
    have hv0 := hv0.grown hg (by
      cases hj : (Value.slice A0 G.length k0).ownBlock with
      | none => exact .inl rfl
      | some j => exact .inr fun h => by have h1 := (lt1.out _ h.symm).1; have h2 := (lt0.out _ hj).2; omega)
    have hB := hB.grown hg hB.size (fun j hj => by have := (lt1.out _ hj).1; have := HZ0.out; omega)
    have hp : ¬ (1 + (G.length : Int) < 0) := by omega
    clear hg hv1 b0 b1 bz
    obtain ⟨b0, b1, bz⟩ := id hX5
    go_wp2_with fail
    refine (heldIns_any A1 1 q G.length k1 _ hG (by omega) (by omega) hm1.ra).mono ?_
    rintro e w5 ⟨rfl, hb⟩
    have hX3 := hX3.below hb
    have hX5 := hX5.below hb
    have hv0 := hv0.below hb (Nat.le_refl _)
    have hm1 := hm1.below hb (Nat.le_refl _)
    have hB := hB.trans (hb.mono hB.size)
    clear hb b0 b1 bz
    go_wp2_with fail
    refine (implParseI_any s w5 hbig (hT.below hB) (hE.below hB) (hL.below hB)).mono ?_
    rintro e w6 ⟨hI, hb⟩
    obtain ⟨v2, rfl, hv2⟩ := HV.out _ _ _ hI
    have hX3 := hX3.below hb
    have hX5 := hX5.below hb
    have hv0 := hv0.below hb (Nat.le_refl _)
    have hm1 := hm1.below hb (Nat.le_refl _)
    have hB := hB.trans (hb.mono hB.size)
    clear hI hb
    obtain ⟨A2, k2, rfl, -, -, -, -, -⟩ := hv2.form
    have hb := (Below.refl w6.heap.size w6).alloc (Nat.le_refl _) (.cells #[.slice A2 G.length k2, .int .i64 q] 28)
    have hX9 := Box.new w6 A2 G.length k2 q 28
    have hX3 := hX3.below hb
    have hX5 := hX5.below hb
    have hv0 := hv0.below hb (Nat.le_refl _)
    have hm1 := hm1.below hb (Nat.le_refl _)
    have hv2 := hv2.below hb (Nat.le_refl _)
    have hB := hB.trans (hb.mono hB.size)
    clear hb
    obtain ⟨a0, a1, az⟩ := id hX3
    obtain ⟨n0, n1, nz⟩ := id hX9
    go_wp2_with fail
    generalize w6.alloc (.cells #[.slice A2 G.length k2, .int .i64 q] 28) = W6 at *
    refine (eqIns_any _ _ _ _ _ _ _ _ _ (by omega) (by omega) hv2.ra hv0.ra).mono ?_
    rintro e w7 ⟨rfl, hb⟩
    have hX5 := hX5.below hb
    have hm1 := hm1.below hb (Nat.le_refl _)
    have hB := hB.trans (hb.mono hB.size)
    clear hb a0 a1 az n0 n1 nz hX3 hX9
    obtain ⟨b0, b1, bz⟩ := id hX5
    go_wp2_with fail
    refine (heldIns_any A1 1 q G.length k1 _ hG (by omega) (by omega) hm1.ra).mono ?_
    rintro e w8 ⟨rfl, hb⟩
    go_wp2
    go_ret
    exact ⟨rfl, hB.trans (hb.mono hB.size)⟩
  · have i0 : (1048576 : Int) < (s.length : Int) := by omega
    go_enter Tryd.func4, Tryd.ntmps4
    go_wp2
    go_ret
    exact ⟨rfl, Below.refl _ _⟩
end Go.Proofs.YtfjcnomingbneacDoor
