/- Contracts of the laws' marks on instruments. -/
import Derived.Test.YtfjcnomingbneacDoorInsL
import Derived.Test.YtfjcnomingbneacDoorInsF
import Derived.Test.YtfjcnomingbneacDoorHeld
namespace Go.Proofs.YtfjcnomingbneacDoor
open Go.RowKit
set_option linter.unusedVariables false

theorem OwnI.form2 {w : World} {base t : Nat} {v : Value} {l : List Int} (h : OwnI w base t v l) : ∃ A c, v = .slice A l.length c ∧ RI w A l := by
  obtain ⟨A, c, h1, h2, _⟩ := h.form
  exact ⟨A, c, h1, h2⟩

set_option maxRecDepth 100000 in
set_option maxHeartbeats 1000000 in
theorem markIns_any (A : Option Addr) (l : List Int) (c : Nat) (r K : Int) (base : Nat) (w : World) (hn : l.length ≤ 1048576) (hK : 0 ≤ K) (hK' : K ≤ 1048576) (hv : OwnI w base 3 (.slice A l.length c) l) :
    Calls Tryd.prog 12 #[.agg #[.slice A l.length c, .int .i64 r], .int .i64 K] w fun e w' => e = .returned (.int .i64 (K + l.length)) ∧ OwnI w' base 3 (.slice A l.length c) (mki l.length K) ∧ w.grownBy w' (Value.slice A l.length c).ownBlock := by
  have hg0 := World.grownBy_alloc w (.cells #[.slice A l.length c, .int .i64 r] 28) (Value.slice A l.length c).ownBlock
  have hv0 : OwnI (w.alloc (.cells #[.slice A l.length c, .int .i64 r] 28)) base 3 (.slice A l.length c) l := hv.below ((Below.refl _ _).alloc (Nat.le_refl _) _) (Nat.le_refl _)
  go_enter Tryd.func12, Tryd.ntmps12
  go_wp2_with fail
  generalize w.alloc (.cells #[.slice A l.length c, .int .i64 r] 28) = W at *
  refine (markIntS_any _ _ _ _ _ hn hK hK' hv0).mono ?_
  rintro e w1 ⟨rfl, hv1, hg1⟩
  go_wp2
  go_ret
  exact ⟨rfl, hv1, hg0.trans hg1⟩

set_option maxRecDepth 100000 in
set_option maxHeartbeats 1000000 in
theorem heldIns_any (A : Option Addr) (K r : Int) (n c : Nat) (w : World) (hn : n ≤ 1048576) (hK : 0 ≤ K) (hK' : K ≤ 1048576) (hA : RI w A (mki n K)) :
    Calls Tryd.prog 13 #[.agg #[.slice A n c, .int .i64 r], .int .i64 K] w fun e w' => e = .returned (.int .i64 (K + n)) ∧ Below w.heap.size w w' := by
  have hb0 : Below w.heap.size w (w.alloc (.cells #[.slice A n c, .int .i64 r] 28)) := (Below.refl w.heap.size w).alloc (Nat.le_refl _) _
  have hpos : ¬ (K + (n : Int) < 0) := by omega
  go_enter Tryd.func13, Tryd.ntmps13
  go_wp2_with fail
  refine (heldIntS_any _ _ _ _ _ hn hK hK' (hA.below hb0)).mono ?_
  rintro e w1 ⟨rfl, rfl⟩
  go_wp2
  go_ret
  exact ⟨rfl, hb0⟩
end Go.Proofs.YtfjcnomingbneacDoor
