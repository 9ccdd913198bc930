/- Decimal numerals and names of pitches: the model's and the program's functions. -/
import Derived.Test.YtfjcnomingbneacDoorSmall
import Derived.Lib.ItoaNum
import Derived.Lib.QuietBelow
import Derived.Deep.RegionHeld3
import Derived.Deep.RegionWith
namespace Go.Proofs.YtfjcnomingbneacDoor
open Go.RowKit Go.Sort
set_option linter.unusedVariables false

theorem decDigits_small {n : Nat} (h : n < 10) : Lib.decDigits n = [UInt8.ofNat (48 + n)] := by rw [Lib.decDigits, dif_pos h]
theorem decDigits_big {n : Nat} (h : ¬ n < 10) : Lib.decDigits n = Lib.decDigits (n / 10) ++ [UInt8.ofNat (48 + n % 10)] := by rw [Lib.decDigits, dif_neg h]

theorem conv_one (m : Nat) (W : World) (b : Nat) (hc : W.cell? ⟨b, 0, none⟩ = some (.int .u8 (m : Int))) :
    (convert 41 9 (.slice (some ⟨b, 0, none⟩) 1 1)).run Tryd.prog W = .ok (.string ⟨[UInt8.ofNat m].toArray⟩) W := by
  rw [run_convert_bytes_string W _ _ _ _ _ _ Tryd.underlying41 Tryd.underlying5 Tryd.underlying9]
  have hl := run_loadCells (P := Tryd.prog) (w := W) ⟨b, 0, none⟩ 1 (fun _ => .int .u8 (m : Int)) (by
    intro j hj
    obtain rfl : j = 0 := by omega
    simpa [Addr.add] using hc)
  have h2 := run_bytesToString (P := Tryd.prog) W ⟨b, 0, none⟩ 1 1 [(m : Int)] (by rw [hl]; rfl)
  rw [h2]
  rfl

theorem bytes_append (a b : List UInt8) : (⟨a.toArray⟩ : ByteArray) ++ ⟨b.toArray⟩ = ⟨(a ++ b).toArray⟩ := by
  apply ByteArray.ext
  simp

set_option maxHeartbeats 400000 in
theorem l1Num_small (n : Nat) (h10 : n < 10) (w : World) :
    Calls Tryd.prog 35 #[.int .i64 (n : Int)] w fun e w' => e = .returned (.string ⟨(Lib.decDigits n).toArray⟩) ∧ Below w.heap.size w w' := by
  have hcv : ∀ (W : World) (b : Nat), W.cell? ⟨b, 0, none⟩ = some (.int .u8 (48 + (n : Int))) → (convert 41 9 (.slice (some ⟨b, 0, none⟩) 1 1)).run Tryd.prog W = .ok (.string ⟨(Lib.decDigits n).toArray⟩) W := by
    intro W b hc
    rw [decDigits_small h10]
    exact conv_one (48 + n) W b (by rw [hc]; simp)
  go_enter Tryd.func35, Tryd.ntmps35
  go_wp2
  go_ret
  exact ⟨rfl, (Below.refl _ _).alloc (Nat.le_refl _) _⟩

/-- The twelve names. -/
def names : List (List UInt8) := [[99], [99, 35], [100], [100, 35], [101], [102], [102, 35], [103], [103, 35], [97], [97, 35], [98]]
def nameOf (r : Nat) : List UInt8 := names.getD r []

set_option maxHeartbeats 400000 in
theorem ntNames_any (w : World) :
    Calls Tryd.prog 45 #[] w fun e w' => e = .returned (.slice (some ⟨w.heap.size, 0, none⟩) 12 12) ∧ w' = w.alloc (.cells (names.map fun l => Value.string ⟨l.toArray⟩).toArray 9) := by
  go_enter Tryd.func45, Tryd.ntmps45
  go_wp2
  go_ret
  exact ⟨rfl, rfl⟩

end Go.Proofs.YtfjcnomingbneacDoor
