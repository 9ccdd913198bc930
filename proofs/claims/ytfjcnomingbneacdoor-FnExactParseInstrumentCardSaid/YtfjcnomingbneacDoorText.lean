/- Texts as lists of bytes: names of pitches, decimals (what the text of an instrument asks for). -/
import Derived.Test.YtfjcnomingbneacDoorNum3
import Derived.Test.YtfjcnomingbneacDoorName
import Derived.LoopTactic
import Derived.Lib.QuietBelow
namespace Go.Proofs.YtfjcnomingbneacDoor
open Go.RowKit Go.Sort
set_option linter.unusedVariables false
set_option linter.unusedSimpArgs false

def bs (l : List UInt8) : ByteArray := ⟨l.toArray⟩
theorem bs_append (a b : List UInt8) : bs a ++ bs b = bs (a ++ b) := bytes_append a b
theorem bs_size (a : List UInt8) : (bs a).size = a.length := by simp [bs, ByteArray.size]
def nm (p : Int) : List UInt8 := nameOf (p % 12).toNat ++ Lib.decDigits (p / 12).toNat
def dec (z : Int) : List UInt8 := Lib.decDigits z.toNat
theorem nm_len (p : Int) (h : 24 ≤ p) (h' : p ≤ 96) : (nm p).length ≤ 3 := by
  have h1 := nameOf_len (p % 12).toNat
  have h2 : (p / 12).toNat < 10 := by omega
  simp only [nm, List.length_append]
  rw [decDigits_small h2]
  simp; omega
theorem dec_len (z : Int) (h : z ≤ 999) : (dec z).length ≤ 3 := decDigits_len3 _ (by omega)
theorem ntName_n (p : Int) (w : World) (h : 24 ≤ p) (h' : p ≤ 96) :
    Calls Tryd.prog 34 #[.int .i64 p] w fun e w' => e = .returned (.string (bs (nm p))) ∧ Below w.heap.size w w' :=
  ntName_qr p (p / 12).toNat (p % 12).toNat w (by omega) (by omega) (by omega)

end Go.Proofs.YtfjcnomingbneacDoor
