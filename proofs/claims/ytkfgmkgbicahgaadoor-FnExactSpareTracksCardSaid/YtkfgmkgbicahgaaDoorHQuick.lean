/- Whether holes are a sheet, asked on either side, with the answer known ahead; ranges of numbers as propositions. -/
import Derived.Test.YtkfgmkgbicahgaaDoorHNtGood
import Derived.Test.YtkfgmkgbicahgaaDoorHIsScore
namespace Go.Proofs.YtkfgmkgbicahgaaDoor.H
open Go.RowKit
theorem inR_iff {n lo hi : Int} : inR n lo hi = true ↔ lo ≤ n ∧ n ≤ hi := by simp [inR]
theorem isSheet_quick (A : Option Addr) (l : List Nt) (c : Nat) (b : Bool) (hn : l.length ≤ 1048576) (h : goodB l = b) :
    Hid (∀ (W : World), RA W A l → Calls Tryd.prog 60 #[.slice A l.length c] W fun e w' => e = .returned (.bool b) ∧ Below W.heap.size W w') := by
  subst h
  exact Lib.hid fun W hA => isScore_any A l c W hn hA
theorem shGood_quick (A : Option Addr) (l : List Nt) (c : Nat) (b : Bool) (hn : l.length ≤ 1048576) (hc : l.length ≤ c) (hc' : c ≤ 9223372036854775807) (h : goodB l = b) :
    Hid (∀ (W : World), RA W A l → Calls Tryd.prog 80 #[.slice A l.length c] W fun e w' => e = .returned (.bool b) ∧ Below W.heap.size W w') := by
  subst h
  exact Lib.hid fun W hA => ntGood_any A l c W hn hc hc' hA
end Go.Proofs.YtkfgmkgbicahgaaDoor.H
