/- MissingPitches: the model's and the program's functions have one answer, in memory of their own. -/
import Derived.Test.YtbdffmacpajebaaDoorCommon
import Derived.Test.YtbdffmacpajebaaDoorMisP
import Derived.Test.YtbdffmacpajebaaDoorNtGood
import Derived.Test.YtbdffmacpajebaaDoorIsScore
import Derived.Sort.OwnSortedInts
namespace Go.Proofs.YtbdffmacpajebaaDoor
open Go.RowKit Go.Sort
set_option linter.unusedVariables false
set_option linter.unusedSimpArgs false

def misB (P : List Int) (x : Nt) : Bool := !hasB P x.1

set_option maxRecDepth 100000 in
set_option maxHeartbeats 1000000 in
theorem inAsked_any (A : Option Addr) (l : List Int) (c : Nat) (r : Int) (M : Option Addr) (m : List Nt) (d : Nat) (w : World) (hn : l.length ≤ 1048576) (hA : RI w A l) (hm : m.length ≤ 1048576) (hd : m.length ≤ d) (hd' : d ≤ 9223372036854775807) (hM : RA w M m) :
    Calls Tryd.prog 41 #[.agg #[.slice A l.length c, .int .i64 r], .slice M m.length d] w fun e w' => e = .returned (.bool (gdI l r && goodB m)) ∧ Below w.heap.size w w' := by
  have hb0 : Below w.heap.size w (w.alloc (.cells #[.slice A l.length c, .int .i64 r] 28)) := (Below.refl w.heap.size w).alloc (Nat.le_refl _) _
  go_enter Tryd.func41, Tryd.ntmps41
  go_wp2_with fail
  refine (inGood_any _ _ _ _ _ hn (hA.below hb0)).mono ?_
  rintro e w1 ⟨rfl, hb1⟩
  have hB1 := hb0.trans (hb1.mono hb0.size)
  cases hg : gdI l r with
  | false =>
    go_wp2
    go_ret
    exact ⟨ret_bool (by simp [hg]), hB1⟩
  | true =>
    go_wp2_with fail
    refine (ntGood_any _ _ _ _ hm hd hd' (hM.below hB1)).mono ?_
    rintro e w2 ⟨rfl, hb2⟩
    go_wp2
    go_ret
    exact ⟨ret_bool (by simp [hg]), hB1.trans (hb2.mono hB1.size)⟩

end Go.Proofs.YtbdffmacpajebaaDoor
