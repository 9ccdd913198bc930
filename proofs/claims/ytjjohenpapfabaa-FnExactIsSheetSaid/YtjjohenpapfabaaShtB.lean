/- Contracts: IsSheet of the model and of the program, together. -/
import Derived.Test.YtjjohenpapfabaaQuick
namespace Go.Proofs.Ytjjohenpapfabaa
open Go.RowKit
set_option linter.unusedVariables false
set_option linter.unusedSimpArgs false

set_option maxHeartbeats 400000 in
theorem specIsSheet_any (A : Option Addr) (l : List Nt) (c : Nat) (w : World) (hn : l.length ≤ 1048576) (hc : l.length ≤ c) (hc' : c ≤ 9223372036854775807) (hA : RA w A l) :
    Calls Try.prog 26 #[.slice A l.length c] w fun e w' => e = .returned (.bool (goodB l)) ∧ Below w.heap.size w w' := by
  go_enter Try.func26, Try.ntmps26
  go_wp2_with fail
  refine (ntGood_any _ _ _ _ hn hc hc' hA).mono ?_
  rintro e w1 ⟨rfl, hb1⟩
  go_wp2
  go_ret
  exact ⟨rfl, hb1⟩

theorem isSheet_both (l : List Nt) (hbig : l.length ≤ 1048576) : ∃ va : Bool,
    (∀ (A : Option Addr) (c : Nat) (W : World), l.length ≤ c → c ≤ 9223372036854775807 → RA W A l → Calls Try.prog 26 #[.slice A l.length c] W fun e W' => e = .returned (.bool va) ∧ Below W.heap.size W W') ∧
    (∀ (A : Option Addr) (c : Nat) (W : World), l.length ≤ c → c ≤ 9223372036854775807 → RA W A l → Calls Try.prog 28 #[.slice A l.length c] W fun e W' => e = .returned (.bool va) ∧ Below W.heap.size W W') :=
  ⟨goodB l, fun A c W h1 h2 hA => specIsSheet_any A l c W hbig h1 h2 hA, fun A c W h1 h2 hA => isScore_any A l c W hbig hA⟩
end Go.Proofs.Ytjjohenpapfabaa
