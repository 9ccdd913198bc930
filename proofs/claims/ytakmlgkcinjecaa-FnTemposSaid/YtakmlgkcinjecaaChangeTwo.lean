/- Contracts of the laws' own functions over one struct and two: copying, equality. -/
import Derived.Test.YtakmlgkcinjecaaSmall
import Derived.StillTailTactics
import Derived.Deep.RegionWith
import Derived.Handy
namespace Go.Proofs.Ytakmlgkcinjecaa
open Go.RowKit
set_option linter.unusedVariables false

/-- Two rows are equal. -/
def eqBChange (p s p' s' : Int) : Bool := ((p == p') && (s == s'))

end Go.Proofs.Ytakmlgkcinjecaa
