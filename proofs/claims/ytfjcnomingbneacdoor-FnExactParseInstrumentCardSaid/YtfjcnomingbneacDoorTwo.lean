/- Contracts of the small functions over two notes: equality, order, meeting. -/
import Derived.Test.YtfjcnomingbneacDoorSmall
import Derived.StillTailTactics
import Derived.Deep.RegionWith
import Derived.Handy
namespace Go.Proofs.YtfjcnomingbneacDoor
open Go.RowKit
set_option linter.unusedVariables false

/-- Two notes are equal. -/
def eqB (p s n p' s' n' : Int) : Bool := (p == p') && ((s == s') && (n == n'))
/-- The first of two notes (start, pitch) comes before the second one. -/
def befB (p s p' s' : Int) : Bool := decide (s < s') || ((s == s') && decide (p < p'))
/-- Two notes of one pitch sound in one step. -/
def meetB (p s n p' s' n' : Int) : Bool := (p == p') && (decide (s < s' + n') && decide (s' < s + n))
/-- -1, 0, 1 as two notes stand to each other. -/
def cmpZ (x y : Int) : Int := if x < y then -1 else if y < x then 1 else 0
def orZ (a b : Int) : Int := if a = 0 then b else a
def cmpN (p s p' s' : Int) : Int := orZ (cmpZ s s') (cmpZ p p')

end Go.Proofs.YtfjcnomingbneacDoor
