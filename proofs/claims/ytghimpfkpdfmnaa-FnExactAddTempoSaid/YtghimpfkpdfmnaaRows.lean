/-
  No cell of these rows narrows 'for every input' (looked for: loops, veiled, ifaces, maps, wideKeys, modest, calm, conditions, laid).
  DERIVED. THE GIVEN ROWS OF THIS SEAT. 9 by the template 'for every input the law returns true; each argument reads behind the call as it read before'; 0 by the template 'total and deterministic' (their statements: YtghimpfkpdfmnaaTotals.lean).
  GIVEN WITH THE SEED: the statements are not yours to turn. If you find one false, say at which input.
  Laid BY PROGRAM, IN A SANDBOX (cutbox-rows.mjs): the forced cells as the released guide's own fill.sh prints them over the translation 6cb8e582eaeae839… (all of the seat's roots in one cut). By AI agents, Wed Nov 11 2026. No macro, syntax, notation, axiom, sorry.
-/
import Derived.Test.YtghimpfkpdfmnaaChecked
import GoSem.Claim
import GoSem.ClaimJoined
import GoSem.ClaimMapViews
import Derived.JoinedTies
import Derived.KernelRfl
namespace Go.Proofs.Ytghimpfkpdfmnaa
/- THE CELL 'sum', in the pinned program and in every row, IS THE sha256 OF THE DUMP (.gsa) THAT YtghimpfkpdfmnaaProg.lean LOADS. Nothing in Lean hashes anything: it is a label: what it is worth is what the hold of that sum in a sandbox is worth. -/
noncomputable def Try.pinned : Pinned := { name := "ytghimpfkpdfmnaa", sum := "6cb8e582eaeae8399795617290230262c63fb4982a1e52ecd9e9e485defbfcf6", checked := Try.checked }
namespace Rows
def none {H : Type} : Left H := { results := [], args := [] }

/-- 'laws.FnExactAreTempos': WHATEVER THE INPUT: true; the input reads as it did. -/
def fnExactAreTemposSpec : ChangeSpec := { name := "fnExactAreTempos", fn := fun _ => fun
  | [d] => { results := [.lit (.bool true)], args := [d] }
  | _ => none }
def fnExactAreTemposRow : OpenClaim := { program := "ytghimpfkpdfmnaa", sum := "6cb8e582eaeae8399795617290230262c63fb4982a1e52ecd9e9e485defbfcf6", func := "loop.example/g00949/laws.FnExactAreTempos", spec := "fnExactAreTempos", apart := false }
def FnExactAreTemposSaid : Prop := fnExactAreTemposRow.holds Try.pinned (OpenSpec.ofChange fnExactAreTemposSpec)

/-- ITS FALSE NEIGHBOUR: 'it returns false'. Refute it at one input. -/
def fnExactAreTemposWrong : ChangeSpec := { name := "fnExactAreTempos", fn := fun _ => fun
  | [d] => { results := [.lit (.bool false)], args := [d] }
  | _ => none }
def FnExactAreTemposWrongFalsely : Prop := fnExactAreTemposRow.holds Try.pinned (OpenSpec.ofChange fnExactAreTemposWrong)

/-- 'laws.FnExactTempoAt': WHATEVER THE INPUT: true; the input reads as it did. -/
def fnExactTempoAtSpec : ChangeSpec := { name := "fnExactTempoAt", fn := fun _ => fun
  | [d1, d2] => { results := [.lit (.bool true)], args := [d1, d2] }
  | _ => none }
def fnExactTempoAtRow : OpenClaim := { program := "ytghimpfkpdfmnaa", sum := "6cb8e582eaeae8399795617290230262c63fb4982a1e52ecd9e9e485defbfcf6", func := "loop.example/g00949/laws.FnExactTempoAt", spec := "fnExactTempoAt", apart := false }
def FnExactTempoAtSaid : Prop := fnExactTempoAtRow.holds Try.pinned (OpenSpec.ofChange fnExactTempoAtSpec)

/-- ITS FALSE NEIGHBOUR: 'it returns false'. Refute it at one input. -/
def fnExactTempoAtWrong : ChangeSpec := { name := "fnExactTempoAt", fn := fun _ => fun
  | [d1, d2] => { results := [.lit (.bool false)], args := [d1, d2] }
  | _ => none }
def FnExactTempoAtWrongFalsely : Prop := fnExactTempoAtRow.holds Try.pinned (OpenSpec.ofChange fnExactTempoAtWrong)

/-- 'laws.FnExactTimeOf': WHATEVER THE INPUT: true; the input reads as it did. -/
def fnExactTimeOfSpec : ChangeSpec := { name := "fnExactTimeOf", fn := fun _ => fun
  | [d1, d2] => { results := [.lit (.bool true)], args := [d1, d2] }
  | _ => none }
def fnExactTimeOfRow : OpenClaim := { program := "ytghimpfkpdfmnaa", sum := "6cb8e582eaeae8399795617290230262c63fb4982a1e52ecd9e9e485defbfcf6", func := "loop.example/g00949/laws.FnExactTimeOf", spec := "fnExactTimeOf", apart := false }
def FnExactTimeOfSaid : Prop := fnExactTimeOfRow.holds Try.pinned (OpenSpec.ofChange fnExactTimeOfSpec)

/-- ITS FALSE NEIGHBOUR: 'it returns false'. Refute it at one input. -/
def fnExactTimeOfWrong : ChangeSpec := { name := "fnExactTimeOf", fn := fun _ => fun
  | [d1, d2] => { results := [.lit (.bool false)], args := [d1, d2] }
  | _ => none }
def FnExactTimeOfWrongFalsely : Prop := fnExactTimeOfRow.holds Try.pinned (OpenSpec.ofChange fnExactTimeOfWrong)

/-- 'laws.FnExactStepAtTime': WHATEVER THE INPUT: true; the input reads as it did. -/
def fnExactStepAtTimeSpec : ChangeSpec := { name := "fnExactStepAtTime", fn := fun _ => fun
  | [d1, d2] => { results := [.lit (.bool true)], args := [d1, d2] }
  | _ => none }
def fnExactStepAtTimeRow : OpenClaim := { program := "ytghimpfkpdfmnaa", sum := "6cb8e582eaeae8399795617290230262c63fb4982a1e52ecd9e9e485defbfcf6", func := "loop.example/g00949/laws.FnExactStepAtTime", spec := "fnExactStepAtTime", unfollowed := true, recurses := true, apart := false }
def FnExactStepAtTimeSaid : Prop := fnExactStepAtTimeRow.holds Try.pinned (OpenSpec.ofChange fnExactStepAtTimeSpec)

/-- ITS FALSE NEIGHBOUR: 'it returns false'. Refute it at one input. -/
def fnExactStepAtTimeWrong : ChangeSpec := { name := "fnExactStepAtTime", fn := fun _ => fun
  | [d1, d2] => { results := [.lit (.bool false)], args := [d1, d2] }
  | _ => none }
def FnExactStepAtTimeWrongFalsely : Prop := fnExactStepAtTimeRow.holds Try.pinned (OpenSpec.ofChange fnExactStepAtTimeWrong)

/-- 'laws.FnExactTimeBetween': WHATEVER THE INPUT: true; the input reads as it did. -/
def fnExactTimeBetweenSpec : ChangeSpec := { name := "fnExactTimeBetween", fn := fun _ => fun
  | [d1, d2, d3] => { results := [.lit (.bool true)], args := [d1, d2, d3] }
  | _ => none }
def fnExactTimeBetweenRow : OpenClaim := { program := "ytghimpfkpdfmnaa", sum := "6cb8e582eaeae8399795617290230262c63fb4982a1e52ecd9e9e485defbfcf6", func := "loop.example/g00949/laws.FnExactTimeBetween", spec := "fnExactTimeBetween", apart := false }
def FnExactTimeBetweenSaid : Prop := fnExactTimeBetweenRow.holds Try.pinned (OpenSpec.ofChange fnExactTimeBetweenSpec)

/-- ITS FALSE NEIGHBOUR: 'it returns false'. Refute it at one input. -/
def fnExactTimeBetweenWrong : ChangeSpec := { name := "fnExactTimeBetween", fn := fun _ => fun
  | [d1, d2, d3] => { results := [.lit (.bool false)], args := [d1, d2, d3] }
  | _ => none }
def FnExactTimeBetweenWrongFalsely : Prop := fnExactTimeBetweenRow.holds Try.pinned (OpenSpec.ofChange fnExactTimeBetweenWrong)

/-- 'laws.FnExactAddTempo': WHATEVER THE INPUT: true; the input reads as it did. -/
def fnExactAddTempoSpec : ChangeSpec := { name := "fnExactAddTempo", fn := fun _ => fun
  | [d1, d2] => { results := [.lit (.bool true)], args := [d1, d2] }
  | _ => none }
def fnExactAddTempoRow : OpenClaim := { program := "ytghimpfkpdfmnaa", sum := "6cb8e582eaeae8399795617290230262c63fb4982a1e52ecd9e9e485defbfcf6", func := "loop.example/g00949/laws.FnExactAddTempo", spec := "fnExactAddTempo", inPlace := ["slices.overlaps[loop.example/g00949/impl.Change]"], apart := false }
def FnExactAddTempoSaid : Prop := fnExactAddTempoRow.holds Try.pinned (OpenSpec.ofChange fnExactAddTempoSpec)

/-- ITS FALSE NEIGHBOUR: 'it returns false'. Refute it at one input. -/
def fnExactAddTempoWrong : ChangeSpec := { name := "fnExactAddTempo", fn := fun _ => fun
  | [d1, d2] => { results := [.lit (.bool false)], args := [d1, d2] }
  | _ => none }
def FnExactAddTempoWrongFalsely : Prop := fnExactAddTempoRow.holds Try.pinned (OpenSpec.ofChange fnExactAddTempoWrong)

/-- 'laws.FnExactDropTempo': WHATEVER THE INPUT: true; the input reads as it did. -/
def fnExactDropTempoSpec : ChangeSpec := { name := "fnExactDropTempo", fn := fun _ => fun
  | [d1, d2] => { results := [.lit (.bool true)], args := [d1, d2] }
  | _ => none }
def fnExactDropTempoRow : OpenClaim := { program := "ytghimpfkpdfmnaa", sum := "6cb8e582eaeae8399795617290230262c63fb4982a1e52ecd9e9e485defbfcf6", func := "loop.example/g00949/laws.FnExactDropTempo", spec := "fnExactDropTempo", apart := false }
def FnExactDropTempoSaid : Prop := fnExactDropTempoRow.holds Try.pinned (OpenSpec.ofChange fnExactDropTempoSpec)

/-- ITS FALSE NEIGHBOUR: 'it returns false'. Refute it at one input. -/
def fnExactDropTempoWrong : ChangeSpec := { name := "fnExactDropTempo", fn := fun _ => fun
  | [d1, d2] => { results := [.lit (.bool false)], args := [d1, d2] }
  | _ => none }
def FnExactDropTempoWrongFalsely : Prop := fnExactDropTempoRow.holds Try.pinned (OpenSpec.ofChange fnExactDropTempoWrong)

/-- 'laws.FnExactSimpleTempos': WHATEVER THE INPUT: true; the input reads as it did. -/
def fnExactSimpleTemposSpec : ChangeSpec := { name := "fnExactSimpleTempos", fn := fun _ => fun
  | [d] => { results := [.lit (.bool true)], args := [d] }
  | _ => none }
def fnExactSimpleTemposRow : OpenClaim := { program := "ytghimpfkpdfmnaa", sum := "6cb8e582eaeae8399795617290230262c63fb4982a1e52ecd9e9e485defbfcf6", func := "loop.example/g00949/laws.FnExactSimpleTempos", spec := "fnExactSimpleTempos", unfollowed := true, recurses := true, apart := false }
def FnExactSimpleTemposSaid : Prop := fnExactSimpleTemposRow.holds Try.pinned (OpenSpec.ofChange fnExactSimpleTemposSpec)

/-- ITS FALSE NEIGHBOUR: 'it returns false'. Refute it at one input. -/
def fnExactSimpleTemposWrong : ChangeSpec := { name := "fnExactSimpleTempos", fn := fun _ => fun
  | [d] => { results := [.lit (.bool false)], args := [d] }
  | _ => none }
def FnExactSimpleTemposWrongFalsely : Prop := fnExactSimpleTemposRow.holds Try.pinned (OpenSpec.ofChange fnExactSimpleTemposWrong)

/-- 'laws.FnExactEvenTempo': WHATEVER THE INPUT: true; the input reads as it did. -/
def fnExactEvenTempoSpec : ChangeSpec := { name := "fnExactEvenTempo", fn := fun _ => fun
  | [d1, d2, d3] => { results := [.lit (.bool true)], args := [d1, d2, d3] }
  | _ => none }
def fnExactEvenTempoRow : OpenClaim := { program := "ytghimpfkpdfmnaa", sum := "6cb8e582eaeae8399795617290230262c63fb4982a1e52ecd9e9e485defbfcf6", func := "loop.example/g00949/laws.FnExactEvenTempo", spec := "fnExactEvenTempo", apart := false }
def FnExactEvenTempoSaid : Prop := fnExactEvenTempoRow.holds Try.pinned (OpenSpec.ofChange fnExactEvenTempoSpec)

/-- ITS FALSE NEIGHBOUR: 'it returns false'. Refute it at one input. -/
def fnExactEvenTempoWrong : ChangeSpec := { name := "fnExactEvenTempo", fn := fun _ => fun
  | [d1, d2, d3] => { results := [.lit (.bool false)], args := [d1, d2, d3] }
  | _ => none }
def FnExactEvenTempoWrongFalsely : Prop := fnExactEvenTempoRow.holds Try.pinned (OpenSpec.ofChange fnExactEvenTempoWrong)

/- THE SECOND FORM. 'bulk': how many values and letters a reading holds, each counted each time it is reached (what is shared counts as often as it is met; a slice's spare places count too). A statement '..UptoSaid' is the law's where the arguments, and the package variables that the reading takes, are together of bulk at most 1048576: NARROWER than '..Said'. Prove '..Said' where nothing that the law and all that it calls make is longer than what came in: it says more and counts as full. Else prove '..UptoSaid'. A law counts once. -/
mutual
def uptoBulk {H : Type} : DataW H → Nat
  | .lit (.string bytes) => bytes.length + 1
  | .lit _ => 1
  | .nil => 1
  | .ptr d => uptoBulk d + 1
  | .slice elems spare => uptoBulkAll elems + uptoBulkAll spare + 1
  | .agg parts => uptoBulkAll parts + 1
  | .iface _ d => uptoBulk d + 1
  | .map entries => uptoBulkEntries entries + 1
  | .held _ => 1
def uptoBulkAll {H : Type} : List (DataW H) → Nat
  | [] => 0
  | d :: r => uptoBulk d + uptoBulkAll r
def uptoBulkEntries {H : Type} : List (Lit × DataW H) → Nat
  | [] => 0
  | x :: r => uptoBulkEntry x + uptoBulkEntries r
def uptoBulkEntry {H : Type} : Lit × DataW H → Nat
  | (.string bytes, d) => bytes.length + uptoBulk d + 1
  | (_, d) => uptoBulk d + 1
 end
def uptoSmall : (H : Type) → List (DataW H) → Bool := fun _ ds => decide (uptoBulkAll ds ≤ 1048576)
def OpenSpec.upto (s : _root_.Go.ChangeSpec) : _root_.Go.OpenSpec := { _root_.Go.OpenSpec.ofChange s with cond := some uptoSmall }

/-- 'laws.FnExactAreTempos', WHERE WHAT IT READS IS OF BULK AT MOST 1048576: true; the input reads as it did. -/
def fnExactAreTemposUptoRow : OpenClaim := { program := "ytghimpfkpdfmnaa", sum := "6cb8e582eaeae8399795617290230262c63fb4982a1e52ecd9e9e485defbfcf6", func := "loop.example/g00949/laws.FnExactAreTempos", spec := "fnExactAreTempos", apart := false, narrowed := true }
def FnExactAreTemposUptoSaid : Prop := fnExactAreTemposUptoRow.holds Try.pinned (OpenSpec.upto fnExactAreTemposSpec)

/-- 'laws.FnExactTempoAt', WHERE WHAT IT READS IS OF BULK AT MOST 1048576: true; the input reads as it did. -/
def fnExactTempoAtUptoRow : OpenClaim := { program := "ytghimpfkpdfmnaa", sum := "6cb8e582eaeae8399795617290230262c63fb4982a1e52ecd9e9e485defbfcf6", func := "loop.example/g00949/laws.FnExactTempoAt", spec := "fnExactTempoAt", apart := false, narrowed := true }
def FnExactTempoAtUptoSaid : Prop := fnExactTempoAtUptoRow.holds Try.pinned (OpenSpec.upto fnExactTempoAtSpec)

/-- 'laws.FnExactTimeOf', WHERE WHAT IT READS IS OF BULK AT MOST 1048576: true; the input reads as it did. -/
def fnExactTimeOfUptoRow : OpenClaim := { program := "ytghimpfkpdfmnaa", sum := "6cb8e582eaeae8399795617290230262c63fb4982a1e52ecd9e9e485defbfcf6", func := "loop.example/g00949/laws.FnExactTimeOf", spec := "fnExactTimeOf", apart := false, narrowed := true }
def FnExactTimeOfUptoSaid : Prop := fnExactTimeOfUptoRow.holds Try.pinned (OpenSpec.upto fnExactTimeOfSpec)

/-- 'laws.FnExactStepAtTime', WHERE WHAT IT READS IS OF BULK AT MOST 1048576: true; the input reads as it did. -/
def fnExactStepAtTimeUptoRow : OpenClaim := { program := "ytghimpfkpdfmnaa", sum := "6cb8e582eaeae8399795617290230262c63fb4982a1e52ecd9e9e485defbfcf6", func := "loop.example/g00949/laws.FnExactStepAtTime", spec := "fnExactStepAtTime", unfollowed := true, recurses := true, apart := false, narrowed := true }
def FnExactStepAtTimeUptoSaid : Prop := fnExactStepAtTimeUptoRow.holds Try.pinned (OpenSpec.upto fnExactStepAtTimeSpec)

/-- 'laws.FnExactTimeBetween', WHERE WHAT IT READS IS OF BULK AT MOST 1048576: true; the input reads as it did. -/
def fnExactTimeBetweenUptoRow : OpenClaim := { program := "ytghimpfkpdfmnaa", sum := "6cb8e582eaeae8399795617290230262c63fb4982a1e52ecd9e9e485defbfcf6", func := "loop.example/g00949/laws.FnExactTimeBetween", spec := "fnExactTimeBetween", apart := false, narrowed := true }
def FnExactTimeBetweenUptoSaid : Prop := fnExactTimeBetweenUptoRow.holds Try.pinned (OpenSpec.upto fnExactTimeBetweenSpec)

/-- 'laws.FnExactAddTempo', WHERE WHAT IT READS IS OF BULK AT MOST 1048576: true; the input reads as it did. -/
def fnExactAddTempoUptoRow : OpenClaim := { program := "ytghimpfkpdfmnaa", sum := "6cb8e582eaeae8399795617290230262c63fb4982a1e52ecd9e9e485defbfcf6", func := "loop.example/g00949/laws.FnExactAddTempo", spec := "fnExactAddTempo", inPlace := ["slices.overlaps[loop.example/g00949/impl.Change]"], apart := false, narrowed := true }
def FnExactAddTempoUptoSaid : Prop := fnExactAddTempoUptoRow.holds Try.pinned (OpenSpec.upto fnExactAddTempoSpec)

/-- 'laws.FnExactDropTempo', WHERE WHAT IT READS IS OF BULK AT MOST 1048576: true; the input reads as it did. -/
def fnExactDropTempoUptoRow : OpenClaim := { program := "ytghimpfkpdfmnaa", sum := "6cb8e582eaeae8399795617290230262c63fb4982a1e52ecd9e9e485defbfcf6", func := "loop.example/g00949/laws.FnExactDropTempo", spec := "fnExactDropTempo", apart := false, narrowed := true }
def FnExactDropTempoUptoSaid : Prop := fnExactDropTempoUptoRow.holds Try.pinned (OpenSpec.upto fnExactDropTempoSpec)

/-- 'laws.FnExactSimpleTempos', WHERE WHAT IT READS IS OF BULK AT MOST 1048576: true; the input reads as it did. -/
def fnExactSimpleTemposUptoRow : OpenClaim := { program := "ytghimpfkpdfmnaa", sum := "6cb8e582eaeae8399795617290230262c63fb4982a1e52ecd9e9e485defbfcf6", func := "loop.example/g00949/laws.FnExactSimpleTempos", spec := "fnExactSimpleTempos", unfollowed := true, recurses := true, apart := false, narrowed := true }
def FnExactSimpleTemposUptoSaid : Prop := fnExactSimpleTemposUptoRow.holds Try.pinned (OpenSpec.upto fnExactSimpleTemposSpec)

/-- 'laws.FnExactEvenTempo', WHERE WHAT IT READS IS OF BULK AT MOST 1048576: true; the input reads as it did. -/
def fnExactEvenTempoUptoRow : OpenClaim := { program := "ytghimpfkpdfmnaa", sum := "6cb8e582eaeae8399795617290230262c63fb4982a1e52ecd9e9e485defbfcf6", func := "loop.example/g00949/laws.FnExactEvenTempo", spec := "fnExactEvenTempo", apart := false, narrowed := true }
def FnExactEvenTempoUptoSaid : Prop := fnExactEvenTempoUptoRow.holds Try.pinned (OpenSpec.upto fnExactEvenTempoSpec)

end Rows
end Go.Proofs.Ytghimpfkpdfmnaa
