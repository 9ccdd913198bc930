/-
  NARROWER THAN 'FOR EVERY INPUT', by the rows' own cells (each row's printed sentence says how): FnExactNearestPitch: laid · FnExactFoldPitch: laid · FnExactTransposeLoss: laid · FnExactLossTable: laid · FnExactFullTranspositions: laid · FnExactBestTransposition: laid · FnExactPlayableClasses: laid.
  DERIVED. THE GIVEN ROWS OF THIS SEAT. 7 by the template 'for every input the law returns true; each argument reads behind the call as it read before'; 0 by the template 'total and deterministic' (their statements: YtbdffmacpajebaaDoorTotals.lean).
  GIVEN WITH THE SEED: the statements are not yours to turn. If you find one false, say at which input.
  Laid BY PROGRAM, IN A SANDBOX (cutbox-rows.mjs): the forced cells as the released guide's own fill.sh prints them over the translation 4813ebc8558ece60… (all of the seat's roots in one cut). By AI agents, Wed Nov 11 2026. No macro, syntax, notation, axiom, sorry.
-/
import Derived.Test.YtbdffmacpajebaaDoorChecked
import GoSem.Claim
import GoSem.ClaimJoined
import GoSem.ClaimMapViews
import Derived.JoinedTies
import Derived.KernelRfl
namespace Go.Proofs.YtbdffmacpajebaaDoor
/- THE CELL 'sum', in the pinned program and in every row, IS THE sha256 OF THE DUMP (.gsa) THAT YtbdffmacpajebaaDoorProg.lean LOADS. Nothing in Lean hashes anything: it is a label: what it is worth is what the hold of that sum in a sandbox is worth. -/
noncomputable def Tryd.pinned : Pinned := { name := "ytbdffmacpajebaadoor", sum := "4813ebc8558ece601e6e3000e96fed86332b06fbd6731e7e2ca8845649cc081c", checked := Tryd.checked }
namespace Rows
def none {H : Type} : Left H := { results := [], args := [] }

/- WHAT THE LISTED PACKAGE-LEVEL VARIABLES READ AS WHEN THE CALL BEGINS. Each datum BY PROGRAM (the guide's laid-datum.mjs) off the statement by which the dump's own 'gosem.cut.vars' lays the variable. In a bare row this is a premise. The card (YtbdffmacpajebaaDoorCards.lean) ties it to the program's text. -/
def laid_loop_example_g00949_impl_instrumentLimits {H : Type} : DataW H := .agg [.agg [.lit (.int .i64 1), .lit (.int .i64 20)], .agg [.lit (.int .i64 1), .lit (.int .i64 20)]]

/-- 'laws.FnExactNearestPitch': WHATEVER THE INPUT: true; the input reads as it did. -/
def fnExactNearestPitchSpec : ChangeSpec := { name := "fnExactNearestPitch", vars := ["loop.example/g00949/impl.instrumentLimits"], fn := fun _ => fun
  | [d1, d2, g1] => { results := [.lit (.bool true)], args := [d1, d2], vars := [g1] }
  | _ => none }
def fnExactNearestPitchRow : OpenClaim := { program := "ytbdffmacpajebaadoor", sum := "4813ebc8558ece601e6e3000e96fed86332b06fbd6731e7e2ca8845649cc081c", func := "loop.example/g00949/laws.FnExactNearestPitch", spec := "fnExactNearestPitch", named := ["loop.example/g00949/impl.instrumentLimits"], apart := false, laid := [("loop.example/g00949/impl.instrumentLimits", laid_loop_example_g00949_impl_instrumentLimits)] }
def FnExactNearestPitchSaid : Prop := fnExactNearestPitchRow.holds Tryd.pinned (OpenSpec.ofChange fnExactNearestPitchSpec)

/-- ITS FALSE NEIGHBOUR: 'it returns false'. Refute it at one input. -/
def fnExactNearestPitchWrong : ChangeSpec := { name := "fnExactNearestPitch", vars := ["loop.example/g00949/impl.instrumentLimits"], fn := fun _ => fun
  | [d1, d2, g1] => { results := [.lit (.bool false)], args := [d1, d2], vars := [g1] }
  | _ => none }
def FnExactNearestPitchWrongFalsely : Prop := fnExactNearestPitchRow.holds Tryd.pinned (OpenSpec.ofChange fnExactNearestPitchWrong)

/-- 'laws.FnExactFoldPitch': WHATEVER THE INPUT: true; the input reads as it did. -/
def fnExactFoldPitchSpec : ChangeSpec := { name := "fnExactFoldPitch", vars := ["loop.example/g00949/impl.instrumentLimits"], fn := fun _ => fun
  | [d1, d2, g1] => { results := [.lit (.bool true)], args := [d1, d2], vars := [g1] }
  | _ => none }
def fnExactFoldPitchRow : OpenClaim := { program := "ytbdffmacpajebaadoor", sum := "4813ebc8558ece601e6e3000e96fed86332b06fbd6731e7e2ca8845649cc081c", func := "loop.example/g00949/laws.FnExactFoldPitch", spec := "fnExactFoldPitch", named := ["loop.example/g00949/impl.instrumentLimits"], apart := false, laid := [("loop.example/g00949/impl.instrumentLimits", laid_loop_example_g00949_impl_instrumentLimits)] }
def FnExactFoldPitchSaid : Prop := fnExactFoldPitchRow.holds Tryd.pinned (OpenSpec.ofChange fnExactFoldPitchSpec)

/-- ITS FALSE NEIGHBOUR: 'it returns false'. Refute it at one input. -/
def fnExactFoldPitchWrong : ChangeSpec := { name := "fnExactFoldPitch", vars := ["loop.example/g00949/impl.instrumentLimits"], fn := fun _ => fun
  | [d1, d2, g1] => { results := [.lit (.bool false)], args := [d1, d2], vars := [g1] }
  | _ => none }
def FnExactFoldPitchWrongFalsely : Prop := fnExactFoldPitchRow.holds Tryd.pinned (OpenSpec.ofChange fnExactFoldPitchWrong)

/-- 'laws.FnExactTransposeLoss': WHATEVER THE INPUT: true; the input reads as it did. -/
def fnExactTransposeLossSpec : ChangeSpec := { name := "fnExactTransposeLoss", vars := ["loop.example/g00949/impl.instrumentLimits"], fn := fun _ => fun
  | [d1, d2, d3, g1] => { results := [.lit (.bool true)], args := [d1, d2, d3], vars := [g1] }
  | _ => none }
def fnExactTransposeLossRow : OpenClaim := { program := "ytbdffmacpajebaadoor", sum := "4813ebc8558ece601e6e3000e96fed86332b06fbd6731e7e2ca8845649cc081c", func := "loop.example/g00949/laws.FnExactTransposeLoss", spec := "fnExactTransposeLoss", named := ["loop.example/g00949/impl.instrumentLimits"], apart := false, laid := [("loop.example/g00949/impl.instrumentLimits", laid_loop_example_g00949_impl_instrumentLimits)] }
def FnExactTransposeLossSaid : Prop := fnExactTransposeLossRow.holds Tryd.pinned (OpenSpec.ofChange fnExactTransposeLossSpec)

/-- ITS FALSE NEIGHBOUR: 'it returns false'. Refute it at one input. -/
def fnExactTransposeLossWrong : ChangeSpec := { name := "fnExactTransposeLoss", vars := ["loop.example/g00949/impl.instrumentLimits"], fn := fun _ => fun
  | [d1, d2, d3, g1] => { results := [.lit (.bool false)], args := [d1, d2, d3], vars := [g1] }
  | _ => none }
def FnExactTransposeLossWrongFalsely : Prop := fnExactTransposeLossRow.holds Tryd.pinned (OpenSpec.ofChange fnExactTransposeLossWrong)

/-- 'laws.FnExactLossTable': WHATEVER THE INPUT: true; the input reads as it did. -/
def fnExactLossTableSpec : ChangeSpec := { name := "fnExactLossTable", vars := ["loop.example/g00949/impl.instrumentLimits"], fn := fun _ => fun
  | [d1, d2, g1] => { results := [.lit (.bool true)], args := [d1, d2], vars := [g1] }
  | _ => none }
def fnExactLossTableRow : OpenClaim := { program := "ytbdffmacpajebaadoor", sum := "4813ebc8558ece601e6e3000e96fed86332b06fbd6731e7e2ca8845649cc081c", func := "loop.example/g00949/laws.FnExactLossTable", spec := "fnExactLossTable", named := ["loop.example/g00949/impl.instrumentLimits"], apart := false, laid := [("loop.example/g00949/impl.instrumentLimits", laid_loop_example_g00949_impl_instrumentLimits)] }
def FnExactLossTableSaid : Prop := fnExactLossTableRow.holds Tryd.pinned (OpenSpec.ofChange fnExactLossTableSpec)

/-- ITS FALSE NEIGHBOUR: 'it returns false'. Refute it at one input. -/
def fnExactLossTableWrong : ChangeSpec := { name := "fnExactLossTable", vars := ["loop.example/g00949/impl.instrumentLimits"], fn := fun _ => fun
  | [d1, d2, g1] => { results := [.lit (.bool false)], args := [d1, d2], vars := [g1] }
  | _ => none }
def FnExactLossTableWrongFalsely : Prop := fnExactLossTableRow.holds Tryd.pinned (OpenSpec.ofChange fnExactLossTableWrong)

/-- 'laws.FnExactFullTranspositions': WHATEVER THE INPUT: true; the input reads as it did. -/
def fnExactFullTranspositionsSpec : ChangeSpec := { name := "fnExactFullTranspositions", vars := ["loop.example/g00949/impl.instrumentLimits"], fn := fun _ => fun
  | [d1, d2, g1] => { results := [.lit (.bool true)], args := [d1, d2], vars := [g1] }
  | _ => none }
def fnExactFullTranspositionsRow : OpenClaim := { program := "ytbdffmacpajebaadoor", sum := "4813ebc8558ece601e6e3000e96fed86332b06fbd6731e7e2ca8845649cc081c", func := "loop.example/g00949/laws.FnExactFullTranspositions", spec := "fnExactFullTranspositions", named := ["loop.example/g00949/impl.instrumentLimits"], apart := false, laid := [("loop.example/g00949/impl.instrumentLimits", laid_loop_example_g00949_impl_instrumentLimits)] }
def FnExactFullTranspositionsSaid : Prop := fnExactFullTranspositionsRow.holds Tryd.pinned (OpenSpec.ofChange fnExactFullTranspositionsSpec)

/-- ITS FALSE NEIGHBOUR: 'it returns false'. Refute it at one input. -/
def fnExactFullTranspositionsWrong : ChangeSpec := { name := "fnExactFullTranspositions", vars := ["loop.example/g00949/impl.instrumentLimits"], fn := fun _ => fun
  | [d1, d2, g1] => { results := [.lit (.bool false)], args := [d1, d2], vars := [g1] }
  | _ => none }
def FnExactFullTranspositionsWrongFalsely : Prop := fnExactFullTranspositionsRow.holds Tryd.pinned (OpenSpec.ofChange fnExactFullTranspositionsWrong)

/-- 'laws.FnExactBestTransposition': WHATEVER THE INPUT: true; the input reads as it did. -/
def fnExactBestTranspositionSpec : ChangeSpec := { name := "fnExactBestTransposition", vars := ["loop.example/g00949/impl.instrumentLimits"], fn := fun _ => fun
  | [d1, d2, g1] => { results := [.lit (.bool true)], args := [d1, d2], vars := [g1] }
  | _ => none }
def fnExactBestTranspositionRow : OpenClaim := { program := "ytbdffmacpajebaadoor", sum := "4813ebc8558ece601e6e3000e96fed86332b06fbd6731e7e2ca8845649cc081c", func := "loop.example/g00949/laws.FnExactBestTransposition", spec := "fnExactBestTransposition", unfollowed := true, recurses := true, named := ["loop.example/g00949/impl.instrumentLimits"], apart := false, laid := [("loop.example/g00949/impl.instrumentLimits", laid_loop_example_g00949_impl_instrumentLimits)] }
def FnExactBestTranspositionSaid : Prop := fnExactBestTranspositionRow.holds Tryd.pinned (OpenSpec.ofChange fnExactBestTranspositionSpec)

/-- ITS FALSE NEIGHBOUR: 'it returns false'. Refute it at one input. -/
def fnExactBestTranspositionWrong : ChangeSpec := { name := "fnExactBestTransposition", vars := ["loop.example/g00949/impl.instrumentLimits"], fn := fun _ => fun
  | [d1, d2, g1] => { results := [.lit (.bool false)], args := [d1, d2], vars := [g1] }
  | _ => none }
def FnExactBestTranspositionWrongFalsely : Prop := fnExactBestTranspositionRow.holds Tryd.pinned (OpenSpec.ofChange fnExactBestTranspositionWrong)

/-- 'laws.FnExactPlayableClasses': WHATEVER THE INPUT: true; the input reads as it did. -/
def fnExactPlayableClassesSpec : ChangeSpec := { name := "fnExactPlayableClasses", vars := ["loop.example/g00949/impl.instrumentLimits"], fn := fun _ => fun
  | [d, g1] => { results := [.lit (.bool true)], args := [d], vars := [g1] }
  | _ => none }
def fnExactPlayableClassesRow : OpenClaim := { program := "ytbdffmacpajebaadoor", sum := "4813ebc8558ece601e6e3000e96fed86332b06fbd6731e7e2ca8845649cc081c", func := "loop.example/g00949/laws.FnExactPlayableClasses", spec := "fnExactPlayableClasses", recurses := true, named := ["loop.example/g00949/impl.instrumentLimits"], apart := false, laid := [("loop.example/g00949/impl.instrumentLimits", laid_loop_example_g00949_impl_instrumentLimits)] }
def FnExactPlayableClassesSaid : Prop := fnExactPlayableClassesRow.holds Tryd.pinned (OpenSpec.ofChange fnExactPlayableClassesSpec)

/-- ITS FALSE NEIGHBOUR: 'it returns false'. Refute it at one input. -/
def fnExactPlayableClassesWrong : ChangeSpec := { name := "fnExactPlayableClasses", vars := ["loop.example/g00949/impl.instrumentLimits"], fn := fun _ => fun
  | [d, g1] => { results := [.lit (.bool false)], args := [d], vars := [g1] }
  | _ => none }
def FnExactPlayableClassesWrongFalsely : Prop := fnExactPlayableClassesRow.holds Tryd.pinned (OpenSpec.ofChange fnExactPlayableClassesWrong)

/- THE SECOND FORM. 'bulk': how many values and letters a reading holds, each counted each time it is reached (what is shared counts as often as it is met; a slice's spare places count too). A statement '..UptoSaid' is the law's where the arguments, and the package variables that the reading takes, are together of bulk at most 1048576: NARROWER than '..Said'. Prove '..Said' where nothing that the law and all that it calls make is longer than what came in: it says more and counts as full. Else prove '..UptoSaid'. A law counts once. -/
mutual
def uptoBulk {H : Type} : DataW H → Nat
  | .lit (.string bytes) => bytes.length + 1
  | .lit _ => 1
  | .nil => 1
  | .ptr d => uptoBulk d + 1
  | .slice elems spare => uptoBulkAll elems + uptoBulkAll spare + 1
  | .agg parts => uptoBulkAll parts + 1
  | .iface _ d => uptoBulk d + 1
  | .map entries => uptoBulkEntries entries + 1
  | .held _ => 1
def uptoBulkAll {H : Type} : List (DataW H) → Nat
  | [] => 0
  | d :: r => uptoBulk d + uptoBulkAll r
def uptoBulkEntries {H : Type} : List (Lit × DataW H) → Nat
  | [] => 0
  | x :: r => uptoBulkEntry x + uptoBulkEntries r
def uptoBulkEntry {H : Type} : Lit × DataW H → Nat
  | (.string bytes, d) => bytes.length + uptoBulk d + 1
  | (_, d) => uptoBulk d + 1
 end
def uptoSmall : (H : Type) → List (DataW H) → Bool := fun _ ds => decide (uptoBulkAll ds ≤ 1048576)
def OpenSpec.upto (s : _root_.Go.ChangeSpec) : _root_.Go.OpenSpec := { _root_.Go.OpenSpec.ofChange s with cond := some uptoSmall }

/-- 'laws.FnExactNearestPitch', WHERE WHAT IT READS IS OF BULK AT MOST 1048576: true; the input reads as it did. -/
def fnExactNearestPitchUptoRow : OpenClaim := { program := "ytbdffmacpajebaadoor", sum := "4813ebc8558ece601e6e3000e96fed86332b06fbd6731e7e2ca8845649cc081c", func := "loop.example/g00949/laws.FnExactNearestPitch", spec := "fnExactNearestPitch", named := ["loop.example/g00949/impl.instrumentLimits"], apart := false, laid := [("loop.example/g00949/impl.instrumentLimits", laid_loop_example_g00949_impl_instrumentLimits)], narrowed := true }
def FnExactNearestPitchUptoSaid : Prop := fnExactNearestPitchUptoRow.holds Tryd.pinned (OpenSpec.upto fnExactNearestPitchSpec)

/-- 'laws.FnExactFoldPitch', WHERE WHAT IT READS IS OF BULK AT MOST 1048576: true; the input reads as it did. -/
def fnExactFoldPitchUptoRow : OpenClaim := { program := "ytbdffmacpajebaadoor", sum := "4813ebc8558ece601e6e3000e96fed86332b06fbd6731e7e2ca8845649cc081c", func := "loop.example/g00949/laws.FnExactFoldPitch", spec := "fnExactFoldPitch", named := ["loop.example/g00949/impl.instrumentLimits"], apart := false, laid := [("loop.example/g00949/impl.instrumentLimits", laid_loop_example_g00949_impl_instrumentLimits)], narrowed := true }
def FnExactFoldPitchUptoSaid : Prop := fnExactFoldPitchUptoRow.holds Tryd.pinned (OpenSpec.upto fnExactFoldPitchSpec)

/-- 'laws.FnExactTransposeLoss', WHERE WHAT IT READS IS OF BULK AT MOST 1048576: true; the input reads as it did. -/
def fnExactTransposeLossUptoRow : OpenClaim := { program := "ytbdffmacpajebaadoor", sum := "4813ebc8558ece601e6e3000e96fed86332b06fbd6731e7e2ca8845649cc081c", func := "loop.example/g00949/laws.FnExactTransposeLoss", spec := "fnExactTransposeLoss", named := ["loop.example/g00949/impl.instrumentLimits"], apart := false, laid := [("loop.example/g00949/impl.instrumentLimits", laid_loop_example_g00949_impl_instrumentLimits)], narrowed := true }
def FnExactTransposeLossUptoSaid : Prop := fnExactTransposeLossUptoRow.holds Tryd.pinned (OpenSpec.upto fnExactTransposeLossSpec)

/-- 'laws.FnExactLossTable', WHERE WHAT IT READS IS OF BULK AT MOST 1048576: true; the input reads as it did. -/
def fnExactLossTableUptoRow : OpenClaim := { program := "ytbdffmacpajebaadoor", sum := "4813ebc8558ece601e6e3000e96fed86332b06fbd6731e7e2ca8845649cc081c", func := "loop.example/g00949/laws.FnExactLossTable", spec := "fnExactLossTable", named := ["loop.example/g00949/impl.instrumentLimits"], apart := false, laid := [("loop.example/g00949/impl.instrumentLimits", laid_loop_example_g00949_impl_instrumentLimits)], narrowed := true }
def FnExactLossTableUptoSaid : Prop := fnExactLossTableUptoRow.holds Tryd.pinned (OpenSpec.upto fnExactLossTableSpec)

/-- 'laws.FnExactFullTranspositions', WHERE WHAT IT READS IS OF BULK AT MOST 1048576: true; the input reads as it did. -/
def fnExactFullTranspositionsUptoRow : OpenClaim := { program := "ytbdffmacpajebaadoor", sum := "4813ebc8558ece601e6e3000e96fed86332b06fbd6731e7e2ca8845649cc081c", func := "loop.example/g00949/laws.FnExactFullTranspositions", spec := "fnExactFullTranspositions", named := ["loop.example/g00949/impl.instrumentLimits"], apart := false, laid := [("loop.example/g00949/impl.instrumentLimits", laid_loop_example_g00949_impl_instrumentLimits)], narrowed := true }
def FnExactFullTranspositionsUptoSaid : Prop := fnExactFullTranspositionsUptoRow.holds Tryd.pinned (OpenSpec.upto fnExactFullTranspositionsSpec)

/-- 'laws.FnExactBestTransposition', WHERE WHAT IT READS IS OF BULK AT MOST 1048576: true; the input reads as it did. -/
def fnExactBestTranspositionUptoRow : OpenClaim := { program := "ytbdffmacpajebaadoor", sum := "4813ebc8558ece601e6e3000e96fed86332b06fbd6731e7e2ca8845649cc081c", func := "loop.example/g00949/laws.FnExactBestTransposition", spec := "fnExactBestTransposition", unfollowed := true, recurses := true, named := ["loop.example/g00949/impl.instrumentLimits"], apart := false, laid := [("loop.example/g00949/impl.instrumentLimits", laid_loop_example_g00949_impl_instrumentLimits)], narrowed := true }
def FnExactBestTranspositionUptoSaid : Prop := fnExactBestTranspositionUptoRow.holds Tryd.pinned (OpenSpec.upto fnExactBestTranspositionSpec)

/-- 'laws.FnExactPlayableClasses', WHERE WHAT IT READS IS OF BULK AT MOST 1048576: true; the input reads as it did. -/
def fnExactPlayableClassesUptoRow : OpenClaim := { program := "ytbdffmacpajebaadoor", sum := "4813ebc8558ece601e6e3000e96fed86332b06fbd6731e7e2ca8845649cc081c", func := "loop.example/g00949/laws.FnExactPlayableClasses", spec := "fnExactPlayableClasses", recurses := true, named := ["loop.example/g00949/impl.instrumentLimits"], apart := false, laid := [("loop.example/g00949/impl.instrumentLimits", laid_loop_example_g00949_impl_instrumentLimits)], narrowed := true }
def FnExactPlayableClassesUptoSaid : Prop := fnExactPlayableClassesUptoRow.holds Tryd.pinned (OpenSpec.upto fnExactPlayableClassesSpec)

end Rows
end Go.Proofs.YtbdffmacpajebaaDoor
