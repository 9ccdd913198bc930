/-
  NARROWER THAN 'FOR EVERY INPUT', by the rows' own cells (each row's printed sentence says how): FnExactFoldScore: laid · FnExactBestFold: laid.
  DERIVED. THE GIVEN ROWS OF THIS SEAT. 2 by the template 'for every input the law returns true; each argument reads behind the call as it read before'; 0 by the template 'total and deterministic' (their statements: YtogklldofhcohaaDoorTotals.lean).
  GIVEN WITH THE SEED: the statements are not yours to turn. If you find one false, say at which input.
  Laid BY PROGRAM, IN A SANDBOX (cutbox-rows.mjs): the forced cells as the released guide's own fill.sh prints them over the translation 9177738cffb7582c… (all of the seat's roots in one cut). By AI agents, Wed Nov 11 2026. No macro, syntax, notation, axiom, sorry.
-/
import Derived.Test.YtogklldofhcohaaDoorChecked
import GoSem.Claim
import GoSem.ClaimJoined
import GoSem.ClaimMapViews
import Derived.JoinedTies
import Derived.KernelRfl
namespace Go.Proofs.YtogklldofhcohaaDoor
/- THE CELL 'sum', in the pinned program and in every row, IS THE sha256 OF THE DUMP (.gsa) THAT YtogklldofhcohaaDoorProg.lean LOADS. Nothing in Lean hashes anything: it is a label: what it is worth is what the hold of that sum in a sandbox is worth. -/
noncomputable def Tryd.pinned : Pinned := { name := "ytogklldofhcohaadoor", sum := "9177738cffb7582c4c28108e41fbfd2ecb010436f97cda5ff261dbcea0d88d4c", checked := Tryd.checked }
namespace Rows
def none {H : Type} : Left H := { results := [], args := [] }

/- WHAT THE LISTED PACKAGE-LEVEL VARIABLES READ AS WHEN THE CALL BEGINS. Each datum BY PROGRAM (the guide's laid-datum.mjs) off the statement by which the dump's own 'gosem.cut.vars' lays the variable. In a bare row this is a premise. The card (YtogklldofhcohaaDoorCards.lean) ties it to the program's text. -/
def laid_loop_example_g00949_impl_instrumentLimits {H : Type} : DataW H := .agg [.agg [.lit (.int .i64 1), .lit (.int .i64 20)], .agg [.lit (.int .i64 1), .lit (.int .i64 20)]]

/-- 'laws.FnExactFoldScore': WHATEVER THE INPUT: true; the input reads as it did. -/
def fnExactFoldScoreSpec : ChangeSpec := { name := "fnExactFoldScore", vars := ["loop.example/g00949/impl.instrumentLimits"], fn := fun _ => fun
  | [d1, d2, g1] => { results := [.lit (.bool true)], args := [d1, d2], vars := [g1] }
  | _ => none }
def fnExactFoldScoreRow : OpenClaim := { program := "ytogklldofhcohaadoor", sum := "9177738cffb7582c4c28108e41fbfd2ecb010436f97cda5ff261dbcea0d88d4c", func := "loop.example/g00949/laws.FnExactFoldScore", spec := "fnExactFoldScore", unfollowed := true, recurses := true, named := ["loop.example/g00949/impl.instrumentLimits"], apart := false, laid := [("loop.example/g00949/impl.instrumentLimits", laid_loop_example_g00949_impl_instrumentLimits)] }
def FnExactFoldScoreSaid : Prop := fnExactFoldScoreRow.holds Tryd.pinned (OpenSpec.ofChange fnExactFoldScoreSpec)

/-- ITS FALSE NEIGHBOUR: 'it returns false'. Refute it at one input. -/
def fnExactFoldScoreWrong : ChangeSpec := { name := "fnExactFoldScore", vars := ["loop.example/g00949/impl.instrumentLimits"], fn := fun _ => fun
  | [d1, d2, g1] => { results := [.lit (.bool false)], args := [d1, d2], vars := [g1] }
  | _ => none }
def FnExactFoldScoreWrongFalsely : Prop := fnExactFoldScoreRow.holds Tryd.pinned (OpenSpec.ofChange fnExactFoldScoreWrong)

/-- 'laws.FnExactBestFold': WHATEVER THE INPUT: true; the input reads as it did. -/
def fnExactBestFoldSpec : ChangeSpec := { name := "fnExactBestFold", vars := ["loop.example/g00949/impl.instrumentLimits"], fn := fun _ => fun
  | [d1, d2, g1] => { results := [.lit (.bool true)], args := [d1, d2], vars := [g1] }
  | _ => none }
def fnExactBestFoldRow : OpenClaim := { program := "ytogklldofhcohaadoor", sum := "9177738cffb7582c4c28108e41fbfd2ecb010436f97cda5ff261dbcea0d88d4c", func := "loop.example/g00949/laws.FnExactBestFold", spec := "fnExactBestFold", unfollowed := true, recurses := true, named := ["loop.example/g00949/impl.instrumentLimits"], apart := false, laid := [("loop.example/g00949/impl.instrumentLimits", laid_loop_example_g00949_impl_instrumentLimits)] }
def FnExactBestFoldSaid : Prop := fnExactBestFoldRow.holds Tryd.pinned (OpenSpec.ofChange fnExactBestFoldSpec)

/-- ITS FALSE NEIGHBOUR: 'it returns false'. Refute it at one input. -/
def fnExactBestFoldWrong : ChangeSpec := { name := "fnExactBestFold", vars := ["loop.example/g00949/impl.instrumentLimits"], fn := fun _ => fun
  | [d1, d2, g1] => { results := [.lit (.bool false)], args := [d1, d2], vars := [g1] }
  | _ => none }
def FnExactBestFoldWrongFalsely : Prop := fnExactBestFoldRow.holds Tryd.pinned (OpenSpec.ofChange fnExactBestFoldWrong)

/- THE SECOND FORM. 'bulk': how many values and letters a reading holds, each counted each time it is reached (what is shared counts as often as it is met; a slice's spare places count too). A statement '..UptoSaid' is the law's where the arguments, and the package variables that the reading takes, are together of bulk at most 1048576: NARROWER than '..Said'. Prove '..Said' where nothing that the law and all that it calls make is longer than what came in: it says more and counts as full. Else prove '..UptoSaid'. A law counts once. -/
mutual
def uptoBulk {H : Type} : DataW H → Nat
  | .lit (.string bytes) => bytes.length + 1
  | .lit _ => 1
  | .nil => 1
  | .ptr d => uptoBulk d + 1
  | .slice elems spare => uptoBulkAll elems + uptoBulkAll spare + 1
  | .agg parts => uptoBulkAll parts + 1
  | .iface _ d => uptoBulk d + 1
  | .map entries => uptoBulkEntries entries + 1
  | .held _ => 1
def uptoBulkAll {H : Type} : List (DataW H) → Nat
  | [] => 0
  | d :: r => uptoBulk d + uptoBulkAll r
def uptoBulkEntries {H : Type} : List (Lit × DataW H) → Nat
  | [] => 0
  | x :: r => uptoBulkEntry x + uptoBulkEntries r
def uptoBulkEntry {H : Type} : Lit × DataW H → Nat
  | (.string bytes, d) => bytes.length + uptoBulk d + 1
  | (_, d) => uptoBulk d + 1
 end
def uptoSmall : (H : Type) → List (DataW H) → Bool := fun _ ds => decide (uptoBulkAll ds ≤ 1048576)
def OpenSpec.upto (s : _root_.Go.ChangeSpec) : _root_.Go.OpenSpec := { _root_.Go.OpenSpec.ofChange s with cond := some uptoSmall }

/-- 'laws.FnExactFoldScore', WHERE WHAT IT READS IS OF BULK AT MOST 1048576: true; the input reads as it did. -/
def fnExactFoldScoreUptoRow : OpenClaim := { program := "ytogklldofhcohaadoor", sum := "9177738cffb7582c4c28108e41fbfd2ecb010436f97cda5ff261dbcea0d88d4c", func := "loop.example/g00949/laws.FnExactFoldScore", spec := "fnExactFoldScore", unfollowed := true, recurses := true, named := ["loop.example/g00949/impl.instrumentLimits"], apart := false, laid := [("loop.example/g00949/impl.instrumentLimits", laid_loop_example_g00949_impl_instrumentLimits)], narrowed := true }
def FnExactFoldScoreUptoSaid : Prop := fnExactFoldScoreUptoRow.holds Tryd.pinned (OpenSpec.upto fnExactFoldScoreSpec)

/-- 'laws.FnExactBestFold', WHERE WHAT IT READS IS OF BULK AT MOST 1048576: true; the input reads as it did. -/
def fnExactBestFoldUptoRow : OpenClaim := { program := "ytogklldofhcohaadoor", sum := "9177738cffb7582c4c28108e41fbfd2ecb010436f97cda5ff261dbcea0d88d4c", func := "loop.example/g00949/laws.FnExactBestFold", spec := "fnExactBestFold", unfollowed := true, recurses := true, named := ["loop.example/g00949/impl.instrumentLimits"], apart := false, laid := [("loop.example/g00949/impl.instrumentLimits", laid_loop_example_g00949_impl_instrumentLimits)], narrowed := true }
def FnExactBestFoldUptoSaid : Prop := fnExactBestFoldUptoRow.holds Tryd.pinned (OpenSpec.upto fnExactBestFoldSpec)

end Rows
end Go.Proofs.YtogklldofhcohaaDoor
