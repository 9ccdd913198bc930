/-
  NARROWER THAN 'FOR EVERY INPUT', by the rows' own cells (each row's printed sentence says how): FnExactHoleFor: laid · FnExactNoteFor: laid · FnExactLayOut: laid · FnExactReadBack: laid · FnExactIsLayOut: laid · FnExactSpareTracks: laid.
  DERIVED. THE GIVEN ROWS OF THIS SEAT. 6 by the template 'for every input the law returns true; each argument reads behind the call as it read before'; 0 by the template 'total and deterministic' (their statements: YtkfgmkgbicahgaaDoorTotals.lean).
  GIVEN WITH THE SEED: the statements are not yours to turn. If you find one false, say at which input.
  Laid BY PROGRAM, IN A SANDBOX (cutbox-rows.mjs): the forced cells as the released guide's own fill.sh prints them over the translation 18ebaeb5cae2ba42… (all of the seat's roots in one cut). By AI agents, Wed Nov 11 2026. No macro, syntax, notation, axiom, sorry.
-/
import Derived.Test.YtkfgmkgbicahgaaDoorChecked
import GoSem.Claim
import GoSem.ClaimJoined
import GoSem.ClaimMapViews
import Derived.JoinedTies
import Derived.KernelRfl
namespace Go.Proofs.YtkfgmkgbicahgaaDoor
/- THE CELL 'sum', in the pinned program and in every row, IS THE sha256 OF THE DUMP (.gsa) THAT YtkfgmkgbicahgaaDoorProg.lean LOADS. Nothing in Lean hashes anything: it is a label: what it is worth is what the hold of that sum in a sandbox is worth. -/
noncomputable def Tryd.pinned : Pinned := { name := "ytkfgmkgbicahgaadoor", sum := "18ebaeb5cae2ba426cb39c29851e5ef24cc27b8b68a265f4860fe1bd1d1e6f71", checked := Tryd.checked }
namespace Rows
def none {H : Type} : Left H := { results := [], args := [] }

/- WHAT THE LISTED PACKAGE-LEVEL VARIABLES READ AS WHEN THE CALL BEGINS. Each datum BY PROGRAM (the guide's laid-datum.mjs) off the statement by which the dump's own 'gosem.cut.vars' lays the variable. In a bare row this is a premise. The card (YtkfgmkgbicahgaaDoorCards.lean) ties it to the program's text. -/
def laid_loop_example_g00949_impl_instrumentLimits {H : Type} : DataW H := .agg [.agg [.lit (.int .i64 1), .lit (.int .i64 20)], .agg [.lit (.int .i64 1), .lit (.int .i64 20)]]

/-- 'laws.FnExactHoleFor': WHATEVER THE INPUT: true; the input reads as it did. -/
def fnExactHoleForSpec : ChangeSpec := { name := "fnExactHoleFor", vars := ["loop.example/g00949/impl.instrumentLimits"], fn := fun _ => fun
  | [d1, d2, g1] => { results := [.lit (.bool true)], args := [d1, d2], vars := [g1] }
  | _ => none }
def fnExactHoleForRow : OpenClaim := { program := "ytkfgmkgbicahgaadoor", sum := "18ebaeb5cae2ba426cb39c29851e5ef24cc27b8b68a265f4860fe1bd1d1e6f71", func := "loop.example/g00949/laws.FnExactHoleFor", spec := "fnExactHoleFor", named := ["loop.example/g00949/impl.instrumentLimits"], apart := false, laid := [("loop.example/g00949/impl.instrumentLimits", laid_loop_example_g00949_impl_instrumentLimits)] }
def FnExactHoleForSaid : Prop := fnExactHoleForRow.holds Tryd.pinned (OpenSpec.ofChange fnExactHoleForSpec)

/-- ITS FALSE NEIGHBOUR: 'it returns false'. Refute it at one input. -/
def fnExactHoleForWrong : ChangeSpec := { name := "fnExactHoleFor", vars := ["loop.example/g00949/impl.instrumentLimits"], fn := fun _ => fun
  | [d1, d2, g1] => { results := [.lit (.bool false)], args := [d1, d2], vars := [g1] }
  | _ => none }
def FnExactHoleForWrongFalsely : Prop := fnExactHoleForRow.holds Tryd.pinned (OpenSpec.ofChange fnExactHoleForWrong)

/-- 'laws.FnExactNoteFor': WHATEVER THE INPUT: true; the input reads as it did. -/
def fnExactNoteForSpec : ChangeSpec := { name := "fnExactNoteFor", vars := ["loop.example/g00949/impl.instrumentLimits"], fn := fun _ => fun
  | [d1, d2, g1] => { results := [.lit (.bool true)], args := [d1, d2], vars := [g1] }
  | _ => none }
def fnExactNoteForRow : OpenClaim := { program := "ytkfgmkgbicahgaadoor", sum := "18ebaeb5cae2ba426cb39c29851e5ef24cc27b8b68a265f4860fe1bd1d1e6f71", func := "loop.example/g00949/laws.FnExactNoteFor", spec := "fnExactNoteFor", named := ["loop.example/g00949/impl.instrumentLimits"], apart := false, laid := [("loop.example/g00949/impl.instrumentLimits", laid_loop_example_g00949_impl_instrumentLimits)] }
def FnExactNoteForSaid : Prop := fnExactNoteForRow.holds Tryd.pinned (OpenSpec.ofChange fnExactNoteForSpec)

/-- ITS FALSE NEIGHBOUR: 'it returns false'. Refute it at one input. -/
def fnExactNoteForWrong : ChangeSpec := { name := "fnExactNoteFor", vars := ["loop.example/g00949/impl.instrumentLimits"], fn := fun _ => fun
  | [d1, d2, g1] => { results := [.lit (.bool false)], args := [d1, d2], vars := [g1] }
  | _ => none }
def FnExactNoteForWrongFalsely : Prop := fnExactNoteForRow.holds Tryd.pinned (OpenSpec.ofChange fnExactNoteForWrong)

/-- 'laws.FnExactLayOut': WHATEVER THE INPUT: true; the input reads as it did. -/
def fnExactLayOutSpec : ChangeSpec := { name := "fnExactLayOut", vars := ["loop.example/g00949/impl.instrumentLimits"], fn := fun _ => fun
  | [d1, d2, g1] => { results := [.lit (.bool true)], args := [d1, d2], vars := [g1] }
  | _ => none }
def fnExactLayOutRow : OpenClaim := { program := "ytkfgmkgbicahgaadoor", sum := "18ebaeb5cae2ba426cb39c29851e5ef24cc27b8b68a265f4860fe1bd1d1e6f71", func := "loop.example/g00949/laws.FnExactLayOut", spec := "fnExactLayOut", recurses := true, named := ["loop.example/g00949/impl.instrumentLimits"], apart := false, laid := [("loop.example/g00949/impl.instrumentLimits", laid_loop_example_g00949_impl_instrumentLimits)] }
def FnExactLayOutSaid : Prop := fnExactLayOutRow.holds Tryd.pinned (OpenSpec.ofChange fnExactLayOutSpec)

/-- ITS FALSE NEIGHBOUR: 'it returns false'. Refute it at one input. -/
def fnExactLayOutWrong : ChangeSpec := { name := "fnExactLayOut", vars := ["loop.example/g00949/impl.instrumentLimits"], fn := fun _ => fun
  | [d1, d2, g1] => { results := [.lit (.bool false)], args := [d1, d2], vars := [g1] }
  | _ => none }
def FnExactLayOutWrongFalsely : Prop := fnExactLayOutRow.holds Tryd.pinned (OpenSpec.ofChange fnExactLayOutWrong)

/-- 'laws.FnExactReadBack': WHATEVER THE INPUT: true; the input reads as it did. -/
def fnExactReadBackSpec : ChangeSpec := { name := "fnExactReadBack", vars := ["loop.example/g00949/impl.instrumentLimits"], fn := fun _ => fun
  | [d1, d2, g1] => { results := [.lit (.bool true)], args := [d1, d2], vars := [g1] }
  | _ => none }
def fnExactReadBackRow : OpenClaim := { program := "ytkfgmkgbicahgaadoor", sum := "18ebaeb5cae2ba426cb39c29851e5ef24cc27b8b68a265f4860fe1bd1d1e6f71", func := "loop.example/g00949/laws.FnExactReadBack", spec := "fnExactReadBack", named := ["loop.example/g00949/impl.instrumentLimits"], apart := false, laid := [("loop.example/g00949/impl.instrumentLimits", laid_loop_example_g00949_impl_instrumentLimits)] }
def FnExactReadBackSaid : Prop := fnExactReadBackRow.holds Tryd.pinned (OpenSpec.ofChange fnExactReadBackSpec)

/-- ITS FALSE NEIGHBOUR: 'it returns false'. Refute it at one input. -/
def fnExactReadBackWrong : ChangeSpec := { name := "fnExactReadBack", vars := ["loop.example/g00949/impl.instrumentLimits"], fn := fun _ => fun
  | [d1, d2, g1] => { results := [.lit (.bool false)], args := [d1, d2], vars := [g1] }
  | _ => none }
def FnExactReadBackWrongFalsely : Prop := fnExactReadBackRow.holds Tryd.pinned (OpenSpec.ofChange fnExactReadBackWrong)

/-- 'laws.FnExactIsLayOut': WHATEVER THE INPUT: true; the input reads as it did. -/
def fnExactIsLayOutSpec : ChangeSpec := { name := "fnExactIsLayOut", vars := ["loop.example/g00949/impl.instrumentLimits"], fn := fun _ => fun
  | [d1, d2, g1] => { results := [.lit (.bool true)], args := [d1, d2], vars := [g1] }
  | _ => none }
def fnExactIsLayOutRow : OpenClaim := { program := "ytkfgmkgbicahgaadoor", sum := "18ebaeb5cae2ba426cb39c29851e5ef24cc27b8b68a265f4860fe1bd1d1e6f71", func := "loop.example/g00949/laws.FnExactIsLayOut", spec := "fnExactIsLayOut", recurses := true, named := ["loop.example/g00949/impl.instrumentLimits"], apart := false, laid := [("loop.example/g00949/impl.instrumentLimits", laid_loop_example_g00949_impl_instrumentLimits)] }
def FnExactIsLayOutSaid : Prop := fnExactIsLayOutRow.holds Tryd.pinned (OpenSpec.ofChange fnExactIsLayOutSpec)

/-- ITS FALSE NEIGHBOUR: 'it returns false'. Refute it at one input. -/
def fnExactIsLayOutWrong : ChangeSpec := { name := "fnExactIsLayOut", vars := ["loop.example/g00949/impl.instrumentLimits"], fn := fun _ => fun
  | [d1, d2, g1] => { results := [.lit (.bool false)], args := [d1, d2], vars := [g1] }
  | _ => none }
def FnExactIsLayOutWrongFalsely : Prop := fnExactIsLayOutRow.holds Tryd.pinned (OpenSpec.ofChange fnExactIsLayOutWrong)

/-- 'laws.FnExactSpareTracks': WHATEVER THE INPUT: true; the input reads as it did. -/
def fnExactSpareTracksSpec : ChangeSpec := { name := "fnExactSpareTracks", vars := ["loop.example/g00949/impl.instrumentLimits"], fn := fun _ => fun
  | [d1, d2, g1] => { results := [.lit (.bool true)], args := [d1, d2], vars := [g1] }
  | _ => none }
def fnExactSpareTracksRow : OpenClaim := { program := "ytkfgmkgbicahgaadoor", sum := "18ebaeb5cae2ba426cb39c29851e5ef24cc27b8b68a265f4860fe1bd1d1e6f71", func := "loop.example/g00949/laws.FnExactSpareTracks", spec := "fnExactSpareTracks", recurses := true, named := ["loop.example/g00949/impl.instrumentLimits"], apart := false, laid := [("loop.example/g00949/impl.instrumentLimits", laid_loop_example_g00949_impl_instrumentLimits)] }
def FnExactSpareTracksSaid : Prop := fnExactSpareTracksRow.holds Tryd.pinned (OpenSpec.ofChange fnExactSpareTracksSpec)

/-- ITS FALSE NEIGHBOUR: 'it returns false'. Refute it at one input. -/
def fnExactSpareTracksWrong : ChangeSpec := { name := "fnExactSpareTracks", vars := ["loop.example/g00949/impl.instrumentLimits"], fn := fun _ => fun
  | [d1, d2, g1] => { results := [.lit (.bool false)], args := [d1, d2], vars := [g1] }
  | _ => none }
def FnExactSpareTracksWrongFalsely : Prop := fnExactSpareTracksRow.holds Tryd.pinned (OpenSpec.ofChange fnExactSpareTracksWrong)

/- THE SECOND FORM. 'bulk': how many values and letters a reading holds, each counted each time it is reached (what is shared counts as often as it is met; a slice's spare places count too). A statement '..UptoSaid' is the law's where the arguments, and the package variables that the reading takes, are together of bulk at most 1048576: NARROWER than '..Said'. Prove '..Said' where nothing that the law and all that it calls make is longer than what came in: it says more and counts as full. Else prove '..UptoSaid'. A law counts once. -/
mutual
def uptoBulk {H : Type} : DataW H → Nat
  | .lit (.string bytes) => bytes.length + 1
  | .lit _ => 1
  | .nil => 1
  | .ptr d => uptoBulk d + 1
  | .slice elems spare => uptoBulkAll elems + uptoBulkAll spare + 1
  | .agg parts => uptoBulkAll parts + 1
  | .iface _ d => uptoBulk d + 1
  | .map entries => uptoBulkEntries entries + 1
  | .held _ => 1
def uptoBulkAll {H : Type} : List (DataW H) → Nat
  | [] => 0
  | d :: r => uptoBulk d + uptoBulkAll r
def uptoBulkEntries {H : Type} : List (Lit × DataW H) → Nat
  | [] => 0
  | x :: r => uptoBulkEntry x + uptoBulkEntries r
def uptoBulkEntry {H : Type} : Lit × DataW H → Nat
  | (.string bytes, d) => bytes.length + uptoBulk d + 1
  | (_, d) => uptoBulk d + 1
 end
def uptoSmall : (H : Type) → List (DataW H) → Bool := fun _ ds => decide (uptoBulkAll ds ≤ 1048576)
def OpenSpec.upto (s : _root_.Go.ChangeSpec) : _root_.Go.OpenSpec := { _root_.Go.OpenSpec.ofChange s with cond := some uptoSmall }

/-- 'laws.FnExactHoleFor', WHERE WHAT IT READS IS OF BULK AT MOST 1048576: true; the input reads as it did. -/
def fnExactHoleForUptoRow : OpenClaim := { program := "ytkfgmkgbicahgaadoor", sum := "18ebaeb5cae2ba426cb39c29851e5ef24cc27b8b68a265f4860fe1bd1d1e6f71", func := "loop.example/g00949/laws.FnExactHoleFor", spec := "fnExactHoleFor", named := ["loop.example/g00949/impl.instrumentLimits"], apart := false, laid := [("loop.example/g00949/impl.instrumentLimits", laid_loop_example_g00949_impl_instrumentLimits)], narrowed := true }
def FnExactHoleForUptoSaid : Prop := fnExactHoleForUptoRow.holds Tryd.pinned (OpenSpec.upto fnExactHoleForSpec)

/-- 'laws.FnExactNoteFor', WHERE WHAT IT READS IS OF BULK AT MOST 1048576: true; the input reads as it did. -/
def fnExactNoteForUptoRow : OpenClaim := { program := "ytkfgmkgbicahgaadoor", sum := "18ebaeb5cae2ba426cb39c29851e5ef24cc27b8b68a265f4860fe1bd1d1e6f71", func := "loop.example/g00949/laws.FnExactNoteFor", spec := "fnExactNoteFor", named := ["loop.example/g00949/impl.instrumentLimits"], apart := false, laid := [("loop.example/g00949/impl.instrumentLimits", laid_loop_example_g00949_impl_instrumentLimits)], narrowed := true }
def FnExactNoteForUptoSaid : Prop := fnExactNoteForUptoRow.holds Tryd.pinned (OpenSpec.upto fnExactNoteForSpec)

/-- 'laws.FnExactLayOut', WHERE WHAT IT READS IS OF BULK AT MOST 1048576: true; the input reads as it did. -/
def fnExactLayOutUptoRow : OpenClaim := { program := "ytkfgmkgbicahgaadoor", sum := "18ebaeb5cae2ba426cb39c29851e5ef24cc27b8b68a265f4860fe1bd1d1e6f71", func := "loop.example/g00949/laws.FnExactLayOut", spec := "fnExactLayOut", recurses := true, named := ["loop.example/g00949/impl.instrumentLimits"], apart := false, laid := [("loop.example/g00949/impl.instrumentLimits", laid_loop_example_g00949_impl_instrumentLimits)], narrowed := true }
def FnExactLayOutUptoSaid : Prop := fnExactLayOutUptoRow.holds Tryd.pinned (OpenSpec.upto fnExactLayOutSpec)

/-- 'laws.FnExactReadBack', WHERE WHAT IT READS IS OF BULK AT MOST 1048576: true; the input reads as it did. -/
def fnExactReadBackUptoRow : OpenClaim := { program := "ytkfgmkgbicahgaadoor", sum := "18ebaeb5cae2ba426cb39c29851e5ef24cc27b8b68a265f4860fe1bd1d1e6f71", func := "loop.example/g00949/laws.FnExactReadBack", spec := "fnExactReadBack", named := ["loop.example/g00949/impl.instrumentLimits"], apart := false, laid := [("loop.example/g00949/impl.instrumentLimits", laid_loop_example_g00949_impl_instrumentLimits)], narrowed := true }
def FnExactReadBackUptoSaid : Prop := fnExactReadBackUptoRow.holds Tryd.pinned (OpenSpec.upto fnExactReadBackSpec)

/-- 'laws.FnExactIsLayOut', WHERE WHAT IT READS IS OF BULK AT MOST 1048576: true; the input reads as it did. -/
def fnExactIsLayOutUptoRow : OpenClaim := { program := "ytkfgmkgbicahgaadoor", sum := "18ebaeb5cae2ba426cb39c29851e5ef24cc27b8b68a265f4860fe1bd1d1e6f71", func := "loop.example/g00949/laws.FnExactIsLayOut", spec := "fnExactIsLayOut", recurses := true, named := ["loop.example/g00949/impl.instrumentLimits"], apart := false, laid := [("loop.example/g00949/impl.instrumentLimits", laid_loop_example_g00949_impl_instrumentLimits)], narrowed := true }
def FnExactIsLayOutUptoSaid : Prop := fnExactIsLayOutUptoRow.holds Tryd.pinned (OpenSpec.upto fnExactIsLayOutSpec)

/-- 'laws.FnExactSpareTracks', WHERE WHAT IT READS IS OF BULK AT MOST 1048576: true; the input reads as it did. -/
def fnExactSpareTracksUptoRow : OpenClaim := { program := "ytkfgmkgbicahgaadoor", sum := "18ebaeb5cae2ba426cb39c29851e5ef24cc27b8b68a265f4860fe1bd1d1e6f71", func := "loop.example/g00949/laws.FnExactSpareTracks", spec := "fnExactSpareTracks", recurses := true, named := ["loop.example/g00949/impl.instrumentLimits"], apart := false, laid := [("loop.example/g00949/impl.instrumentLimits", laid_loop_example_g00949_impl_instrumentLimits)], narrowed := true }
def FnExactSpareTracksUptoSaid : Prop := fnExactSpareTracksUptoRow.holds Tryd.pinned (OpenSpec.upto fnExactSpareTracksSpec)

end Rows
end Go.Proofs.YtkfgmkgbicahgaaDoor
