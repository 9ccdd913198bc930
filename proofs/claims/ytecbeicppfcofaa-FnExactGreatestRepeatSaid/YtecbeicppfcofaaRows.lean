/-
  No cell of these rows narrows 'for every input' (looked for: loops, veiled, ifaces, maps, wideKeys, modest, calm, conditions, laid).
  DERIVED. THE GIVEN ROWS OF THIS SEAT. 10 by the template 'for every input the law returns true; each argument reads behind the call as it read before'; 0 by the template 'total and deterministic' (their statements: YtecbeicppfcofaaTotals.lean).
  GIVEN WITH THE SEED: the statements are not yours to turn. If you find one false, say at which input.
  Laid BY PROGRAM, IN A SANDBOX (cutbox-rows.mjs): the forced cells as the released guide's own fill.sh prints them over the translation 9d4c218fb0c6e398… (all of the seat's roots in one cut). By AI agents, Wed Nov 11 2026. No macro, syntax, notation, axiom, sorry.
-/
import Derived.Test.YtecbeicppfcofaaChecked
import GoSem.Claim
import GoSem.ClaimJoined
import GoSem.ClaimMapViews
import Derived.JoinedTies
import Derived.KernelRfl
namespace Go.Proofs.Ytecbeicppfcofaa
/- THE CELL 'sum', in the pinned program and in every row, IS THE sha256 OF THE DUMP (.gsa) THAT YtecbeicppfcofaaProg.lean LOADS. Nothing in Lean hashes anything: it is a label: what it is worth is what the hold of that sum in a sandbox is worth. -/
noncomputable def Try.pinned : Pinned := { name := "ytecbeicppfcofaa", sum := "9d4c218fb0c6e398a0c41f1a09467fdf8b97280bf3e883ffd98e32946a7f6244", checked := Try.checked }
namespace Rows
def none {H : Type} : Left H := { results := [], args := [] }

/-- 'laws.FnExactIsVoice': WHATEVER THE INPUT: true; the input reads as it did. -/
def fnExactIsVoiceSpec : ChangeSpec := { name := "fnExactIsVoice", fn := fun _ => fun
  | [d] => { results := [.lit (.bool true)], args := [d] }
  | _ => none }
def fnExactIsVoiceRow : OpenClaim := { program := "ytecbeicppfcofaa", sum := "9d4c218fb0c6e398a0c41f1a09467fdf8b97280bf3e883ffd98e32946a7f6244", func := "loop.example/g00949/laws.FnExactIsVoice", spec := "fnExactIsVoice", apart := false }
def FnExactIsVoiceSaid : Prop := fnExactIsVoiceRow.holds Try.pinned (OpenSpec.ofChange fnExactIsVoiceSpec)

/-- ITS FALSE NEIGHBOUR: 'it returns false'. Refute it at one input. -/
def fnExactIsVoiceWrong : ChangeSpec := { name := "fnExactIsVoice", fn := fun _ => fun
  | [d] => { results := [.lit (.bool false)], args := [d] }
  | _ => none }
def FnExactIsVoiceWrongFalsely : Prop := fnExactIsVoiceRow.holds Try.pinned (OpenSpec.ofChange fnExactIsVoiceWrong)

/-- 'laws.FnExactVoiceLength': WHATEVER THE INPUT: true; the input reads as it did. -/
def fnExactVoiceLengthSpec : ChangeSpec := { name := "fnExactVoiceLength", fn := fun _ => fun
  | [d] => { results := [.lit (.bool true)], args := [d] }
  | _ => none }
def fnExactVoiceLengthRow : OpenClaim := { program := "ytecbeicppfcofaa", sum := "9d4c218fb0c6e398a0c41f1a09467fdf8b97280bf3e883ffd98e32946a7f6244", func := "loop.example/g00949/laws.FnExactVoiceLength", spec := "fnExactVoiceLength", apart := false }
def FnExactVoiceLengthSaid : Prop := fnExactVoiceLengthRow.holds Try.pinned (OpenSpec.ofChange fnExactVoiceLengthSpec)

/-- ITS FALSE NEIGHBOUR: 'it returns false'. Refute it at one input. -/
def fnExactVoiceLengthWrong : ChangeSpec := { name := "fnExactVoiceLength", fn := fun _ => fun
  | [d] => { results := [.lit (.bool false)], args := [d] }
  | _ => none }
def FnExactVoiceLengthWrongFalsely : Prop := fnExactVoiceLengthRow.holds Try.pinned (OpenSpec.ofChange fnExactVoiceLengthWrong)

/-- 'laws.FnExactEventStart': WHATEVER THE INPUT: true; the input reads as it did. -/
def fnExactEventStartSpec : ChangeSpec := { name := "fnExactEventStart", fn := fun _ => fun
  | [d1, d2] => { results := [.lit (.bool true)], args := [d1, d2] }
  | _ => none }
def fnExactEventStartRow : OpenClaim := { program := "ytecbeicppfcofaa", sum := "9d4c218fb0c6e398a0c41f1a09467fdf8b97280bf3e883ffd98e32946a7f6244", func := "loop.example/g00949/laws.FnExactEventStart", spec := "fnExactEventStart", apart := false }
def FnExactEventStartSaid : Prop := fnExactEventStartRow.holds Try.pinned (OpenSpec.ofChange fnExactEventStartSpec)

/-- ITS FALSE NEIGHBOUR: 'it returns false'. Refute it at one input. -/
def fnExactEventStartWrong : ChangeSpec := { name := "fnExactEventStart", fn := fun _ => fun
  | [d1, d2] => { results := [.lit (.bool false)], args := [d1, d2] }
  | _ => none }
def FnExactEventStartWrongFalsely : Prop := fnExactEventStartRow.holds Try.pinned (OpenSpec.ofChange fnExactEventStartWrong)

/-- 'laws.FnExactQuantiseVoice': WHATEVER THE INPUT: true; the input reads as it did. -/
def fnExactQuantiseVoiceSpec : ChangeSpec := { name := "fnExactQuantiseVoice", fn := fun _ => fun
  | [d1, d2] => { results := [.lit (.bool true)], args := [d1, d2] }
  | _ => none }
def fnExactQuantiseVoiceRow : OpenClaim := { program := "ytecbeicppfcofaa", sum := "9d4c218fb0c6e398a0c41f1a09467fdf8b97280bf3e883ffd98e32946a7f6244", func := "loop.example/g00949/laws.FnExactQuantiseVoice", spec := "fnExactQuantiseVoice", apart := false }
def FnExactQuantiseVoiceSaid : Prop := fnExactQuantiseVoiceRow.holds Try.pinned (OpenSpec.ofChange fnExactQuantiseVoiceSpec)

/-- ITS FALSE NEIGHBOUR: 'it returns false'. Refute it at one input. -/
def fnExactQuantiseVoiceWrong : ChangeSpec := { name := "fnExactQuantiseVoice", fn := fun _ => fun
  | [d1, d2] => { results := [.lit (.bool false)], args := [d1, d2] }
  | _ => none }
def FnExactQuantiseVoiceWrongFalsely : Prop := fnExactQuantiseVoiceRow.holds Try.pinned (OpenSpec.ofChange fnExactQuantiseVoiceWrong)

/-- 'laws.FnExactExactGrid': WHATEVER THE INPUT: true; the input reads as it did. -/
def fnExactExactGridSpec : ChangeSpec := { name := "fnExactExactGrid", fn := fun _ => fun
  | [d] => { results := [.lit (.bool true)], args := [d] }
  | _ => none }
def fnExactExactGridRow : OpenClaim := { program := "ytecbeicppfcofaa", sum := "9d4c218fb0c6e398a0c41f1a09467fdf8b97280bf3e883ffd98e32946a7f6244", func := "loop.example/g00949/laws.FnExactExactGrid", spec := "fnExactExactGrid", apart := false }
def FnExactExactGridSaid : Prop := fnExactExactGridRow.holds Try.pinned (OpenSpec.ofChange fnExactExactGridSpec)

/-- ITS FALSE NEIGHBOUR: 'it returns false'. Refute it at one input. -/
def fnExactExactGridWrong : ChangeSpec := { name := "fnExactExactGrid", fn := fun _ => fun
  | [d] => { results := [.lit (.bool false)], args := [d] }
  | _ => none }
def FnExactExactGridWrongFalsely : Prop := fnExactExactGridRow.holds Try.pinned (OpenSpec.ofChange fnExactExactGridWrong)

/-- 'laws.FnExactGridError': WHATEVER THE INPUT: true; the input reads as it did. -/
def fnExactGridErrorSpec : ChangeSpec := { name := "fnExactGridError", fn := fun _ => fun
  | [d1, d2] => { results := [.lit (.bool true)], args := [d1, d2] }
  | _ => none }
def fnExactGridErrorRow : OpenClaim := { program := "ytecbeicppfcofaa", sum := "9d4c218fb0c6e398a0c41f1a09467fdf8b97280bf3e883ffd98e32946a7f6244", func := "loop.example/g00949/laws.FnExactGridError", spec := "fnExactGridError", apart := false }
def FnExactGridErrorSaid : Prop := fnExactGridErrorRow.holds Try.pinned (OpenSpec.ofChange fnExactGridErrorSpec)

/-- ITS FALSE NEIGHBOUR: 'it returns false'. Refute it at one input. -/
def fnExactGridErrorWrong : ChangeSpec := { name := "fnExactGridError", fn := fun _ => fun
  | [d1, d2] => { results := [.lit (.bool false)], args := [d1, d2] }
  | _ => none }
def FnExactGridErrorWrongFalsely : Prop := fnExactGridErrorRow.holds Try.pinned (OpenSpec.ofChange fnExactGridErrorWrong)

/-- 'laws.FnExactTransposeVoice': WHATEVER THE INPUT: true; the input reads as it did. -/
def fnExactTransposeVoiceSpec : ChangeSpec := { name := "fnExactTransposeVoice", fn := fun _ => fun
  | [d1, d2] => { results := [.lit (.bool true)], args := [d1, d2] }
  | _ => none }
def fnExactTransposeVoiceRow : OpenClaim := { program := "ytecbeicppfcofaa", sum := "9d4c218fb0c6e398a0c41f1a09467fdf8b97280bf3e883ffd98e32946a7f6244", func := "loop.example/g00949/laws.FnExactTransposeVoice", spec := "fnExactTransposeVoice", unfollowed := true, recurses := true, apart := false }
def FnExactTransposeVoiceSaid : Prop := fnExactTransposeVoiceRow.holds Try.pinned (OpenSpec.ofChange fnExactTransposeVoiceSpec)

/-- ITS FALSE NEIGHBOUR: 'it returns false'. Refute it at one input. -/
def fnExactTransposeVoiceWrong : ChangeSpec := { name := "fnExactTransposeVoice", fn := fun _ => fun
  | [d1, d2] => { results := [.lit (.bool false)], args := [d1, d2] }
  | _ => none }
def FnExactTransposeVoiceWrongFalsely : Prop := fnExactTransposeVoiceRow.holds Try.pinned (OpenSpec.ofChange fnExactTransposeVoiceWrong)

/-- 'laws.FnExactStretchVoice': WHATEVER THE INPUT: true; the input reads as it did. -/
def fnExactStretchVoiceSpec : ChangeSpec := { name := "fnExactStretchVoice", fn := fun _ => fun
  | [d1, d2, d3] => { results := [.lit (.bool true)], args := [d1, d2, d3] }
  | _ => none }
def fnExactStretchVoiceRow : OpenClaim := { program := "ytecbeicppfcofaa", sum := "9d4c218fb0c6e398a0c41f1a09467fdf8b97280bf3e883ffd98e32946a7f6244", func := "loop.example/g00949/laws.FnExactStretchVoice", spec := "fnExactStretchVoice", unfollowed := true, recurses := true, apart := false }
def FnExactStretchVoiceSaid : Prop := fnExactStretchVoiceRow.holds Try.pinned (OpenSpec.ofChange fnExactStretchVoiceSpec)

/-- ITS FALSE NEIGHBOUR: 'it returns false'. Refute it at one input. -/
def fnExactStretchVoiceWrong : ChangeSpec := { name := "fnExactStretchVoice", fn := fun _ => fun
  | [d1, d2, d3] => { results := [.lit (.bool false)], args := [d1, d2, d3] }
  | _ => none }
def FnExactStretchVoiceWrongFalsely : Prop := fnExactStretchVoiceRow.holds Try.pinned (OpenSpec.ofChange fnExactStretchVoiceWrong)

/-- 'laws.FnExactMergeRests': WHATEVER THE INPUT: true; the input reads as it did. -/
def fnExactMergeRestsSpec : ChangeSpec := { name := "fnExactMergeRests", fn := fun _ => fun
  | [d] => { results := [.lit (.bool true)], args := [d] }
  | _ => none }
def fnExactMergeRestsRow : OpenClaim := { program := "ytecbeicppfcofaa", sum := "9d4c218fb0c6e398a0c41f1a09467fdf8b97280bf3e883ffd98e32946a7f6244", func := "loop.example/g00949/laws.FnExactMergeRests", spec := "fnExactMergeRests", apart := false }
def FnExactMergeRestsSaid : Prop := fnExactMergeRestsRow.holds Try.pinned (OpenSpec.ofChange fnExactMergeRestsSpec)

/-- ITS FALSE NEIGHBOUR: 'it returns false'. Refute it at one input. -/
def fnExactMergeRestsWrong : ChangeSpec := { name := "fnExactMergeRests", fn := fun _ => fun
  | [d] => { results := [.lit (.bool false)], args := [d] }
  | _ => none }
def FnExactMergeRestsWrongFalsely : Prop := fnExactMergeRestsRow.holds Try.pinned (OpenSpec.ofChange fnExactMergeRestsWrong)

/-- 'laws.FnExactGreatestRepeat': WHATEVER THE INPUT: true; the input reads as it did. -/
def fnExactGreatestRepeatSpec : ChangeSpec := { name := "fnExactGreatestRepeat", fn := fun _ => fun
  | [d] => { results := [.lit (.bool true)], args := [d] }
  | _ => none }
def fnExactGreatestRepeatRow : OpenClaim := { program := "ytecbeicppfcofaa", sum := "9d4c218fb0c6e398a0c41f1a09467fdf8b97280bf3e883ffd98e32946a7f6244", func := "loop.example/g00949/laws.FnExactGreatestRepeat", spec := "fnExactGreatestRepeat", apart := false }
def FnExactGreatestRepeatSaid : Prop := fnExactGreatestRepeatRow.holds Try.pinned (OpenSpec.ofChange fnExactGreatestRepeatSpec)

/-- ITS FALSE NEIGHBOUR: 'it returns false'. Refute it at one input. -/
def fnExactGreatestRepeatWrong : ChangeSpec := { name := "fnExactGreatestRepeat", fn := fun _ => fun
  | [d] => { results := [.lit (.bool false)], args := [d] }
  | _ => none }
def FnExactGreatestRepeatWrongFalsely : Prop := fnExactGreatestRepeatRow.holds Try.pinned (OpenSpec.ofChange fnExactGreatestRepeatWrong)

/- THE SECOND FORM. 'bulk': how many values and letters a reading holds, each counted each time it is reached (what is shared counts as often as it is met; a slice's spare places count too). A statement '..UptoSaid' is the law's where the arguments, and the package variables that the reading takes, are together of bulk at most 1048576: NARROWER than '..Said'. Prove '..Said' where nothing that the law and all that it calls make is longer than what came in: it says more and counts as full. Else prove '..UptoSaid'. A law counts once. -/
mutual
def uptoBulk {H : Type} : DataW H → Nat
  | .lit (.string bytes) => bytes.length + 1
  | .lit _ => 1
  | .nil => 1
  | .ptr d => uptoBulk d + 1
  | .slice elems spare => uptoBulkAll elems + uptoBulkAll spare + 1
  | .agg parts => uptoBulkAll parts + 1
  | .iface _ d => uptoBulk d + 1
  | .map entries => uptoBulkEntries entries + 1
  | .held _ => 1
def uptoBulkAll {H : Type} : List (DataW H) → Nat
  | [] => 0
  | d :: r => uptoBulk d + uptoBulkAll r
def uptoBulkEntries {H : Type} : List (Lit × DataW H) → Nat
  | [] => 0
  | x :: r => uptoBulkEntry x + uptoBulkEntries r
def uptoBulkEntry {H : Type} : Lit × DataW H → Nat
  | (.string bytes, d) => bytes.length + uptoBulk d + 1
  | (_, d) => uptoBulk d + 1
 end
def uptoSmall : (H : Type) → List (DataW H) → Bool := fun _ ds => decide (uptoBulkAll ds ≤ 1048576)
def OpenSpec.upto (s : _root_.Go.ChangeSpec) : _root_.Go.OpenSpec := { _root_.Go.OpenSpec.ofChange s with cond := some uptoSmall }

/-- 'laws.FnExactIsVoice', WHERE WHAT IT READS IS OF BULK AT MOST 1048576: true; the input reads as it did. -/
def fnExactIsVoiceUptoRow : OpenClaim := { program := "ytecbeicppfcofaa", sum := "9d4c218fb0c6e398a0c41f1a09467fdf8b97280bf3e883ffd98e32946a7f6244", func := "loop.example/g00949/laws.FnExactIsVoice", spec := "fnExactIsVoice", apart := false, narrowed := true }
def FnExactIsVoiceUptoSaid : Prop := fnExactIsVoiceUptoRow.holds Try.pinned (OpenSpec.upto fnExactIsVoiceSpec)

/-- 'laws.FnExactVoiceLength', WHERE WHAT IT READS IS OF BULK AT MOST 1048576: true; the input reads as it did. -/
def fnExactVoiceLengthUptoRow : OpenClaim := { program := "ytecbeicppfcofaa", sum := "9d4c218fb0c6e398a0c41f1a09467fdf8b97280bf3e883ffd98e32946a7f6244", func := "loop.example/g00949/laws.FnExactVoiceLength", spec := "fnExactVoiceLength", apart := false, narrowed := true }
def FnExactVoiceLengthUptoSaid : Prop := fnExactVoiceLengthUptoRow.holds Try.pinned (OpenSpec.upto fnExactVoiceLengthSpec)

/-- 'laws.FnExactEventStart', WHERE WHAT IT READS IS OF BULK AT MOST 1048576: true; the input reads as it did. -/
def fnExactEventStartUptoRow : OpenClaim := { program := "ytecbeicppfcofaa", sum := "9d4c218fb0c6e398a0c41f1a09467fdf8b97280bf3e883ffd98e32946a7f6244", func := "loop.example/g00949/laws.FnExactEventStart", spec := "fnExactEventStart", apart := false, narrowed := true }
def FnExactEventStartUptoSaid : Prop := fnExactEventStartUptoRow.holds Try.pinned (OpenSpec.upto fnExactEventStartSpec)

/-- 'laws.FnExactQuantiseVoice', WHERE WHAT IT READS IS OF BULK AT MOST 1048576: true; the input reads as it did. -/
def fnExactQuantiseVoiceUptoRow : OpenClaim := { program := "ytecbeicppfcofaa", sum := "9d4c218fb0c6e398a0c41f1a09467fdf8b97280bf3e883ffd98e32946a7f6244", func := "loop.example/g00949/laws.FnExactQuantiseVoice", spec := "fnExactQuantiseVoice", apart := false, narrowed := true }
def FnExactQuantiseVoiceUptoSaid : Prop := fnExactQuantiseVoiceUptoRow.holds Try.pinned (OpenSpec.upto fnExactQuantiseVoiceSpec)

/-- 'laws.FnExactExactGrid', WHERE WHAT IT READS IS OF BULK AT MOST 1048576: true; the input reads as it did. -/
def fnExactExactGridUptoRow : OpenClaim := { program := "ytecbeicppfcofaa", sum := "9d4c218fb0c6e398a0c41f1a09467fdf8b97280bf3e883ffd98e32946a7f6244", func := "loop.example/g00949/laws.FnExactExactGrid", spec := "fnExactExactGrid", apart := false, narrowed := true }
def FnExactExactGridUptoSaid : Prop := fnExactExactGridUptoRow.holds Try.pinned (OpenSpec.upto fnExactExactGridSpec)

/-- 'laws.FnExactGridError', WHERE WHAT IT READS IS OF BULK AT MOST 1048576: true; the input reads as it did. -/
def fnExactGridErrorUptoRow : OpenClaim := { program := "ytecbeicppfcofaa", sum := "9d4c218fb0c6e398a0c41f1a09467fdf8b97280bf3e883ffd98e32946a7f6244", func := "loop.example/g00949/laws.FnExactGridError", spec := "fnExactGridError", apart := false, narrowed := true }
def FnExactGridErrorUptoSaid : Prop := fnExactGridErrorUptoRow.holds Try.pinned (OpenSpec.upto fnExactGridErrorSpec)

/-- 'laws.FnExactTransposeVoice', WHERE WHAT IT READS IS OF BULK AT MOST 1048576: true; the input reads as it did. -/
def fnExactTransposeVoiceUptoRow : OpenClaim := { program := "ytecbeicppfcofaa", sum := "9d4c218fb0c6e398a0c41f1a09467fdf8b97280bf3e883ffd98e32946a7f6244", func := "loop.example/g00949/laws.FnExactTransposeVoice", spec := "fnExactTransposeVoice", unfollowed := true, recurses := true, apart := false, narrowed := true }
def FnExactTransposeVoiceUptoSaid : Prop := fnExactTransposeVoiceUptoRow.holds Try.pinned (OpenSpec.upto fnExactTransposeVoiceSpec)

/-- 'laws.FnExactStretchVoice', WHERE WHAT IT READS IS OF BULK AT MOST 1048576: true; the input reads as it did. -/
def fnExactStretchVoiceUptoRow : OpenClaim := { program := "ytecbeicppfcofaa", sum := "9d4c218fb0c6e398a0c41f1a09467fdf8b97280bf3e883ffd98e32946a7f6244", func := "loop.example/g00949/laws.FnExactStretchVoice", spec := "fnExactStretchVoice", unfollowed := true, recurses := true, apart := false, narrowed := true }
def FnExactStretchVoiceUptoSaid : Prop := fnExactStretchVoiceUptoRow.holds Try.pinned (OpenSpec.upto fnExactStretchVoiceSpec)

/-- 'laws.FnExactMergeRests', WHERE WHAT IT READS IS OF BULK AT MOST 1048576: true; the input reads as it did. -/
def fnExactMergeRestsUptoRow : OpenClaim := { program := "ytecbeicppfcofaa", sum := "9d4c218fb0c6e398a0c41f1a09467fdf8b97280bf3e883ffd98e32946a7f6244", func := "loop.example/g00949/laws.FnExactMergeRests", spec := "fnExactMergeRests", apart := false, narrowed := true }
def FnExactMergeRestsUptoSaid : Prop := fnExactMergeRestsUptoRow.holds Try.pinned (OpenSpec.upto fnExactMergeRestsSpec)

/-- 'laws.FnExactGreatestRepeat', WHERE WHAT IT READS IS OF BULK AT MOST 1048576: true; the input reads as it did. -/
def fnExactGreatestRepeatUptoRow : OpenClaim := { program := "ytecbeicppfcofaa", sum := "9d4c218fb0c6e398a0c41f1a09467fdf8b97280bf3e883ffd98e32946a7f6244", func := "loop.example/g00949/laws.FnExactGreatestRepeat", spec := "fnExactGreatestRepeat", apart := false, narrowed := true }
def FnExactGreatestRepeatUptoSaid : Prop := fnExactGreatestRepeatUptoRow.holds Try.pinned (OpenSpec.upto fnExactGreatestRepeatSpec)

end Rows
end Go.Proofs.Ytecbeicppfcofaa
