/-
  No cell of these rows narrows 'for every input' (looked for: loops, veiled, ifaces, maps, wideKeys, modest, calm, conditions, laid).
  DERIVED. THE GIVEN ROWS OF THIS SEAT. 9 by the template 'for every input the law returns true; each argument reads behind the call as it read before'; 0 by the template 'total and deterministic' (their statements: YtkgnkdebognneaaTotals.lean).
  GIVEN WITH THE SEED: the statements are not yours to turn. If you find one false, say at which input.
  Laid BY PROGRAM, IN A SANDBOX (cutbox-rows.mjs): the forced cells as the released guide's own fill.sh prints them over the translation 1592e797e1567ca0… (all of the seat's roots in one cut). By AI agents, Wed Nov 11 2026. No macro, syntax, notation, axiom, sorry.
-/
import Derived.Test.YtkgnkdebognneaaChecked
import GoSem.Claim
import GoSem.ClaimJoined
import GoSem.ClaimMapViews
import Derived.JoinedTies
import Derived.KernelRfl
namespace Go.Proofs.Ytkgnkdebognneaa
/- THE CELL 'sum', in the pinned program and in every row, IS THE sha256 OF THE DUMP (.gsa) THAT YtkgnkdebognneaaProg.lean LOADS. Nothing in Lean hashes anything: it is a label: what it is worth is what the hold of that sum in a sandbox is worth. -/
noncomputable def Try.pinned : Pinned := { name := "ytkgnkdebognneaa", sum := "1592e797e1567ca011f47067141bc02e351719421bcd52f6f6ffad439ff233f4", checked := Try.checked }
namespace Rows
def none {H : Type} : Left H := { results := [], args := [] }

/-- 'laws.FnExactIsNote': WHATEVER THE INPUT: true; the input reads as it did. -/
def fnExactIsNoteSpec : ChangeSpec := { name := "fnExactIsNote", fn := fun _ => fun
  | [d] => { results := [.lit (.bool true)], args := [d] }
  | _ => none }
def fnExactIsNoteRow : OpenClaim := { program := "ytkgnkdebognneaa", sum := "1592e797e1567ca011f47067141bc02e351719421bcd52f6f6ffad439ff233f4", func := "loop.example/g00949/laws.FnExactIsNote", spec := "fnExactIsNote", apart := false }
def FnExactIsNoteSaid : Prop := fnExactIsNoteRow.holds Try.pinned (OpenSpec.ofChange fnExactIsNoteSpec)

/-- ITS FALSE NEIGHBOUR: 'it returns false'. Refute it at one input. -/
def fnExactIsNoteWrong : ChangeSpec := { name := "fnExactIsNote", fn := fun _ => fun
  | [d] => { results := [.lit (.bool false)], args := [d] }
  | _ => none }
def FnExactIsNoteWrongFalsely : Prop := fnExactIsNoteRow.holds Try.pinned (OpenSpec.ofChange fnExactIsNoteWrong)

/-- 'laws.FnExactIsScore': WHATEVER THE INPUT: true; the input reads as it did. -/
def fnExactIsScoreSpec : ChangeSpec := { name := "fnExactIsScore", fn := fun _ => fun
  | [d] => { results := [.lit (.bool true)], args := [d] }
  | _ => none }
def fnExactIsScoreRow : OpenClaim := { program := "ytkgnkdebognneaa", sum := "1592e797e1567ca011f47067141bc02e351719421bcd52f6f6ffad439ff233f4", func := "loop.example/g00949/laws.FnExactIsScore", spec := "fnExactIsScore", apart := false }
def FnExactIsScoreSaid : Prop := fnExactIsScoreRow.holds Try.pinned (OpenSpec.ofChange fnExactIsScoreSpec)

/-- ITS FALSE NEIGHBOUR: 'it returns false'. Refute it at one input. -/
def fnExactIsScoreWrong : ChangeSpec := { name := "fnExactIsScore", fn := fun _ => fun
  | [d] => { results := [.lit (.bool false)], args := [d] }
  | _ => none }
def FnExactIsScoreWrongFalsely : Prop := fnExactIsScoreRow.holds Try.pinned (OpenSpec.ofChange fnExactIsScoreWrong)

/-- 'laws.FnExactSortNotes': WHATEVER THE INPUT: true; the input reads as it did. -/
def fnExactSortNotesSpec : ChangeSpec := { name := "fnExactSortNotes", fn := fun _ => fun
  | [d] => { results := [.lit (.bool true)], args := [d] }
  | _ => none }
def fnExactSortNotesRow : OpenClaim := { program := "ytkgnkdebognneaa", sum := "1592e797e1567ca011f47067141bc02e351719421bcd52f6f6ffad439ff233f4", func := "loop.example/g00949/laws.FnExactSortNotes", spec := "fnExactSortNotes", unfollowed := true, recurses := true, apart := false }
def FnExactSortNotesSaid : Prop := fnExactSortNotesRow.holds Try.pinned (OpenSpec.ofChange fnExactSortNotesSpec)

/-- ITS FALSE NEIGHBOUR: 'it returns false'. Refute it at one input. -/
def fnExactSortNotesWrong : ChangeSpec := { name := "fnExactSortNotes", fn := fun _ => fun
  | [d] => { results := [.lit (.bool false)], args := [d] }
  | _ => none }
def FnExactSortNotesWrongFalsely : Prop := fnExactSortNotesRow.holds Try.pinned (OpenSpec.ofChange fnExactSortNotesWrong)

/-- 'laws.FnExactTransposeScore': WHATEVER THE INPUT: true; the input reads as it did. -/
def fnExactTransposeScoreSpec : ChangeSpec := { name := "fnExactTransposeScore", fn := fun _ => fun
  | [d1, d2] => { results := [.lit (.bool true)], args := [d1, d2] }
  | _ => none }
def fnExactTransposeScoreRow : OpenClaim := { program := "ytkgnkdebognneaa", sum := "1592e797e1567ca011f47067141bc02e351719421bcd52f6f6ffad439ff233f4", func := "loop.example/g00949/laws.FnExactTransposeScore", spec := "fnExactTransposeScore", unfollowed := true, recurses := true, apart := false }
def FnExactTransposeScoreSaid : Prop := fnExactTransposeScoreRow.holds Try.pinned (OpenSpec.ofChange fnExactTransposeScoreSpec)

/-- ITS FALSE NEIGHBOUR: 'it returns false'. Refute it at one input. -/
def fnExactTransposeScoreWrong : ChangeSpec := { name := "fnExactTransposeScore", fn := fun _ => fun
  | [d1, d2] => { results := [.lit (.bool false)], args := [d1, d2] }
  | _ => none }
def FnExactTransposeScoreWrongFalsely : Prop := fnExactTransposeScoreRow.holds Try.pinned (OpenSpec.ofChange fnExactTransposeScoreWrong)

/-- 'laws.FnExactMoveScore': WHATEVER THE INPUT: true; the input reads as it did. -/
def fnExactMoveScoreSpec : ChangeSpec := { name := "fnExactMoveScore", fn := fun _ => fun
  | [d1, d2] => { results := [.lit (.bool true)], args := [d1, d2] }
  | _ => none }
def fnExactMoveScoreRow : OpenClaim := { program := "ytkgnkdebognneaa", sum := "1592e797e1567ca011f47067141bc02e351719421bcd52f6f6ffad439ff233f4", func := "loop.example/g00949/laws.FnExactMoveScore", spec := "fnExactMoveScore", unfollowed := true, recurses := true, apart := false }
def FnExactMoveScoreSaid : Prop := fnExactMoveScoreRow.holds Try.pinned (OpenSpec.ofChange fnExactMoveScoreSpec)

/-- ITS FALSE NEIGHBOUR: 'it returns false'. Refute it at one input. -/
def fnExactMoveScoreWrong : ChangeSpec := { name := "fnExactMoveScore", fn := fun _ => fun
  | [d1, d2] => { results := [.lit (.bool false)], args := [d1, d2] }
  | _ => none }
def FnExactMoveScoreWrongFalsely : Prop := fnExactMoveScoreRow.holds Try.pinned (OpenSpec.ofChange fnExactMoveScoreWrong)

/-- 'laws.FnExactJoinScores': WHATEVER THE INPUT: true; the input reads as it did. -/
def fnExactJoinScoresSpec : ChangeSpec := { name := "fnExactJoinScores", fn := fun _ => fun
  | [d1, d2] => { results := [.lit (.bool true)], args := [d1, d2] }
  | _ => none }
def fnExactJoinScoresRow : OpenClaim := { program := "ytkgnkdebognneaa", sum := "1592e797e1567ca011f47067141bc02e351719421bcd52f6f6ffad439ff233f4", func := "loop.example/g00949/laws.FnExactJoinScores", spec := "fnExactJoinScores", unfollowed := true, recurses := true, apart := false }
def FnExactJoinScoresSaid : Prop := fnExactJoinScoresRow.holds Try.pinned (OpenSpec.ofChange fnExactJoinScoresSpec)

/-- ITS FALSE NEIGHBOUR: 'it returns false'. Refute it at one input. -/
def fnExactJoinScoresWrong : ChangeSpec := { name := "fnExactJoinScores", fn := fun _ => fun
  | [d1, d2] => { results := [.lit (.bool false)], args := [d1, d2] }
  | _ => none }
def FnExactJoinScoresWrongFalsely : Prop := fnExactJoinScoresRow.holds Try.pinned (OpenSpec.ofChange fnExactJoinScoresWrong)

/-- 'laws.FnExactSoundingAt': WHATEVER THE INPUT: true; the input reads as it did. -/
def fnExactSoundingAtSpec : ChangeSpec := { name := "fnExactSoundingAt", fn := fun _ => fun
  | [d1, d2] => { results := [.lit (.bool true)], args := [d1, d2] }
  | _ => none }
def fnExactSoundingAtRow : OpenClaim := { program := "ytkgnkdebognneaa", sum := "1592e797e1567ca011f47067141bc02e351719421bcd52f6f6ffad439ff233f4", func := "loop.example/g00949/laws.FnExactSoundingAt", spec := "fnExactSoundingAt", recurses := true, apart := false }
def FnExactSoundingAtSaid : Prop := fnExactSoundingAtRow.holds Try.pinned (OpenSpec.ofChange fnExactSoundingAtSpec)

/-- ITS FALSE NEIGHBOUR: 'it returns false'. Refute it at one input. -/
def fnExactSoundingAtWrong : ChangeSpec := { name := "fnExactSoundingAt", fn := fun _ => fun
  | [d1, d2] => { results := [.lit (.bool false)], args := [d1, d2] }
  | _ => none }
def FnExactSoundingAtWrongFalsely : Prop := fnExactSoundingAtRow.holds Try.pinned (OpenSpec.ofChange fnExactSoundingAtWrong)

/-- 'laws.FnExactEndOfScore': WHATEVER THE INPUT: true; the input reads as it did. -/
def fnExactEndOfScoreSpec : ChangeSpec := { name := "fnExactEndOfScore", fn := fun _ => fun
  | [d] => { results := [.lit (.bool true)], args := [d] }
  | _ => none }
def fnExactEndOfScoreRow : OpenClaim := { program := "ytkgnkdebognneaa", sum := "1592e797e1567ca011f47067141bc02e351719421bcd52f6f6ffad439ff233f4", func := "loop.example/g00949/laws.FnExactEndOfScore", spec := "fnExactEndOfScore", apart := false }
def FnExactEndOfScoreSaid : Prop := fnExactEndOfScoreRow.holds Try.pinned (OpenSpec.ofChange fnExactEndOfScoreSpec)

/-- ITS FALSE NEIGHBOUR: 'it returns false'. Refute it at one input. -/
def fnExactEndOfScoreWrong : ChangeSpec := { name := "fnExactEndOfScore", fn := fun _ => fun
  | [d] => { results := [.lit (.bool false)], args := [d] }
  | _ => none }
def FnExactEndOfScoreWrongFalsely : Prop := fnExactEndOfScoreRow.holds Try.pinned (OpenSpec.ofChange fnExactEndOfScoreWrong)

/-- 'laws.FnExactRangeOf': WHATEVER THE INPUT: true; the input reads as it did. -/
def fnExactRangeOfSpec : ChangeSpec := { name := "fnExactRangeOf", fn := fun _ => fun
  | [d] => { results := [.lit (.bool true)], args := [d] }
  | _ => none }
def fnExactRangeOfRow : OpenClaim := { program := "ytkgnkdebognneaa", sum := "1592e797e1567ca011f47067141bc02e351719421bcd52f6f6ffad439ff233f4", func := "loop.example/g00949/laws.FnExactRangeOf", spec := "fnExactRangeOf", apart := false }
def FnExactRangeOfSaid : Prop := fnExactRangeOfRow.holds Try.pinned (OpenSpec.ofChange fnExactRangeOfSpec)

/-- ITS FALSE NEIGHBOUR: 'it returns false'. Refute it at one input. -/
def fnExactRangeOfWrong : ChangeSpec := { name := "fnExactRangeOf", fn := fun _ => fun
  | [d] => { results := [.lit (.bool false)], args := [d] }
  | _ => none }
def FnExactRangeOfWrongFalsely : Prop := fnExactRangeOfRow.holds Try.pinned (OpenSpec.ofChange fnExactRangeOfWrong)

/- THE SECOND FORM. 'bulk': how many values and letters a reading holds, each counted each time it is reached (what is shared counts as often as it is met; a slice's spare places count too). A statement '..UptoSaid' is the law's where the arguments, and the package variables that the reading takes, are together of bulk at most 1048576: NARROWER than '..Said'. Prove '..Said' where nothing that the law and all that it calls make is longer than what came in: it says more and counts as full. Else prove '..UptoSaid'. A law counts once. -/
mutual
def uptoBulk {H : Type} : DataW H → Nat
  | .lit (.string bytes) => bytes.length + 1
  | .lit _ => 1
  | .nil => 1
  | .ptr d => uptoBulk d + 1
  | .slice elems spare => uptoBulkAll elems + uptoBulkAll spare + 1
  | .agg parts => uptoBulkAll parts + 1
  | .iface _ d => uptoBulk d + 1
  | .map entries => uptoBulkEntries entries + 1
  | .held _ => 1
def uptoBulkAll {H : Type} : List (DataW H) → Nat
  | [] => 0
  | d :: r => uptoBulk d + uptoBulkAll r
def uptoBulkEntries {H : Type} : List (Lit × DataW H) → Nat
  | [] => 0
  | x :: r => uptoBulkEntry x + uptoBulkEntries r
def uptoBulkEntry {H : Type} : Lit × DataW H → Nat
  | (.string bytes, d) => bytes.length + uptoBulk d + 1
  | (_, d) => uptoBulk d + 1
 end
def uptoSmall : (H : Type) → List (DataW H) → Bool := fun _ ds => decide (uptoBulkAll ds ≤ 1048576)
def OpenSpec.upto (s : _root_.Go.ChangeSpec) : _root_.Go.OpenSpec := { _root_.Go.OpenSpec.ofChange s with cond := some uptoSmall }

/-- 'laws.FnExactIsNote', WHERE WHAT IT READS IS OF BULK AT MOST 1048576: true; the input reads as it did. -/
def fnExactIsNoteUptoRow : OpenClaim := { program := "ytkgnkdebognneaa", sum := "1592e797e1567ca011f47067141bc02e351719421bcd52f6f6ffad439ff233f4", func := "loop.example/g00949/laws.FnExactIsNote", spec := "fnExactIsNote", apart := false, narrowed := true }
def FnExactIsNoteUptoSaid : Prop := fnExactIsNoteUptoRow.holds Try.pinned (OpenSpec.upto fnExactIsNoteSpec)

/-- 'laws.FnExactIsScore', WHERE WHAT IT READS IS OF BULK AT MOST 1048576: true; the input reads as it did. -/
def fnExactIsScoreUptoRow : OpenClaim := { program := "ytkgnkdebognneaa", sum := "1592e797e1567ca011f47067141bc02e351719421bcd52f6f6ffad439ff233f4", func := "loop.example/g00949/laws.FnExactIsScore", spec := "fnExactIsScore", apart := false, narrowed := true }
def FnExactIsScoreUptoSaid : Prop := fnExactIsScoreUptoRow.holds Try.pinned (OpenSpec.upto fnExactIsScoreSpec)

/-- 'laws.FnExactSortNotes', WHERE WHAT IT READS IS OF BULK AT MOST 1048576: true; the input reads as it did. -/
def fnExactSortNotesUptoRow : OpenClaim := { program := "ytkgnkdebognneaa", sum := "1592e797e1567ca011f47067141bc02e351719421bcd52f6f6ffad439ff233f4", func := "loop.example/g00949/laws.FnExactSortNotes", spec := "fnExactSortNotes", unfollowed := true, recurses := true, apart := false, narrowed := true }
def FnExactSortNotesUptoSaid : Prop := fnExactSortNotesUptoRow.holds Try.pinned (OpenSpec.upto fnExactSortNotesSpec)

/-- 'laws.FnExactTransposeScore', WHERE WHAT IT READS IS OF BULK AT MOST 1048576: true; the input reads as it did. -/
def fnExactTransposeScoreUptoRow : OpenClaim := { program := "ytkgnkdebognneaa", sum := "1592e797e1567ca011f47067141bc02e351719421bcd52f6f6ffad439ff233f4", func := "loop.example/g00949/laws.FnExactTransposeScore", spec := "fnExactTransposeScore", unfollowed := true, recurses := true, apart := false, narrowed := true }
def FnExactTransposeScoreUptoSaid : Prop := fnExactTransposeScoreUptoRow.holds Try.pinned (OpenSpec.upto fnExactTransposeScoreSpec)

/-- 'laws.FnExactMoveScore', WHERE WHAT IT READS IS OF BULK AT MOST 1048576: true; the input reads as it did. -/
def fnExactMoveScoreUptoRow : OpenClaim := { program := "ytkgnkdebognneaa", sum := "1592e797e1567ca011f47067141bc02e351719421bcd52f6f6ffad439ff233f4", func := "loop.example/g00949/laws.FnExactMoveScore", spec := "fnExactMoveScore", unfollowed := true, recurses := true, apart := false, narrowed := true }
def FnExactMoveScoreUptoSaid : Prop := fnExactMoveScoreUptoRow.holds Try.pinned (OpenSpec.upto fnExactMoveScoreSpec)

/-- 'laws.FnExactJoinScores', WHERE WHAT IT READS IS OF BULK AT MOST 1048576: true; the input reads as it did. -/
def fnExactJoinScoresUptoRow : OpenClaim := { program := "ytkgnkdebognneaa", sum := "1592e797e1567ca011f47067141bc02e351719421bcd52f6f6ffad439ff233f4", func := "loop.example/g00949/laws.FnExactJoinScores", spec := "fnExactJoinScores", unfollowed := true, recurses := true, apart := false, narrowed := true }
def FnExactJoinScoresUptoSaid : Prop := fnExactJoinScoresUptoRow.holds Try.pinned (OpenSpec.upto fnExactJoinScoresSpec)

/-- 'laws.FnExactSoundingAt', WHERE WHAT IT READS IS OF BULK AT MOST 1048576: true; the input reads as it did. -/
def fnExactSoundingAtUptoRow : OpenClaim := { program := "ytkgnkdebognneaa", sum := "1592e797e1567ca011f47067141bc02e351719421bcd52f6f6ffad439ff233f4", func := "loop.example/g00949/laws.FnExactSoundingAt", spec := "fnExactSoundingAt", recurses := true, apart := false, narrowed := true }
def FnExactSoundingAtUptoSaid : Prop := fnExactSoundingAtUptoRow.holds Try.pinned (OpenSpec.upto fnExactSoundingAtSpec)

/-- 'laws.FnExactEndOfScore', WHERE WHAT IT READS IS OF BULK AT MOST 1048576: true; the input reads as it did. -/
def fnExactEndOfScoreUptoRow : OpenClaim := { program := "ytkgnkdebognneaa", sum := "1592e797e1567ca011f47067141bc02e351719421bcd52f6f6ffad439ff233f4", func := "loop.example/g00949/laws.FnExactEndOfScore", spec := "fnExactEndOfScore", apart := false, narrowed := true }
def FnExactEndOfScoreUptoSaid : Prop := fnExactEndOfScoreUptoRow.holds Try.pinned (OpenSpec.upto fnExactEndOfScoreSpec)

/-- 'laws.FnExactRangeOf', WHERE WHAT IT READS IS OF BULK AT MOST 1048576: true; the input reads as it did. -/
def fnExactRangeOfUptoRow : OpenClaim := { program := "ytkgnkdebognneaa", sum := "1592e797e1567ca011f47067141bc02e351719421bcd52f6f6ffad439ff233f4", func := "loop.example/g00949/laws.FnExactRangeOf", spec := "fnExactRangeOf", apart := false, narrowed := true }
def FnExactRangeOfUptoSaid : Prop := fnExactRangeOfUptoRow.holds Try.pinned (OpenSpec.upto fnExactRangeOfSpec)

end Rows
end Go.Proofs.Ytkgnkdebognneaa
