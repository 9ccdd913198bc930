/-
  No cell of these rows narrows 'for every input' (looked for: loops, veiled, ifaces, maps, wideKeys, modest, calm, conditions, laid).
  DERIVED. THE GIVEN ROWS OF THIS SEAT. 12 by the template 'for every input the law returns true; each argument reads behind the call as it read before'; 0 by the template 'total and deterministic' (their statements: YtjjohenpapfabaaTotals.lean).
  GIVEN WITH THE SEED: the statements are not yours to turn. If you find one false, say at which input.
  Laid BY PROGRAM, IN A SANDBOX (cutbox-rows.mjs): the forced cells as the released guide's own fill.sh prints them over the translation 0db1e82e44e57803… (all of the seat's roots in one cut). By AI agents, Wed Nov 11 2026. No macro, syntax, notation, axiom, sorry.
-/
import Derived.Test.YtjjohenpapfabaaChecked
import GoSem.Claim
import GoSem.ClaimJoined
import GoSem.ClaimMapViews
import Derived.JoinedTies
import Derived.KernelRfl
namespace Go.Proofs.Ytjjohenpapfabaa
/- THE CELL 'sum', in the pinned program and in every row, IS THE sha256 OF THE DUMP (.gsa) THAT YtjjohenpapfabaaProg.lean LOADS. Nothing in Lean hashes anything: it is a label: what it is worth is what the hold of that sum in a sandbox is worth. -/
noncomputable def Try.pinned : Pinned := { name := "ytjjohenpapfabaa", sum := "0db1e82e44e57803c9c830ad74f807df20974e8e9b1734ee087d5e0c00410690", checked := Try.checked }
namespace Rows
def none {H : Type} : Left H := { results := [], args := [] }

/-- 'laws.FnExactScaleTempos': WHATEVER THE INPUT: true; the input reads as it did. -/
def fnExactScaleTemposSpec : ChangeSpec := { name := "fnExactScaleTempos", fn := fun _ => fun
  | [d1, d2] => { results := [.lit (.bool true)], args := [d1, d2] }
  | _ => none }
def fnExactScaleTemposRow : OpenClaim := { program := "ytjjohenpapfabaa", sum := "0db1e82e44e57803c9c830ad74f807df20974e8e9b1734ee087d5e0c00410690", func := "loop.example/g00949/laws.FnExactScaleTempos", spec := "fnExactScaleTempos", apart := false }
def FnExactScaleTemposSaid : Prop := fnExactScaleTemposRow.holds Try.pinned (OpenSpec.ofChange fnExactScaleTemposSpec)

/-- ITS FALSE NEIGHBOUR: 'it returns false'. Refute it at one input. -/
def fnExactScaleTemposWrong : ChangeSpec := { name := "fnExactScaleTempos", fn := fun _ => fun
  | [d1, d2] => { results := [.lit (.bool false)], args := [d1, d2] }
  | _ => none }
def FnExactScaleTemposWrongFalsely : Prop := fnExactScaleTemposRow.holds Try.pinned (OpenSpec.ofChange fnExactScaleTemposWrong)

/-- 'laws.FnExactIsHole': WHATEVER THE INPUT: true; the input reads as it did. -/
def fnExactIsHoleSpec : ChangeSpec := { name := "fnExactIsHole", fn := fun _ => fun
  | [d] => { results := [.lit (.bool true)], args := [d] }
  | _ => none }
def fnExactIsHoleRow : OpenClaim := { program := "ytjjohenpapfabaa", sum := "0db1e82e44e57803c9c830ad74f807df20974e8e9b1734ee087d5e0c00410690", func := "loop.example/g00949/laws.FnExactIsHole", spec := "fnExactIsHole", apart := false }
def FnExactIsHoleSaid : Prop := fnExactIsHoleRow.holds Try.pinned (OpenSpec.ofChange fnExactIsHoleSpec)

/-- ITS FALSE NEIGHBOUR: 'it returns false'. Refute it at one input. -/
def fnExactIsHoleWrong : ChangeSpec := { name := "fnExactIsHole", fn := fun _ => fun
  | [d] => { results := [.lit (.bool false)], args := [d] }
  | _ => none }
def FnExactIsHoleWrongFalsely : Prop := fnExactIsHoleRow.holds Try.pinned (OpenSpec.ofChange fnExactIsHoleWrong)

/-- 'laws.FnExactIsSheet': WHATEVER THE INPUT: true; the input reads as it did. -/
def fnExactIsSheetSpec : ChangeSpec := { name := "fnExactIsSheet", fn := fun _ => fun
  | [d] => { results := [.lit (.bool true)], args := [d] }
  | _ => none }
def fnExactIsSheetRow : OpenClaim := { program := "ytjjohenpapfabaa", sum := "0db1e82e44e57803c9c830ad74f807df20974e8e9b1734ee087d5e0c00410690", func := "loop.example/g00949/laws.FnExactIsSheet", spec := "fnExactIsSheet", apart := false }
def FnExactIsSheetSaid : Prop := fnExactIsSheetRow.holds Try.pinned (OpenSpec.ofChange fnExactIsSheetSpec)

/-- ITS FALSE NEIGHBOUR: 'it returns false'. Refute it at one input. -/
def fnExactIsSheetWrong : ChangeSpec := { name := "fnExactIsSheet", fn := fun _ => fun
  | [d] => { results := [.lit (.bool false)], args := [d] }
  | _ => none }
def FnExactIsSheetWrongFalsely : Prop := fnExactIsSheetRow.holds Try.pinned (OpenSpec.ofChange fnExactIsSheetWrong)

/-- 'laws.FnExactAddHole': WHATEVER THE INPUT: true; the input reads as it did. -/
def fnExactAddHoleSpec : ChangeSpec := { name := "fnExactAddHole", fn := fun _ => fun
  | [d1, d2] => { results := [.lit (.bool true)], args := [d1, d2] }
  | _ => none }
def fnExactAddHoleRow : OpenClaim := { program := "ytjjohenpapfabaa", sum := "0db1e82e44e57803c9c830ad74f807df20974e8e9b1734ee087d5e0c00410690", func := "loop.example/g00949/laws.FnExactAddHole", spec := "fnExactAddHole", unfollowed := true, recurses := true, apart := false }
def FnExactAddHoleSaid : Prop := fnExactAddHoleRow.holds Try.pinned (OpenSpec.ofChange fnExactAddHoleSpec)

/-- ITS FALSE NEIGHBOUR: 'it returns false'. Refute it at one input. -/
def fnExactAddHoleWrong : ChangeSpec := { name := "fnExactAddHole", fn := fun _ => fun
  | [d1, d2] => { results := [.lit (.bool false)], args := [d1, d2] }
  | _ => none }
def FnExactAddHoleWrongFalsely : Prop := fnExactAddHoleRow.holds Try.pinned (OpenSpec.ofChange fnExactAddHoleWrong)

/-- 'laws.FnExactDropHole': WHATEVER THE INPUT: true; the input reads as it did. -/
def fnExactDropHoleSpec : ChangeSpec := { name := "fnExactDropHole", fn := fun _ => fun
  | [d1, d2] => { results := [.lit (.bool true)], args := [d1, d2] }
  | _ => none }
def fnExactDropHoleRow : OpenClaim := { program := "ytjjohenpapfabaa", sum := "0db1e82e44e57803c9c830ad74f807df20974e8e9b1734ee087d5e0c00410690", func := "loop.example/g00949/laws.FnExactDropHole", spec := "fnExactDropHole", apart := false }
def FnExactDropHoleSaid : Prop := fnExactDropHoleRow.holds Try.pinned (OpenSpec.ofChange fnExactDropHoleSpec)

/-- ITS FALSE NEIGHBOUR: 'it returns false'. Refute it at one input. -/
def fnExactDropHoleWrong : ChangeSpec := { name := "fnExactDropHole", fn := fun _ => fun
  | [d1, d2] => { results := [.lit (.bool false)], args := [d1, d2] }
  | _ => none }
def FnExactDropHoleWrongFalsely : Prop := fnExactDropHoleRow.holds Try.pinned (OpenSpec.ofChange fnExactDropHoleWrong)

/-- 'laws.FnExactOpenTracks': WHATEVER THE INPUT: true; the input reads as it did. -/
def fnExactOpenTracksSpec : ChangeSpec := { name := "fnExactOpenTracks", fn := fun _ => fun
  | [d1, d2] => { results := [.lit (.bool true)], args := [d1, d2] }
  | _ => none }
def fnExactOpenTracksRow : OpenClaim := { program := "ytjjohenpapfabaa", sum := "0db1e82e44e57803c9c830ad74f807df20974e8e9b1734ee087d5e0c00410690", func := "loop.example/g00949/laws.FnExactOpenTracks", spec := "fnExactOpenTracks", recurses := true, apart := false }
def FnExactOpenTracksSaid : Prop := fnExactOpenTracksRow.holds Try.pinned (OpenSpec.ofChange fnExactOpenTracksSpec)

/-- ITS FALSE NEIGHBOUR: 'it returns false'. Refute it at one input. -/
def fnExactOpenTracksWrong : ChangeSpec := { name := "fnExactOpenTracks", fn := fun _ => fun
  | [d1, d2] => { results := [.lit (.bool false)], args := [d1, d2] }
  | _ => none }
def FnExactOpenTracksWrongFalsely : Prop := fnExactOpenTracksRow.holds Try.pinned (OpenSpec.ofChange fnExactOpenTracksWrong)

/-- 'laws.FnExactLengthOfSheet': WHATEVER THE INPUT: true; the input reads as it did. -/
def fnExactLengthOfSheetSpec : ChangeSpec := { name := "fnExactLengthOfSheet", fn := fun _ => fun
  | [d] => { results := [.lit (.bool true)], args := [d] }
  | _ => none }
def fnExactLengthOfSheetRow : OpenClaim := { program := "ytjjohenpapfabaa", sum := "0db1e82e44e57803c9c830ad74f807df20974e8e9b1734ee087d5e0c00410690", func := "loop.example/g00949/laws.FnExactLengthOfSheet", spec := "fnExactLengthOfSheet", apart := false }
def FnExactLengthOfSheetSaid : Prop := fnExactLengthOfSheetRow.holds Try.pinned (OpenSpec.ofChange fnExactLengthOfSheetSpec)

/-- ITS FALSE NEIGHBOUR: 'it returns false'. Refute it at one input. -/
def fnExactLengthOfSheetWrong : ChangeSpec := { name := "fnExactLengthOfSheet", fn := fun _ => fun
  | [d] => { results := [.lit (.bool false)], args := [d] }
  | _ => none }
def FnExactLengthOfSheetWrongFalsely : Prop := fnExactLengthOfSheetRow.holds Try.pinned (OpenSpec.ofChange fnExactLengthOfSheetWrong)

/-- 'laws.FnExactLeastWeb': WHATEVER THE INPUT: true; the input reads as it did. -/
def fnExactLeastWebSpec : ChangeSpec := { name := "fnExactLeastWeb", fn := fun _ => fun
  | [d] => { results := [.lit (.bool true)], args := [d] }
  | _ => none }
def fnExactLeastWebRow : OpenClaim := { program := "ytjjohenpapfabaa", sum := "0db1e82e44e57803c9c830ad74f807df20974e8e9b1734ee087d5e0c00410690", func := "loop.example/g00949/laws.FnExactLeastWeb", spec := "fnExactLeastWeb", apart := false }
def FnExactLeastWebSaid : Prop := fnExactLeastWebRow.holds Try.pinned (OpenSpec.ofChange fnExactLeastWebSpec)

/-- ITS FALSE NEIGHBOUR: 'it returns false'. Refute it at one input. -/
def fnExactLeastWebWrong : ChangeSpec := { name := "fnExactLeastWeb", fn := fun _ => fun
  | [d] => { results := [.lit (.bool false)], args := [d] }
  | _ => none }
def FnExactLeastWebWrongFalsely : Prop := fnExactLeastWebRow.holds Try.pinned (OpenSpec.ofChange fnExactLeastWebWrong)

/-- 'laws.FnExactMoveSheet': WHATEVER THE INPUT: true; the input reads as it did. -/
def fnExactMoveSheetSpec : ChangeSpec := { name := "fnExactMoveSheet", fn := fun _ => fun
  | [d1, d2] => { results := [.lit (.bool true)], args := [d1, d2] }
  | _ => none }
def fnExactMoveSheetRow : OpenClaim := { program := "ytjjohenpapfabaa", sum := "0db1e82e44e57803c9c830ad74f807df20974e8e9b1734ee087d5e0c00410690", func := "loop.example/g00949/laws.FnExactMoveSheet", spec := "fnExactMoveSheet", unfollowed := true, recurses := true, apart := false }
def FnExactMoveSheetSaid : Prop := fnExactMoveSheetRow.holds Try.pinned (OpenSpec.ofChange fnExactMoveSheetSpec)

/-- ITS FALSE NEIGHBOUR: 'it returns false'. Refute it at one input. -/
def fnExactMoveSheetWrong : ChangeSpec := { name := "fnExactMoveSheet", fn := fun _ => fun
  | [d1, d2] => { results := [.lit (.bool false)], args := [d1, d2] }
  | _ => none }
def FnExactMoveSheetWrongFalsely : Prop := fnExactMoveSheetRow.holds Try.pinned (OpenSpec.ofChange fnExactMoveSheetWrong)

/-- 'laws.FnExactReverseSheet': WHATEVER THE INPUT: true; the input reads as it did. -/
def fnExactReverseSheetSpec : ChangeSpec := { name := "fnExactReverseSheet", fn := fun _ => fun
  | [d1, d2] => { results := [.lit (.bool true)], args := [d1, d2] }
  | _ => none }
def fnExactReverseSheetRow : OpenClaim := { program := "ytjjohenpapfabaa", sum := "0db1e82e44e57803c9c830ad74f807df20974e8e9b1734ee087d5e0c00410690", func := "loop.example/g00949/laws.FnExactReverseSheet", spec := "fnExactReverseSheet", unfollowed := true, recurses := true, apart := false }
def FnExactReverseSheetSaid : Prop := fnExactReverseSheetRow.holds Try.pinned (OpenSpec.ofChange fnExactReverseSheetSpec)

/-- ITS FALSE NEIGHBOUR: 'it returns false'. Refute it at one input. -/
def fnExactReverseSheetWrong : ChangeSpec := { name := "fnExactReverseSheet", fn := fun _ => fun
  | [d1, d2] => { results := [.lit (.bool false)], args := [d1, d2] }
  | _ => none }
def FnExactReverseSheetWrongFalsely : Prop := fnExactReverseSheetRow.holds Try.pinned (OpenSpec.ofChange fnExactReverseSheetWrong)

/-- 'laws.FnExactMirrorTracks': WHATEVER THE INPUT: true; the input reads as it did. -/
def fnExactMirrorTracksSpec : ChangeSpec := { name := "fnExactMirrorTracks", fn := fun _ => fun
  | [d] => { results := [.lit (.bool true)], args := [d] }
  | _ => none }
def fnExactMirrorTracksRow : OpenClaim := { program := "ytjjohenpapfabaa", sum := "0db1e82e44e57803c9c830ad74f807df20974e8e9b1734ee087d5e0c00410690", func := "loop.example/g00949/laws.FnExactMirrorTracks", spec := "fnExactMirrorTracks", unfollowed := true, recurses := true, apart := false }
def FnExactMirrorTracksSaid : Prop := fnExactMirrorTracksRow.holds Try.pinned (OpenSpec.ofChange fnExactMirrorTracksSpec)

/-- ITS FALSE NEIGHBOUR: 'it returns false'. Refute it at one input. -/
def fnExactMirrorTracksWrong : ChangeSpec := { name := "fnExactMirrorTracks", fn := fun _ => fun
  | [d] => { results := [.lit (.bool false)], args := [d] }
  | _ => none }
def FnExactMirrorTracksWrongFalsely : Prop := fnExactMirrorTracksRow.holds Try.pinned (OpenSpec.ofChange fnExactMirrorTracksWrong)

/-- 'laws.FnExactCutSheet': WHATEVER THE INPUT: true; the input reads as it did. -/
def fnExactCutSheetSpec : ChangeSpec := { name := "fnExactCutSheet", fn := fun _ => fun
  | [d1, d2, d3] => { results := [.lit (.bool true)], args := [d1, d2, d3] }
  | _ => none }
def fnExactCutSheetRow : OpenClaim := { program := "ytjjohenpapfabaa", sum := "0db1e82e44e57803c9c830ad74f807df20974e8e9b1734ee087d5e0c00410690", func := "loop.example/g00949/laws.FnExactCutSheet", spec := "fnExactCutSheet", unfollowed := true, recurses := true, apart := false }
def FnExactCutSheetSaid : Prop := fnExactCutSheetRow.holds Try.pinned (OpenSpec.ofChange fnExactCutSheetSpec)

/-- ITS FALSE NEIGHBOUR: 'it returns false'. Refute it at one input. -/
def fnExactCutSheetWrong : ChangeSpec := { name := "fnExactCutSheet", fn := fun _ => fun
  | [d1, d2, d3] => { results := [.lit (.bool false)], args := [d1, d2, d3] }
  | _ => none }
def FnExactCutSheetWrongFalsely : Prop := fnExactCutSheetRow.holds Try.pinned (OpenSpec.ofChange fnExactCutSheetWrong)

/- THE SECOND FORM. 'bulk': how many values and letters a reading holds, each counted each time it is reached (what is shared counts as often as it is met; a slice's spare places count too). A statement '..UptoSaid' is the law's where the arguments, and the package variables that the reading takes, are together of bulk at most 1048576: NARROWER than '..Said'. Prove '..Said' where nothing that the law and all that it calls make is longer than what came in: it says more and counts as full. Else prove '..UptoSaid'. A law counts once. -/
mutual
def uptoBulk {H : Type} : DataW H → Nat
  | .lit (.string bytes) => bytes.length + 1
  | .lit _ => 1
  | .nil => 1
  | .ptr d => uptoBulk d + 1
  | .slice elems spare => uptoBulkAll elems + uptoBulkAll spare + 1
  | .agg parts => uptoBulkAll parts + 1
  | .iface _ d => uptoBulk d + 1
  | .map entries => uptoBulkEntries entries + 1
  | .held _ => 1
def uptoBulkAll {H : Type} : List (DataW H) → Nat
  | [] => 0
  | d :: r => uptoBulk d + uptoBulkAll r
def uptoBulkEntries {H : Type} : List (Lit × DataW H) → Nat
  | [] => 0
  | x :: r => uptoBulkEntry x + uptoBulkEntries r
def uptoBulkEntry {H : Type} : Lit × DataW H → Nat
  | (.string bytes, d) => bytes.length + uptoBulk d + 1
  | (_, d) => uptoBulk d + 1
 end
def uptoSmall : (H : Type) → List (DataW H) → Bool := fun _ ds => decide (uptoBulkAll ds ≤ 1048576)
def OpenSpec.upto (s : _root_.Go.ChangeSpec) : _root_.Go.OpenSpec := { _root_.Go.OpenSpec.ofChange s with cond := some uptoSmall }

/-- 'laws.FnExactScaleTempos', WHERE WHAT IT READS IS OF BULK AT MOST 1048576: true; the input reads as it did. -/
def fnExactScaleTemposUptoRow : OpenClaim := { program := "ytjjohenpapfabaa", sum := "0db1e82e44e57803c9c830ad74f807df20974e8e9b1734ee087d5e0c00410690", func := "loop.example/g00949/laws.FnExactScaleTempos", spec := "fnExactScaleTempos", apart := false, narrowed := true }
def FnExactScaleTemposUptoSaid : Prop := fnExactScaleTemposUptoRow.holds Try.pinned (OpenSpec.upto fnExactScaleTemposSpec)

/-- 'laws.FnExactIsHole', WHERE WHAT IT READS IS OF BULK AT MOST 1048576: true; the input reads as it did. -/
def fnExactIsHoleUptoRow : OpenClaim := { program := "ytjjohenpapfabaa", sum := "0db1e82e44e57803c9c830ad74f807df20974e8e9b1734ee087d5e0c00410690", func := "loop.example/g00949/laws.FnExactIsHole", spec := "fnExactIsHole", apart := false, narrowed := true }
def FnExactIsHoleUptoSaid : Prop := fnExactIsHoleUptoRow.holds Try.pinned (OpenSpec.upto fnExactIsHoleSpec)

/-- 'laws.FnExactIsSheet', WHERE WHAT IT READS IS OF BULK AT MOST 1048576: true; the input reads as it did. -/
def fnExactIsSheetUptoRow : OpenClaim := { program := "ytjjohenpapfabaa", sum := "0db1e82e44e57803c9c830ad74f807df20974e8e9b1734ee087d5e0c00410690", func := "loop.example/g00949/laws.FnExactIsSheet", spec := "fnExactIsSheet", apart := false, narrowed := true }
def FnExactIsSheetUptoSaid : Prop := fnExactIsSheetUptoRow.holds Try.pinned (OpenSpec.upto fnExactIsSheetSpec)

/-- 'laws.FnExactAddHole', WHERE WHAT IT READS IS OF BULK AT MOST 1048576: true; the input reads as it did. -/
def fnExactAddHoleUptoRow : OpenClaim := { program := "ytjjohenpapfabaa", sum := "0db1e82e44e57803c9c830ad74f807df20974e8e9b1734ee087d5e0c00410690", func := "loop.example/g00949/laws.FnExactAddHole", spec := "fnExactAddHole", unfollowed := true, recurses := true, apart := false, narrowed := true }
def FnExactAddHoleUptoSaid : Prop := fnExactAddHoleUptoRow.holds Try.pinned (OpenSpec.upto fnExactAddHoleSpec)

/-- 'laws.FnExactDropHole', WHERE WHAT IT READS IS OF BULK AT MOST 1048576: true; the input reads as it did. -/
def fnExactDropHoleUptoRow : OpenClaim := { program := "ytjjohenpapfabaa", sum := "0db1e82e44e57803c9c830ad74f807df20974e8e9b1734ee087d5e0c00410690", func := "loop.example/g00949/laws.FnExactDropHole", spec := "fnExactDropHole", apart := false, narrowed := true }
def FnExactDropHoleUptoSaid : Prop := fnExactDropHoleUptoRow.holds Try.pinned (OpenSpec.upto fnExactDropHoleSpec)

/-- 'laws.FnExactOpenTracks', WHERE WHAT IT READS IS OF BULK AT MOST 1048576: true; the input reads as it did. -/
def fnExactOpenTracksUptoRow : OpenClaim := { program := "ytjjohenpapfabaa", sum := "0db1e82e44e57803c9c830ad74f807df20974e8e9b1734ee087d5e0c00410690", func := "loop.example/g00949/laws.FnExactOpenTracks", spec := "fnExactOpenTracks", recurses := true, apart := false, narrowed := true }
def FnExactOpenTracksUptoSaid : Prop := fnExactOpenTracksUptoRow.holds Try.pinned (OpenSpec.upto fnExactOpenTracksSpec)

/-- 'laws.FnExactLengthOfSheet', WHERE WHAT IT READS IS OF BULK AT MOST 1048576: true; the input reads as it did. -/
def fnExactLengthOfSheetUptoRow : OpenClaim := { program := "ytjjohenpapfabaa", sum := "0db1e82e44e57803c9c830ad74f807df20974e8e9b1734ee087d5e0c00410690", func := "loop.example/g00949/laws.FnExactLengthOfSheet", spec := "fnExactLengthOfSheet", apart := false, narrowed := true }
def FnExactLengthOfSheetUptoSaid : Prop := fnExactLengthOfSheetUptoRow.holds Try.pinned (OpenSpec.upto fnExactLengthOfSheetSpec)

/-- 'laws.FnExactLeastWeb', WHERE WHAT IT READS IS OF BULK AT MOST 1048576: true; the input reads as it did. -/
def fnExactLeastWebUptoRow : OpenClaim := { program := "ytjjohenpapfabaa", sum := "0db1e82e44e57803c9c830ad74f807df20974e8e9b1734ee087d5e0c00410690", func := "loop.example/g00949/laws.FnExactLeastWeb", spec := "fnExactLeastWeb", apart := false, narrowed := true }
def FnExactLeastWebUptoSaid : Prop := fnExactLeastWebUptoRow.holds Try.pinned (OpenSpec.upto fnExactLeastWebSpec)

/-- 'laws.FnExactMoveSheet', WHERE WHAT IT READS IS OF BULK AT MOST 1048576: true; the input reads as it did. -/
def fnExactMoveSheetUptoRow : OpenClaim := { program := "ytjjohenpapfabaa", sum := "0db1e82e44e57803c9c830ad74f807df20974e8e9b1734ee087d5e0c00410690", func := "loop.example/g00949/laws.FnExactMoveSheet", spec := "fnExactMoveSheet", unfollowed := true, recurses := true, apart := false, narrowed := true }
def FnExactMoveSheetUptoSaid : Prop := fnExactMoveSheetUptoRow.holds Try.pinned (OpenSpec.upto fnExactMoveSheetSpec)

/-- 'laws.FnExactReverseSheet', WHERE WHAT IT READS IS OF BULK AT MOST 1048576: true; the input reads as it did. -/
def fnExactReverseSheetUptoRow : OpenClaim := { program := "ytjjohenpapfabaa", sum := "0db1e82e44e57803c9c830ad74f807df20974e8e9b1734ee087d5e0c00410690", func := "loop.example/g00949/laws.FnExactReverseSheet", spec := "fnExactReverseSheet", unfollowed := true, recurses := true, apart := false, narrowed := true }
def FnExactReverseSheetUptoSaid : Prop := fnExactReverseSheetUptoRow.holds Try.pinned (OpenSpec.upto fnExactReverseSheetSpec)

/-- 'laws.FnExactMirrorTracks', WHERE WHAT IT READS IS OF BULK AT MOST 1048576: true; the input reads as it did. -/
def fnExactMirrorTracksUptoRow : OpenClaim := { program := "ytjjohenpapfabaa", sum := "0db1e82e44e57803c9c830ad74f807df20974e8e9b1734ee087d5e0c00410690", func := "loop.example/g00949/laws.FnExactMirrorTracks", spec := "fnExactMirrorTracks", unfollowed := true, recurses := true, apart := false, narrowed := true }
def FnExactMirrorTracksUptoSaid : Prop := fnExactMirrorTracksUptoRow.holds Try.pinned (OpenSpec.upto fnExactMirrorTracksSpec)

/-- 'laws.FnExactCutSheet', WHERE WHAT IT READS IS OF BULK AT MOST 1048576: true; the input reads as it did. -/
def fnExactCutSheetUptoRow : OpenClaim := { program := "ytjjohenpapfabaa", sum := "0db1e82e44e57803c9c830ad74f807df20974e8e9b1734ee087d5e0c00410690", func := "loop.example/g00949/laws.FnExactCutSheet", spec := "fnExactCutSheet", unfollowed := true, recurses := true, apart := false, narrowed := true }
def FnExactCutSheetUptoSaid : Prop := fnExactCutSheetUptoRow.holds Try.pinned (OpenSpec.upto fnExactCutSheetSpec)

end Rows
end Go.Proofs.Ytjjohenpapfabaa
