/-
  NARROWER THAN 'FOR EVERY INPUT', by the rows' own cells (each row's printed sentence says how): FnExactIsInstrument: laid · FnExactTrackOf: laid · FnExactPitchOf: laid · FnExactMissingPitches: laid · FnExactFastRepeats: laid · FnExactCanPlay: laid · FnExactPlayablePart: laid · FnExactAddPitch: laid · FnExactCommonPitches: laid · FnExactInstrumentText: laid · FnExactParseInstrument: laid · FnExactScoreText: laid · FnExactParseScore: laid.
  DERIVED. THE GIVEN ROWS OF THIS SEAT. 13 by the template 'for every input the law returns true; each argument reads behind the call as it read before'; 0 by the template 'total and deterministic' (their statements: YtfgfiahampjfiaaDoorTotals.lean).
  GIVEN WITH THE SEED: the statements are not yours to turn. If you find one false, say at which input.
  Laid BY PROGRAM, IN A SANDBOX (cutbox-rows.mjs): the forced cells as the released guide's own fill.sh prints them over the translation 3762378381d54336… (all of the seat's roots in one cut). By AI agents, Wed Nov 11 2026. No macro, syntax, notation, axiom, sorry.
-/
import Derived.Test.YtfgfiahampjfiaaDoorChecked
import GoSem.PinnedTables
import GoSem.Claim
import GoSem.ClaimJoined
import GoSem.ClaimMapViews
import Derived.JoinedTies
import Derived.KernelRfl
namespace Go.Proofs.YtfgfiahampjfiaaDoor
/- THE CELL 'sum', in the pinned program and in every row, IS THE sha256 OF THE DUMP (.gsa) THAT YtfgfiahampjfiaaDoorProg.lean LOADS. Nothing in Lean hashes anything: it is a label: what it is worth is what the hold of that sum in a sandbox is worth. -/
noncomputable def Tryd.pinned : Pinned := { name := "ytfgfiahampjfiaadoor", sum := "3762378381d54336f55817031032b6d23b142b0d18d5a65f20f09afca81d796f", checked := Tryd.checked }
namespace Rows
def none {H : Type} : Left H := { results := [], args := [] }

/- WHAT THE LISTED PACKAGE-LEVEL VARIABLES READ AS WHEN THE CALL BEGINS. Each datum BY PROGRAM (the guide's laid-datum.mjs) off the statement by which the dump's own 'gosem.cut.vars' lays the variable. In a bare row this is a premise. The card (YtfgfiahampjfiaaDoorCards.lean) ties it to the program's text. -/
def laid_loop_example_g00949_impl_instrumentLimits {H : Type} : DataW H := .agg [.agg [.lit (.int .i64 1), .lit (.int .i64 20)], .agg [.lit (.int .i64 1), .lit (.int .i64 20)]]
def laid_math_bits_deBruijn32tab {H : Type} : DataW H := .agg [.lit (.int .u8 0), .lit (.int .u8 1), .lit (.int .u8 28), .lit (.int .u8 2), .lit (.int .u8 29), .lit (.int .u8 14), .lit (.int .u8 24), .lit (.int .u8 3), .lit (.int .u8 30), .lit (.int .u8 22), .lit (.int .u8 20), .lit (.int .u8 15), .lit (.int .u8 25), .lit (.int .u8 17), .lit (.int .u8 4), .lit (.int .u8 8), .lit (.int .u8 31), .lit (.int .u8 27), .lit (.int .u8 13), .lit (.int .u8 23), .lit (.int .u8 21), .lit (.int .u8 19), .lit (.int .u8 16), .lit (.int .u8 7), .lit (.int .u8 26), .lit (.int .u8 12), .lit (.int .u8 18), .lit (.int .u8 6), .lit (.int .u8 11), .lit (.int .u8 5), .lit (.int .u8 10), .lit (.int .u8 9)]
def laid_math_bits_deBruijn64tab {H : Type} : DataW H := .agg [.lit (.int .u8 0), .lit (.int .u8 1), .lit (.int .u8 56), .lit (.int .u8 2), .lit (.int .u8 57), .lit (.int .u8 49), .lit (.int .u8 28), .lit (.int .u8 3), .lit (.int .u8 61), .lit (.int .u8 58), .lit (.int .u8 42), .lit (.int .u8 50), .lit (.int .u8 38), .lit (.int .u8 29), .lit (.int .u8 17), .lit (.int .u8 4), .lit (.int .u8 62), .lit (.int .u8 47), .lit (.int .u8 59), .lit (.int .u8 36), .lit (.int .u8 45), .lit (.int .u8 43), .lit (.int .u8 51), .lit (.int .u8 22), .lit (.int .u8 53), .lit (.int .u8 39), .lit (.int .u8 33), .lit (.int .u8 30), .lit (.int .u8 24), .lit (.int .u8 18), .lit (.int .u8 12), .lit (.int .u8 5), .lit (.int .u8 63), .lit (.int .u8 55), .lit (.int .u8 48), .lit (.int .u8 27), .lit (.int .u8 60), .lit (.int .u8 41), .lit (.int .u8 37), .lit (.int .u8 16), .lit (.int .u8 46), .lit (.int .u8 35), .lit (.int .u8 44), .lit (.int .u8 21), .lit (.int .u8 52), .lit (.int .u8 32), .lit (.int .u8 23), .lit (.int .u8 11), .lit (.int .u8 54), .lit (.int .u8 26), .lit (.int .u8 40), .lit (.int .u8 15), .lit (.int .u8 34), .lit (.int .u8 20), .lit (.int .u8 31), .lit (.int .u8 10), .lit (.int .u8 25), .lit (.int .u8 14), .lit (.int .u8 19), .lit (.int .u8 9), .lit (.int .u8 13), .lit (.int .u8 8), .lit (.int .u8 7), .lit (.int .u8 6)]
def laid_internal_strconv_uint64pow10 {H : Type} : DataW H := .agg [.lit (.int .u64 1), .lit (.int .u64 10), .lit (.int .u64 100), .lit (.int .u64 1000), .lit (.int .u64 10000), .lit (.int .u64 100000), .lit (.int .u64 1000000), .lit (.int .u64 10000000), .lit (.int .u64 100000000), .lit (.int .u64 1000000000), .lit (.int .u64 10000000000), .lit (.int .u64 100000000000), .lit (.int .u64 1000000000000), .lit (.int .u64 10000000000000), .lit (.int .u64 100000000000000), .lit (.int .u64 1000000000000000), .lit (.int .u64 10000000000000000), .lit (.int .u64 100000000000000000), .lit (.int .u64 1000000000000000000), .lit (.int .u64 10000000000000000000)]
def laid_loop_example_g00949_impl_classNames {H : Type} : DataW H := .agg [.lit (.string [99]), .lit (.string [99, 35]), .lit (.string [100]), .lit (.string [100, 35]), .lit (.string [101]), .lit (.string [102]), .lit (.string [102, 35]), .lit (.string [103]), .lit (.string [103, 35]), .lit (.string [97]), .lit (.string [97, 35]), .lit (.string [98])]
def laid_strconv_ErrRange {H : Type} : DataW H := .iface "*errors.errorString" (.ptr (.agg [.lit (.string [118, 97, 108, 117, 101, 32, 111, 117, 116, 32, 111, 102, 32, 114, 97, 110, 103, 101])]))
def laid_strconv_ErrSyntax {H : Type} : DataW H := .iface "*errors.errorString" (.ptr (.agg [.lit (.string [105, 110, 118, 97, 108, 105, 100, 32, 115, 121, 110, 116, 97, 120])]))
def laid_unicode_utf8_acceptRanges {H : Type} : DataW H := .agg [.agg [.lit (.int .u8 128), .lit (.int .u8 191)], .agg [.lit (.int .u8 160), .lit (.int .u8 191)], .agg [.lit (.int .u8 128), .lit (.int .u8 159)], .agg [.lit (.int .u8 144), .lit (.int .u8 191)], .agg [.lit (.int .u8 128), .lit (.int .u8 143)], .agg [.lit (.int .u8 0), .lit (.int .u8 0)], .agg [.lit (.int .u8 0), .lit (.int .u8 0)], .agg [.lit (.int .u8 0), .lit (.int .u8 0)], .agg [.lit (.int .u8 0), .lit (.int .u8 0)], .agg [.lit (.int .u8 0), .lit (.int .u8 0)], .agg [.lit (.int .u8 0), .lit (.int .u8 0)], .agg [.lit (.int .u8 0), .lit (.int .u8 0)], .agg [.lit (.int .u8 0), .lit (.int .u8 0)], .agg [.lit (.int .u8 0), .lit (.int .u8 0)], .agg [.lit (.int .u8 0), .lit (.int .u8 0)], .agg [.lit (.int .u8 0), .lit (.int .u8 0)]]
/-- One of Go's own tables, pinned by name: the form's constant. -/
def laid_unicode_utf8_first : DataW Unit := Go.Pinned.utf8First

/-- 'laws.FnExactIsInstrument': WHATEVER THE INPUT: true; the input reads as it did. -/
def fnExactIsInstrumentSpec : ChangeSpec := { name := "fnExactIsInstrument", vars := ["loop.example/g00949/impl.instrumentLimits"], fn := fun _ => fun
  | [d, g1] => { results := [.lit (.bool true)], args := [d], vars := [g1] }
  | _ => none }
def fnExactIsInstrumentRow : OpenClaim := { program := "ytfgfiahampjfiaadoor", sum := "3762378381d54336f55817031032b6d23b142b0d18d5a65f20f09afca81d796f", func := "loop.example/g00949/laws.FnExactIsInstrument", spec := "fnExactIsInstrument", named := ["loop.example/g00949/impl.instrumentLimits"], apart := false, laid := [("loop.example/g00949/impl.instrumentLimits", laid_loop_example_g00949_impl_instrumentLimits)] }
def FnExactIsInstrumentSaid : Prop := fnExactIsInstrumentRow.holds Tryd.pinned (OpenSpec.ofChange fnExactIsInstrumentSpec)

/-- ITS FALSE NEIGHBOUR: 'it returns false'. Refute it at one input. -/
def fnExactIsInstrumentWrong : ChangeSpec := { name := "fnExactIsInstrument", vars := ["loop.example/g00949/impl.instrumentLimits"], fn := fun _ => fun
  | [d, g1] => { results := [.lit (.bool false)], args := [d], vars := [g1] }
  | _ => none }
def FnExactIsInstrumentWrongFalsely : Prop := fnExactIsInstrumentRow.holds Tryd.pinned (OpenSpec.ofChange fnExactIsInstrumentWrong)

/-- 'laws.FnExactTrackOf': WHATEVER THE INPUT: true; the input reads as it did. -/
def fnExactTrackOfSpec : ChangeSpec := { name := "fnExactTrackOf", vars := ["loop.example/g00949/impl.instrumentLimits"], fn := fun _ => fun
  | [d1, d2, g1] => { results := [.lit (.bool true)], args := [d1, d2], vars := [g1] }
  | _ => none }
def fnExactTrackOfRow : OpenClaim := { program := "ytfgfiahampjfiaadoor", sum := "3762378381d54336f55817031032b6d23b142b0d18d5a65f20f09afca81d796f", func := "loop.example/g00949/laws.FnExactTrackOf", spec := "fnExactTrackOf", named := ["loop.example/g00949/impl.instrumentLimits"], apart := false, laid := [("loop.example/g00949/impl.instrumentLimits", laid_loop_example_g00949_impl_instrumentLimits)] }
def FnExactTrackOfSaid : Prop := fnExactTrackOfRow.holds Tryd.pinned (OpenSpec.ofChange fnExactTrackOfSpec)

/-- ITS FALSE NEIGHBOUR: 'it returns false'. Refute it at one input. -/
def fnExactTrackOfWrong : ChangeSpec := { name := "fnExactTrackOf", vars := ["loop.example/g00949/impl.instrumentLimits"], fn := fun _ => fun
  | [d1, d2, g1] => { results := [.lit (.bool false)], args := [d1, d2], vars := [g1] }
  | _ => none }
def FnExactTrackOfWrongFalsely : Prop := fnExactTrackOfRow.holds Tryd.pinned (OpenSpec.ofChange fnExactTrackOfWrong)

/-- 'laws.FnExactPitchOf': WHATEVER THE INPUT: true; the input reads as it did. -/
def fnExactPitchOfSpec : ChangeSpec := { name := "fnExactPitchOf", vars := ["loop.example/g00949/impl.instrumentLimits"], fn := fun _ => fun
  | [d1, d2, g1] => { results := [.lit (.bool true)], args := [d1, d2], vars := [g1] }
  | _ => none }
def fnExactPitchOfRow : OpenClaim := { program := "ytfgfiahampjfiaadoor", sum := "3762378381d54336f55817031032b6d23b142b0d18d5a65f20f09afca81d796f", func := "loop.example/g00949/laws.FnExactPitchOf", spec := "fnExactPitchOf", named := ["loop.example/g00949/impl.instrumentLimits"], apart := false, laid := [("loop.example/g00949/impl.instrumentLimits", laid_loop_example_g00949_impl_instrumentLimits)] }
def FnExactPitchOfSaid : Prop := fnExactPitchOfRow.holds Tryd.pinned (OpenSpec.ofChange fnExactPitchOfSpec)

/-- ITS FALSE NEIGHBOUR: 'it returns false'. Refute it at one input. -/
def fnExactPitchOfWrong : ChangeSpec := { name := "fnExactPitchOf", vars := ["loop.example/g00949/impl.instrumentLimits"], fn := fun _ => fun
  | [d1, d2, g1] => { results := [.lit (.bool false)], args := [d1, d2], vars := [g1] }
  | _ => none }
def FnExactPitchOfWrongFalsely : Prop := fnExactPitchOfRow.holds Tryd.pinned (OpenSpec.ofChange fnExactPitchOfWrong)

/-- 'laws.FnExactMissingPitches': WHATEVER THE INPUT: true; the input reads as it did. -/
def fnExactMissingPitchesSpec : ChangeSpec := { name := "fnExactMissingPitches", vars := ["loop.example/g00949/impl.instrumentLimits"], fn := fun _ => fun
  | [d1, d2, g1] => { results := [.lit (.bool true)], args := [d1, d2], vars := [g1] }
  | _ => none }
def fnExactMissingPitchesRow : OpenClaim := { program := "ytfgfiahampjfiaadoor", sum := "3762378381d54336f55817031032b6d23b142b0d18d5a65f20f09afca81d796f", func := "loop.example/g00949/laws.FnExactMissingPitches", spec := "fnExactMissingPitches", recurses := true, named := ["loop.example/g00949/impl.instrumentLimits"], apart := false, laid := [("loop.example/g00949/impl.instrumentLimits", laid_loop_example_g00949_impl_instrumentLimits)] }
def FnExactMissingPitchesSaid : Prop := fnExactMissingPitchesRow.holds Tryd.pinned (OpenSpec.ofChange fnExactMissingPitchesSpec)

/-- ITS FALSE NEIGHBOUR: 'it returns false'. Refute it at one input. -/
def fnExactMissingPitchesWrong : ChangeSpec := { name := "fnExactMissingPitches", vars := ["loop.example/g00949/impl.instrumentLimits"], fn := fun _ => fun
  | [d1, d2, g1] => { results := [.lit (.bool false)], args := [d1, d2], vars := [g1] }
  | _ => none }
def FnExactMissingPitchesWrongFalsely : Prop := fnExactMissingPitchesRow.holds Tryd.pinned (OpenSpec.ofChange fnExactMissingPitchesWrong)

/-- 'laws.FnExactFastRepeats': WHATEVER THE INPUT: true; the input reads as it did. -/
def fnExactFastRepeatsSpec : ChangeSpec := { name := "fnExactFastRepeats", vars := ["loop.example/g00949/impl.instrumentLimits"], fn := fun _ => fun
  | [d1, d2, g1] => { results := [.lit (.bool true)], args := [d1, d2], vars := [g1] }
  | _ => none }
def fnExactFastRepeatsRow : OpenClaim := { program := "ytfgfiahampjfiaadoor", sum := "3762378381d54336f55817031032b6d23b142b0d18d5a65f20f09afca81d796f", func := "loop.example/g00949/laws.FnExactFastRepeats", spec := "fnExactFastRepeats", named := ["loop.example/g00949/impl.instrumentLimits"], apart := false, laid := [("loop.example/g00949/impl.instrumentLimits", laid_loop_example_g00949_impl_instrumentLimits)] }
def FnExactFastRepeatsSaid : Prop := fnExactFastRepeatsRow.holds Tryd.pinned (OpenSpec.ofChange fnExactFastRepeatsSpec)

/-- ITS FALSE NEIGHBOUR: 'it returns false'. Refute it at one input. -/
def fnExactFastRepeatsWrong : ChangeSpec := { name := "fnExactFastRepeats", vars := ["loop.example/g00949/impl.instrumentLimits"], fn := fun _ => fun
  | [d1, d2, g1] => { results := [.lit (.bool false)], args := [d1, d2], vars := [g1] }
  | _ => none }
def FnExactFastRepeatsWrongFalsely : Prop := fnExactFastRepeatsRow.holds Tryd.pinned (OpenSpec.ofChange fnExactFastRepeatsWrong)

/-- 'laws.FnExactCanPlay': WHATEVER THE INPUT: true; the input reads as it did. -/
def fnExactCanPlaySpec : ChangeSpec := { name := "fnExactCanPlay", vars := ["loop.example/g00949/impl.instrumentLimits"], fn := fun _ => fun
  | [d1, d2, g1] => { results := [.lit (.bool true)], args := [d1, d2], vars := [g1] }
  | _ => none }
def fnExactCanPlayRow : OpenClaim := { program := "ytfgfiahampjfiaadoor", sum := "3762378381d54336f55817031032b6d23b142b0d18d5a65f20f09afca81d796f", func := "loop.example/g00949/laws.FnExactCanPlay", spec := "fnExactCanPlay", recurses := true, named := ["loop.example/g00949/impl.instrumentLimits"], apart := false, laid := [("loop.example/g00949/impl.instrumentLimits", laid_loop_example_g00949_impl_instrumentLimits)] }
def FnExactCanPlaySaid : Prop := fnExactCanPlayRow.holds Tryd.pinned (OpenSpec.ofChange fnExactCanPlaySpec)

/-- ITS FALSE NEIGHBOUR: 'it returns false'. Refute it at one input. -/
def fnExactCanPlayWrong : ChangeSpec := { name := "fnExactCanPlay", vars := ["loop.example/g00949/impl.instrumentLimits"], fn := fun _ => fun
  | [d1, d2, g1] => { results := [.lit (.bool false)], args := [d1, d2], vars := [g1] }
  | _ => none }
def FnExactCanPlayWrongFalsely : Prop := fnExactCanPlayRow.holds Tryd.pinned (OpenSpec.ofChange fnExactCanPlayWrong)

/-- 'laws.FnExactPlayablePart': WHATEVER THE INPUT: true; the input reads as it did. -/
def fnExactPlayablePartSpec : ChangeSpec := { name := "fnExactPlayablePart", vars := ["loop.example/g00949/impl.instrumentLimits"], fn := fun _ => fun
  | [d1, d2, g1] => { results := [.lit (.bool true)], args := [d1, d2], vars := [g1] }
  | _ => none }
def fnExactPlayablePartRow : OpenClaim := { program := "ytfgfiahampjfiaadoor", sum := "3762378381d54336f55817031032b6d23b142b0d18d5a65f20f09afca81d796f", func := "loop.example/g00949/laws.FnExactPlayablePart", spec := "fnExactPlayablePart", named := ["loop.example/g00949/impl.instrumentLimits"], apart := false, laid := [("loop.example/g00949/impl.instrumentLimits", laid_loop_example_g00949_impl_instrumentLimits)] }
def FnExactPlayablePartSaid : Prop := fnExactPlayablePartRow.holds Tryd.pinned (OpenSpec.ofChange fnExactPlayablePartSpec)

/-- ITS FALSE NEIGHBOUR: 'it returns false'. Refute it at one input. -/
def fnExactPlayablePartWrong : ChangeSpec := { name := "fnExactPlayablePart", vars := ["loop.example/g00949/impl.instrumentLimits"], fn := fun _ => fun
  | [d1, d2, g1] => { results := [.lit (.bool false)], args := [d1, d2], vars := [g1] }
  | _ => none }
def FnExactPlayablePartWrongFalsely : Prop := fnExactPlayablePartRow.holds Tryd.pinned (OpenSpec.ofChange fnExactPlayablePartWrong)

/-- 'laws.FnExactAddPitch': WHATEVER THE INPUT: true; the input reads as it did. -/
def fnExactAddPitchSpec : ChangeSpec := { name := "fnExactAddPitch", vars := ["loop.example/g00949/impl.instrumentLimits"], fn := fun _ => fun
  | [d1, d2, g1] => { results := [.lit (.bool true)], args := [d1, d2], vars := [g1] }
  | _ => none }
def fnExactAddPitchRow : OpenClaim := { program := "ytfgfiahampjfiaadoor", sum := "3762378381d54336f55817031032b6d23b142b0d18d5a65f20f09afca81d796f", func := "loop.example/g00949/laws.FnExactAddPitch", spec := "fnExactAddPitch", recurses := true, named := ["loop.example/g00949/impl.instrumentLimits"], apart := false, laid := [("loop.example/g00949/impl.instrumentLimits", laid_loop_example_g00949_impl_instrumentLimits)] }
def FnExactAddPitchSaid : Prop := fnExactAddPitchRow.holds Tryd.pinned (OpenSpec.ofChange fnExactAddPitchSpec)

/-- ITS FALSE NEIGHBOUR: 'it returns false'. Refute it at one input. -/
def fnExactAddPitchWrong : ChangeSpec := { name := "fnExactAddPitch", vars := ["loop.example/g00949/impl.instrumentLimits"], fn := fun _ => fun
  | [d1, d2, g1] => { results := [.lit (.bool false)], args := [d1, d2], vars := [g1] }
  | _ => none }
def FnExactAddPitchWrongFalsely : Prop := fnExactAddPitchRow.holds Tryd.pinned (OpenSpec.ofChange fnExactAddPitchWrong)

/-- 'laws.FnExactCommonPitches': WHATEVER THE INPUT: true; the input reads as it did. -/
def fnExactCommonPitchesSpec : ChangeSpec := { name := "fnExactCommonPitches", vars := ["loop.example/g00949/impl.instrumentLimits"], fn := fun _ => fun
  | [d1, d2, g1] => { results := [.lit (.bool true)], args := [d1, d2], vars := [g1] }
  | _ => none }
def fnExactCommonPitchesRow : OpenClaim := { program := "ytfgfiahampjfiaadoor", sum := "3762378381d54336f55817031032b6d23b142b0d18d5a65f20f09afca81d796f", func := "loop.example/g00949/laws.FnExactCommonPitches", spec := "fnExactCommonPitches", named := ["loop.example/g00949/impl.instrumentLimits"], apart := false, laid := [("loop.example/g00949/impl.instrumentLimits", laid_loop_example_g00949_impl_instrumentLimits)] }
def FnExactCommonPitchesSaid : Prop := fnExactCommonPitchesRow.holds Tryd.pinned (OpenSpec.ofChange fnExactCommonPitchesSpec)

/-- ITS FALSE NEIGHBOUR: 'it returns false'. Refute it at one input. -/
def fnExactCommonPitchesWrong : ChangeSpec := { name := "fnExactCommonPitches", vars := ["loop.example/g00949/impl.instrumentLimits"], fn := fun _ => fun
  | [d1, d2, g1] => { results := [.lit (.bool false)], args := [d1, d2], vars := [g1] }
  | _ => none }
def FnExactCommonPitchesWrongFalsely : Prop := fnExactCommonPitchesRow.holds Tryd.pinned (OpenSpec.ofChange fnExactCommonPitchesWrong)

/-- 'laws.FnExactInstrumentText': WHATEVER THE INPUT: true; the input reads as it did. -/
def fnExactInstrumentTextSpec : ChangeSpec := { name := "fnExactInstrumentText", vars := ["loop.example/g00949/impl.instrumentLimits", "loop.example/g00949/impl.classNames"], fn := fun _ => fun
  | [d, g1, g2] => { results := [.lit (.bool true)], args := [d], vars := [g1, g2] }
  | _ => none }
def fnExactInstrumentTextRow : OpenClaim := { program := "ytfgfiahampjfiaadoor", sum := "3762378381d54336f55817031032b6d23b142b0d18d5a65f20f09afca81d796f", func := "loop.example/g00949/laws.FnExactInstrumentText", spec := "fnExactInstrumentText", inPlace := ["internal/abi.NoEscape"], recurses := true, named := ["loop.example/g00949/impl.instrumentLimits", "loop.example/g00949/impl.classNames", "internal/strconv.uint64pow10", "math/bits.deBruijn32tab", "math/bits.deBruijn64tab"], apart := false, laid := [("math/bits.deBruijn32tab", laid_math_bits_deBruijn32tab), ("math/bits.deBruijn64tab", laid_math_bits_deBruijn64tab), ("internal/strconv.uint64pow10", laid_internal_strconv_uint64pow10), ("loop.example/g00949/impl.classNames", laid_loop_example_g00949_impl_classNames), ("loop.example/g00949/impl.instrumentLimits", laid_loop_example_g00949_impl_instrumentLimits)] }
def FnExactInstrumentTextSaid : Prop := fnExactInstrumentTextRow.holds Tryd.pinned (OpenSpec.ofChange fnExactInstrumentTextSpec)

/-- ITS FALSE NEIGHBOUR: 'it returns false'. Refute it at one input. -/
def fnExactInstrumentTextWrong : ChangeSpec := { name := "fnExactInstrumentText", vars := ["loop.example/g00949/impl.instrumentLimits", "loop.example/g00949/impl.classNames"], fn := fun _ => fun
  | [d, g1, g2] => { results := [.lit (.bool false)], args := [d], vars := [g1, g2] }
  | _ => none }
def FnExactInstrumentTextWrongFalsely : Prop := fnExactInstrumentTextRow.holds Tryd.pinned (OpenSpec.ofChange fnExactInstrumentTextWrong)

/-- 'laws.FnExactParseInstrument': WHATEVER THE INPUT: true; the input reads as it did. -/
def fnExactParseInstrumentSpec : ChangeSpec := { name := "fnExactParseInstrument", vars := ["loop.example/g00949/impl.classNames", "loop.example/g00949/impl.instrumentLimits"], fn := fun _ => fun
  | [d, g1, g2] => { results := [.lit (.bool true)], args := [d], vars := [g1, g2] }
  | _ => none }
def fnExactParseInstrumentRow : OpenClaim := { program := "ytfgfiahampjfiaadoor", sum := "3762378381d54336f55817031032b6d23b142b0d18d5a65f20f09afca81d796f", func := "loop.example/g00949/laws.FnExactParseInstrument", spec := "fnExactParseInstrument", recurses := true, named := ["loop.example/g00949/impl.classNames", "strconv.ErrSyntax", "strconv.ErrRange", "internal/strconv.uint64pow10", "math/bits.deBruijn32tab", "math/bits.deBruijn64tab", "loop.example/g00949/impl.instrumentLimits"], apart := false, laid := [("math/bits.deBruijn32tab", laid_math_bits_deBruijn32tab), ("math/bits.deBruijn64tab", laid_math_bits_deBruijn64tab), ("internal/strconv.uint64pow10", laid_internal_strconv_uint64pow10), ("strconv.ErrRange", laid_strconv_ErrRange), ("strconv.ErrSyntax", laid_strconv_ErrSyntax), ("loop.example/g00949/impl.classNames", laid_loop_example_g00949_impl_classNames), ("loop.example/g00949/impl.instrumentLimits", laid_loop_example_g00949_impl_instrumentLimits)] }
def FnExactParseInstrumentSaid : Prop := fnExactParseInstrumentRow.holds Tryd.pinned (OpenSpec.ofChange fnExactParseInstrumentSpec)

/-- ITS FALSE NEIGHBOUR: 'it returns false'. Refute it at one input. -/
def fnExactParseInstrumentWrong : ChangeSpec := { name := "fnExactParseInstrument", vars := ["loop.example/g00949/impl.classNames", "loop.example/g00949/impl.instrumentLimits"], fn := fun _ => fun
  | [d, g1, g2] => { results := [.lit (.bool false)], args := [d], vars := [g1, g2] }
  | _ => none }
def FnExactParseInstrumentWrongFalsely : Prop := fnExactParseInstrumentRow.holds Tryd.pinned (OpenSpec.ofChange fnExactParseInstrumentWrong)

/-- 'laws.FnExactScoreText': WHATEVER THE INPUT: true; the input reads as it did. -/
def fnExactScoreTextSpec : ChangeSpec := { name := "fnExactScoreText", vars := ["loop.example/g00949/impl.classNames"], fn := fun _ => fun
  | [d, g1] => { results := [.lit (.bool true)], args := [d], vars := [g1] }
  | _ => none }
def fnExactScoreTextRow : OpenClaim := { program := "ytfgfiahampjfiaadoor", sum := "3762378381d54336f55817031032b6d23b142b0d18d5a65f20f09afca81d796f", func := "loop.example/g00949/laws.FnExactScoreText", spec := "fnExactScoreText", inPlace := ["internal/abi.NoEscape"], recurses := true, named := ["loop.example/g00949/impl.classNames", "internal/strconv.uint64pow10", "math/bits.deBruijn32tab", "math/bits.deBruijn64tab"], apart := false, laid := [("math/bits.deBruijn32tab", laid_math_bits_deBruijn32tab), ("math/bits.deBruijn64tab", laid_math_bits_deBruijn64tab), ("internal/strconv.uint64pow10", laid_internal_strconv_uint64pow10), ("loop.example/g00949/impl.classNames", laid_loop_example_g00949_impl_classNames)] }
def FnExactScoreTextSaid : Prop := fnExactScoreTextRow.holds Tryd.pinned (OpenSpec.ofChange fnExactScoreTextSpec)

/-- ITS FALSE NEIGHBOUR: 'it returns false'. Refute it at one input. -/
def fnExactScoreTextWrong : ChangeSpec := { name := "fnExactScoreText", vars := ["loop.example/g00949/impl.classNames"], fn := fun _ => fun
  | [d, g1] => { results := [.lit (.bool false)], args := [d], vars := [g1] }
  | _ => none }
def FnExactScoreTextWrongFalsely : Prop := fnExactScoreTextRow.holds Tryd.pinned (OpenSpec.ofChange fnExactScoreTextWrong)

/-- 'laws.FnExactParseScore': WHATEVER THE INPUT: true; the input reads as it did. -/
def fnExactParseScoreSpec : ChangeSpec := { name := "fnExactParseScore", vars := ["loop.example/g00949/impl.classNames"], fn := fun _ => fun
  | [d, g1] => { results := [.lit (.bool true)], args := [d], vars := [g1] }
  | _ => none }
def fnExactParseScoreRow : OpenClaim := { program := "ytfgfiahampjfiaadoor", sum := "3762378381d54336f55817031032b6d23b142b0d18d5a65f20f09afca81d796f", func := "loop.example/g00949/laws.FnExactParseScore", spec := "fnExactParseScore", inPlace := ["internal/bytealg.IndexByteString", "internal/bytealg.IndexString", "internal/bytealg.CountString"], recurses := true, named := ["internal/bytealg.MaxLen", "unicode/utf8.first", "unicode/utf8.acceptRanges", "loop.example/g00949/impl.classNames", "strconv.ErrSyntax", "strconv.ErrRange", "internal/strconv.uint64pow10", "math/bits.deBruijn32tab", "math/bits.deBruijn64tab"], apart := false, laid := [("math/bits.deBruijn32tab", laid_math_bits_deBruijn32tab), ("math/bits.deBruijn64tab", laid_math_bits_deBruijn64tab), ("internal/strconv.uint64pow10", laid_internal_strconv_uint64pow10), ("unicode/utf8.acceptRanges", laid_unicode_utf8_acceptRanges), ("strconv.ErrRange", laid_strconv_ErrRange), ("strconv.ErrSyntax", laid_strconv_ErrSyntax), ("loop.example/g00949/impl.classNames", laid_loop_example_g00949_impl_classNames), ("unicode/utf8.first", laid_unicode_utf8_first)] }
def FnExactParseScoreSaid : Prop := fnExactParseScoreRow.holds Tryd.pinned (OpenSpec.ofChange fnExactParseScoreSpec)

/-- ITS FALSE NEIGHBOUR: 'it returns false'. Refute it at one input. -/
def fnExactParseScoreWrong : ChangeSpec := { name := "fnExactParseScore", vars := ["loop.example/g00949/impl.classNames"], fn := fun _ => fun
  | [d, g1] => { results := [.lit (.bool false)], args := [d], vars := [g1] }
  | _ => none }
def FnExactParseScoreWrongFalsely : Prop := fnExactParseScoreRow.holds Tryd.pinned (OpenSpec.ofChange fnExactParseScoreWrong)

/- THE SECOND FORM. 'bulk': how many values and letters a reading holds, each counted each time it is reached (what is shared counts as often as it is met; a slice's spare places count too). A statement '..UptoSaid' is the law's where the arguments, and the package variables that the reading takes, are together of bulk at most 1048576: NARROWER than '..Said'. Prove '..Said' where nothing that the law and all that it calls make is longer than what came in: it says more and counts as full. Else prove '..UptoSaid'. A law counts once. -/
mutual
def uptoBulk {H : Type} : DataW H → Nat
  | .lit (.string bytes) => bytes.length + 1
  | .lit _ => 1
  | .nil => 1
  | .ptr d => uptoBulk d + 1
  | .slice elems spare => uptoBulkAll elems + uptoBulkAll spare + 1
  | .agg parts => uptoBulkAll parts + 1
  | .iface _ d => uptoBulk d + 1
  | .map entries => uptoBulkEntries entries + 1
  | .held _ => 1
def uptoBulkAll {H : Type} : List (DataW H) → Nat
  | [] => 0
  | d :: r => uptoBulk d + uptoBulkAll r
def uptoBulkEntries {H : Type} : List (Lit × DataW H) → Nat
  | [] => 0
  | x :: r => uptoBulkEntry x + uptoBulkEntries r
def uptoBulkEntry {H : Type} : Lit × DataW H → Nat
  | (.string bytes, d) => bytes.length + uptoBulk d + 1
  | (_, d) => uptoBulk d + 1
 end
def uptoSmall : (H : Type) → List (DataW H) → Bool := fun _ ds => decide (uptoBulkAll ds ≤ 1048576)
def OpenSpec.upto (s : _root_.Go.ChangeSpec) : _root_.Go.OpenSpec := { _root_.Go.OpenSpec.ofChange s with cond := some uptoSmall }

/-- 'laws.FnExactIsInstrument', WHERE WHAT IT READS IS OF BULK AT MOST 1048576: true; the input reads as it did. -/
def fnExactIsInstrumentUptoRow : OpenClaim := { program := "ytfgfiahampjfiaadoor", sum := "3762378381d54336f55817031032b6d23b142b0d18d5a65f20f09afca81d796f", func := "loop.example/g00949/laws.FnExactIsInstrument", spec := "fnExactIsInstrument", named := ["loop.example/g00949/impl.instrumentLimits"], apart := false, laid := [("loop.example/g00949/impl.instrumentLimits", laid_loop_example_g00949_impl_instrumentLimits)], narrowed := true }
def FnExactIsInstrumentUptoSaid : Prop := fnExactIsInstrumentUptoRow.holds Tryd.pinned (OpenSpec.upto fnExactIsInstrumentSpec)

/-- 'laws.FnExactTrackOf', WHERE WHAT IT READS IS OF BULK AT MOST 1048576: true; the input reads as it did. -/
def fnExactTrackOfUptoRow : OpenClaim := { program := "ytfgfiahampjfiaadoor", sum := "3762378381d54336f55817031032b6d23b142b0d18d5a65f20f09afca81d796f", func := "loop.example/g00949/laws.FnExactTrackOf", spec := "fnExactTrackOf", named := ["loop.example/g00949/impl.instrumentLimits"], apart := false, laid := [("loop.example/g00949/impl.instrumentLimits", laid_loop_example_g00949_impl_instrumentLimits)], narrowed := true }
def FnExactTrackOfUptoSaid : Prop := fnExactTrackOfUptoRow.holds Tryd.pinned (OpenSpec.upto fnExactTrackOfSpec)

/-- 'laws.FnExactPitchOf', WHERE WHAT IT READS IS OF BULK AT MOST 1048576: true; the input reads as it did. -/
def fnExactPitchOfUptoRow : OpenClaim := { program := "ytfgfiahampjfiaadoor", sum := "3762378381d54336f55817031032b6d23b142b0d18d5a65f20f09afca81d796f", func := "loop.example/g00949/laws.FnExactPitchOf", spec := "fnExactPitchOf", named := ["loop.example/g00949/impl.instrumentLimits"], apart := false, laid := [("loop.example/g00949/impl.instrumentLimits", laid_loop_example_g00949_impl_instrumentLimits)], narrowed := true }
def FnExactPitchOfUptoSaid : Prop := fnExactPitchOfUptoRow.holds Tryd.pinned (OpenSpec.upto fnExactPitchOfSpec)

/-- 'laws.FnExactMissingPitches', WHERE WHAT IT READS IS OF BULK AT MOST 1048576: true; the input reads as it did. -/
def fnExactMissingPitchesUptoRow : OpenClaim := { program := "ytfgfiahampjfiaadoor", sum := "3762378381d54336f55817031032b6d23b142b0d18d5a65f20f09afca81d796f", func := "loop.example/g00949/laws.FnExactMissingPitches", spec := "fnExactMissingPitches", recurses := true, named := ["loop.example/g00949/impl.instrumentLimits"], apart := false, laid := [("loop.example/g00949/impl.instrumentLimits", laid_loop_example_g00949_impl_instrumentLimits)], narrowed := true }
def FnExactMissingPitchesUptoSaid : Prop := fnExactMissingPitchesUptoRow.holds Tryd.pinned (OpenSpec.upto fnExactMissingPitchesSpec)

/-- 'laws.FnExactFastRepeats', WHERE WHAT IT READS IS OF BULK AT MOST 1048576: true; the input reads as it did. -/
def fnExactFastRepeatsUptoRow : OpenClaim := { program := "ytfgfiahampjfiaadoor", sum := "3762378381d54336f55817031032b6d23b142b0d18d5a65f20f09afca81d796f", func := "loop.example/g00949/laws.FnExactFastRepeats", spec := "fnExactFastRepeats", named := ["loop.example/g00949/impl.instrumentLimits"], apart := false, laid := [("loop.example/g00949/impl.instrumentLimits", laid_loop_example_g00949_impl_instrumentLimits)], narrowed := true }
def FnExactFastRepeatsUptoSaid : Prop := fnExactFastRepeatsUptoRow.holds Tryd.pinned (OpenSpec.upto fnExactFastRepeatsSpec)

/-- 'laws.FnExactCanPlay', WHERE WHAT IT READS IS OF BULK AT MOST 1048576: true; the input reads as it did. -/
def fnExactCanPlayUptoRow : OpenClaim := { program := "ytfgfiahampjfiaadoor", sum := "3762378381d54336f55817031032b6d23b142b0d18d5a65f20f09afca81d796f", func := "loop.example/g00949/laws.FnExactCanPlay", spec := "fnExactCanPlay", recurses := true, named := ["loop.example/g00949/impl.instrumentLimits"], apart := false, laid := [("loop.example/g00949/impl.instrumentLimits", laid_loop_example_g00949_impl_instrumentLimits)], narrowed := true }
def FnExactCanPlayUptoSaid : Prop := fnExactCanPlayUptoRow.holds Tryd.pinned (OpenSpec.upto fnExactCanPlaySpec)

/-- 'laws.FnExactPlayablePart', WHERE WHAT IT READS IS OF BULK AT MOST 1048576: true; the input reads as it did. -/
def fnExactPlayablePartUptoRow : OpenClaim := { program := "ytfgfiahampjfiaadoor", sum := "3762378381d54336f55817031032b6d23b142b0d18d5a65f20f09afca81d796f", func := "loop.example/g00949/laws.FnExactPlayablePart", spec := "fnExactPlayablePart", named := ["loop.example/g00949/impl.instrumentLimits"], apart := false, laid := [("loop.example/g00949/impl.instrumentLimits", laid_loop_example_g00949_impl_instrumentLimits)], narrowed := true }
def FnExactPlayablePartUptoSaid : Prop := fnExactPlayablePartUptoRow.holds Tryd.pinned (OpenSpec.upto fnExactPlayablePartSpec)

/-- 'laws.FnExactAddPitch', WHERE WHAT IT READS IS OF BULK AT MOST 1048576: true; the input reads as it did. -/
def fnExactAddPitchUptoRow : OpenClaim := { program := "ytfgfiahampjfiaadoor", sum := "3762378381d54336f55817031032b6d23b142b0d18d5a65f20f09afca81d796f", func := "loop.example/g00949/laws.FnExactAddPitch", spec := "fnExactAddPitch", recurses := true, named := ["loop.example/g00949/impl.instrumentLimits"], apart := false, laid := [("loop.example/g00949/impl.instrumentLimits", laid_loop_example_g00949_impl_instrumentLimits)], narrowed := true }
def FnExactAddPitchUptoSaid : Prop := fnExactAddPitchUptoRow.holds Tryd.pinned (OpenSpec.upto fnExactAddPitchSpec)

/-- 'laws.FnExactCommonPitches', WHERE WHAT IT READS IS OF BULK AT MOST 1048576: true; the input reads as it did. -/
def fnExactCommonPitchesUptoRow : OpenClaim := { program := "ytfgfiahampjfiaadoor", sum := "3762378381d54336f55817031032b6d23b142b0d18d5a65f20f09afca81d796f", func := "loop.example/g00949/laws.FnExactCommonPitches", spec := "fnExactCommonPitches", named := ["loop.example/g00949/impl.instrumentLimits"], apart := false, laid := [("loop.example/g00949/impl.instrumentLimits", laid_loop_example_g00949_impl_instrumentLimits)], narrowed := true }
def FnExactCommonPitchesUptoSaid : Prop := fnExactCommonPitchesUptoRow.holds Tryd.pinned (OpenSpec.upto fnExactCommonPitchesSpec)

/-- 'laws.FnExactInstrumentText', WHERE WHAT IT READS IS OF BULK AT MOST 1048576: true; the input reads as it did. -/
def fnExactInstrumentTextUptoRow : OpenClaim := { program := "ytfgfiahampjfiaadoor", sum := "3762378381d54336f55817031032b6d23b142b0d18d5a65f20f09afca81d796f", func := "loop.example/g00949/laws.FnExactInstrumentText", spec := "fnExactInstrumentText", inPlace := ["internal/abi.NoEscape"], recurses := true, named := ["loop.example/g00949/impl.instrumentLimits", "loop.example/g00949/impl.classNames", "internal/strconv.uint64pow10", "math/bits.deBruijn32tab", "math/bits.deBruijn64tab"], apart := false, laid := [("math/bits.deBruijn32tab", laid_math_bits_deBruijn32tab), ("math/bits.deBruijn64tab", laid_math_bits_deBruijn64tab), ("internal/strconv.uint64pow10", laid_internal_strconv_uint64pow10), ("loop.example/g00949/impl.classNames", laid_loop_example_g00949_impl_classNames), ("loop.example/g00949/impl.instrumentLimits", laid_loop_example_g00949_impl_instrumentLimits)], narrowed := true }
def FnExactInstrumentTextUptoSaid : Prop := fnExactInstrumentTextUptoRow.holds Tryd.pinned (OpenSpec.upto fnExactInstrumentTextSpec)

/-- 'laws.FnExactParseInstrument', WHERE WHAT IT READS IS OF BULK AT MOST 1048576: true; the input reads as it did. -/
def fnExactParseInstrumentUptoRow : OpenClaim := { program := "ytfgfiahampjfiaadoor", sum := "3762378381d54336f55817031032b6d23b142b0d18d5a65f20f09afca81d796f", func := "loop.example/g00949/laws.FnExactParseInstrument", spec := "fnExactParseInstrument", recurses := true, named := ["loop.example/g00949/impl.classNames", "strconv.ErrSyntax", "strconv.ErrRange", "internal/strconv.uint64pow10", "math/bits.deBruijn32tab", "math/bits.deBruijn64tab", "loop.example/g00949/impl.instrumentLimits"], apart := false, laid := [("math/bits.deBruijn32tab", laid_math_bits_deBruijn32tab), ("math/bits.deBruijn64tab", laid_math_bits_deBruijn64tab), ("internal/strconv.uint64pow10", laid_internal_strconv_uint64pow10), ("strconv.ErrRange", laid_strconv_ErrRange), ("strconv.ErrSyntax", laid_strconv_ErrSyntax), ("loop.example/g00949/impl.classNames", laid_loop_example_g00949_impl_classNames), ("loop.example/g00949/impl.instrumentLimits", laid_loop_example_g00949_impl_instrumentLimits)], narrowed := true }
def FnExactParseInstrumentUptoSaid : Prop := fnExactParseInstrumentUptoRow.holds Tryd.pinned (OpenSpec.upto fnExactParseInstrumentSpec)

/-- 'laws.FnExactScoreText', WHERE WHAT IT READS IS OF BULK AT MOST 1048576: true; the input reads as it did. -/
def fnExactScoreTextUptoRow : OpenClaim := { program := "ytfgfiahampjfiaadoor", sum := "3762378381d54336f55817031032b6d23b142b0d18d5a65f20f09afca81d796f", func := "loop.example/g00949/laws.FnExactScoreText", spec := "fnExactScoreText", inPlace := ["internal/abi.NoEscape"], recurses := true, named := ["loop.example/g00949/impl.classNames", "internal/strconv.uint64pow10", "math/bits.deBruijn32tab", "math/bits.deBruijn64tab"], apart := false, laid := [("math/bits.deBruijn32tab", laid_math_bits_deBruijn32tab), ("math/bits.deBruijn64tab", laid_math_bits_deBruijn64tab), ("internal/strconv.uint64pow10", laid_internal_strconv_uint64pow10), ("loop.example/g00949/impl.classNames", laid_loop_example_g00949_impl_classNames)], narrowed := true }
def FnExactScoreTextUptoSaid : Prop := fnExactScoreTextUptoRow.holds Tryd.pinned (OpenSpec.upto fnExactScoreTextSpec)

/-- 'laws.FnExactParseScore', WHERE WHAT IT READS IS OF BULK AT MOST 1048576: true; the input reads as it did. -/
def fnExactParseScoreUptoRow : OpenClaim := { program := "ytfgfiahampjfiaadoor", sum := "3762378381d54336f55817031032b6d23b142b0d18d5a65f20f09afca81d796f", func := "loop.example/g00949/laws.FnExactParseScore", spec := "fnExactParseScore", inPlace := ["internal/bytealg.IndexByteString", "internal/bytealg.IndexString", "internal/bytealg.CountString"], recurses := true, named := ["internal/bytealg.MaxLen", "unicode/utf8.first", "unicode/utf8.acceptRanges", "loop.example/g00949/impl.classNames", "strconv.ErrSyntax", "strconv.ErrRange", "internal/strconv.uint64pow10", "math/bits.deBruijn32tab", "math/bits.deBruijn64tab"], apart := false, laid := [("math/bits.deBruijn32tab", laid_math_bits_deBruijn32tab), ("math/bits.deBruijn64tab", laid_math_bits_deBruijn64tab), ("internal/strconv.uint64pow10", laid_internal_strconv_uint64pow10), ("unicode/utf8.acceptRanges", laid_unicode_utf8_acceptRanges), ("strconv.ErrRange", laid_strconv_ErrRange), ("strconv.ErrSyntax", laid_strconv_ErrSyntax), ("loop.example/g00949/impl.classNames", laid_loop_example_g00949_impl_classNames), ("unicode/utf8.first", laid_unicode_utf8_first)], narrowed := true }
def FnExactParseScoreUptoSaid : Prop := fnExactParseScoreUptoRow.holds Tryd.pinned (OpenSpec.upto fnExactParseScoreSpec)

end Rows
end Go.Proofs.YtfgfiahampjfiaaDoor
