/-
  NARROWER THAN 'FOR EVERY INPUT', by the rows' own cells (each row's printed sentence says how): FnTargetOf: ifaces, laid · FnSegments: ifaces, laid · FnMerge: ifaces, laid · FnFirstOther: ifaces, laid · FnExactSegmentsOf: ifaces, laid · FnExactFormatSegments: laid · FnExactMergeCases: ifaces, laid · FnExactSameTargets: ifaces, laid · FnExactFirstOther: ifaces, laid · FnExactIsComplete: ifaces, laid · FnExactBordersOf: ifaces, laid · FnExactCountGaps: ifaces, laid.
  DERIVED. THE GIVEN ROWS OF THIS SEAT. 12 by the template 'for every input the law returns true; each argument reads behind the call as it read before'; 0 by the template 'total and deterministic' (their statements: YtlcekocbaffnnaaDoorTotals.lean).
  GIVEN WITH THE SEED: the statements are not yours to turn. If you find one false, say at which input.
  Laid BY PROGRAM, IN A SANDBOX (cutbox-rows.mjs): the forced cells as the released guide's own fill.sh prints them over the translation cc3b353f81930e77… (all of the seat's roots in one cut). By AI agents, Wed Nov 11 2026. No macro, syntax, notation, axiom, sorry.
-/
import Derived.Test.YtlcekocbaffnnaaDoorChecked
import GoSem.Claim
import GoSem.ClaimJoined
import GoSem.ClaimMapViews
import Derived.JoinedTies
import Derived.KernelRfl
namespace Go.Proofs.YtlcekocbaffnnaaDoor
/- THE CELL 'sum', in the pinned program and in every row, IS THE sha256 OF THE DUMP (.gsa) THAT YtlcekocbaffnnaaDoorProg.lean LOADS. Nothing in Lean hashes anything: it is a label: what it is worth is what the hold of that sum in a sandbox is worth. -/
noncomputable def Tryd.pinned : Pinned := { name := "ytlcekocbaffnnaadoor", sum := "cc3b353f81930e776d90d5282da6e38478199549b7c3c8d105b1ad514cbc0010", checked := Tryd.checked }
namespace Rows
def none {H : Type} : Left H := { results := [], args := [] }

/- WHAT THE LISTED PACKAGE-LEVEL VARIABLES READ AS WHEN THE CALL BEGINS. Each datum BY PROGRAM (the guide's laid-datum.mjs) off the statement by which the dump's own 'gosem.cut.vars' lays the variable. In a bare row this is a premise. The card (YtlcekocbaffnnaaDoorCards.lean) ties it to the program's text. -/
def laid_loop_example_keyswitches_impl_errNoTarget {H : Type} : DataW H := .iface "*errors.errorString" (.ptr (.agg [.lit (.string [110, 111, 32, 116, 97, 114, 103, 101, 116])]))
def laid_math_bits_deBruijn32tab {H : Type} : DataW H := .agg [.lit (.int .u8 0), .lit (.int .u8 1), .lit (.int .u8 28), .lit (.int .u8 2), .lit (.int .u8 29), .lit (.int .u8 14), .lit (.int .u8 24), .lit (.int .u8 3), .lit (.int .u8 30), .lit (.int .u8 22), .lit (.int .u8 20), .lit (.int .u8 15), .lit (.int .u8 25), .lit (.int .u8 17), .lit (.int .u8 4), .lit (.int .u8 8), .lit (.int .u8 31), .lit (.int .u8 27), .lit (.int .u8 13), .lit (.int .u8 23), .lit (.int .u8 21), .lit (.int .u8 19), .lit (.int .u8 16), .lit (.int .u8 7), .lit (.int .u8 26), .lit (.int .u8 12), .lit (.int .u8 18), .lit (.int .u8 6), .lit (.int .u8 11), .lit (.int .u8 5), .lit (.int .u8 10), .lit (.int .u8 9)]
def laid_math_bits_deBruijn64tab {H : Type} : DataW H := .agg [.lit (.int .u8 0), .lit (.int .u8 1), .lit (.int .u8 56), .lit (.int .u8 2), .lit (.int .u8 57), .lit (.int .u8 49), .lit (.int .u8 28), .lit (.int .u8 3), .lit (.int .u8 61), .lit (.int .u8 58), .lit (.int .u8 42), .lit (.int .u8 50), .lit (.int .u8 38), .lit (.int .u8 29), .lit (.int .u8 17), .lit (.int .u8 4), .lit (.int .u8 62), .lit (.int .u8 47), .lit (.int .u8 59), .lit (.int .u8 36), .lit (.int .u8 45), .lit (.int .u8 43), .lit (.int .u8 51), .lit (.int .u8 22), .lit (.int .u8 53), .lit (.int .u8 39), .lit (.int .u8 33), .lit (.int .u8 30), .lit (.int .u8 24), .lit (.int .u8 18), .lit (.int .u8 12), .lit (.int .u8 5), .lit (.int .u8 63), .lit (.int .u8 55), .lit (.int .u8 48), .lit (.int .u8 27), .lit (.int .u8 60), .lit (.int .u8 41), .lit (.int .u8 37), .lit (.int .u8 16), .lit (.int .u8 46), .lit (.int .u8 35), .lit (.int .u8 44), .lit (.int .u8 21), .lit (.int .u8 52), .lit (.int .u8 32), .lit (.int .u8 23), .lit (.int .u8 11), .lit (.int .u8 54), .lit (.int .u8 26), .lit (.int .u8 40), .lit (.int .u8 15), .lit (.int .u8 34), .lit (.int .u8 20), .lit (.int .u8 31), .lit (.int .u8 10), .lit (.int .u8 25), .lit (.int .u8 14), .lit (.int .u8 19), .lit (.int .u8 9), .lit (.int .u8 13), .lit (.int .u8 8), .lit (.int .u8 7), .lit (.int .u8 6)]
def laid_internal_strconv_uint64pow10 {H : Type} : DataW H := .agg [.lit (.int .u64 1), .lit (.int .u64 10), .lit (.int .u64 100), .lit (.int .u64 1000), .lit (.int .u64 10000), .lit (.int .u64 100000), .lit (.int .u64 1000000), .lit (.int .u64 10000000), .lit (.int .u64 100000000), .lit (.int .u64 1000000000), .lit (.int .u64 10000000000), .lit (.int .u64 100000000000), .lit (.int .u64 1000000000000), .lit (.int .u64 10000000000000), .lit (.int .u64 100000000000000), .lit (.int .u64 1000000000000000), .lit (.int .u64 10000000000000000), .lit (.int .u64 100000000000000000), .lit (.int .u64 1000000000000000000), .lit (.int .u64 10000000000000000000)]

/-- 'laws.FnTargetOf': WHATEVER THE INPUT: true; the input reads as it did. -/
def fnTargetOfSpec : ChangeSpec := { name := "fnTargetOf", vars := ["loop.example/keyswitches/impl.errNoTarget"], fn := fun _ => fun
  | [d, g1] => { results := [.lit (.bool true)], args := [d], vars := [g1] }
  | _ => none }
def fnTargetOfRow : OpenClaim := { program := "ytlcekocbaffnnaadoor", sum := "cc3b353f81930e776d90d5282da6e38478199549b7c3c8d105b1ad514cbc0010", func := "loop.example/keyswitches/laws.FnTargetOf", spec := "fnTargetOf", unfollowed := true, recurses := true, named := ["loop.example/keyswitches/impl.errNoTarget"], ifaces := true, apart := false, laid := [("loop.example/keyswitches/impl.errNoTarget", laid_loop_example_keyswitches_impl_errNoTarget)] }
def FnTargetOfSaid : Prop := fnTargetOfRow.holds Tryd.pinned (OpenSpec.ofChange fnTargetOfSpec)

/-- ITS FALSE NEIGHBOUR: 'it returns false'. Refute it at one input. -/
def fnTargetOfWrong : ChangeSpec := { name := "fnTargetOf", vars := ["loop.example/keyswitches/impl.errNoTarget"], fn := fun _ => fun
  | [d, g1] => { results := [.lit (.bool false)], args := [d], vars := [g1] }
  | _ => none }
def FnTargetOfWrongFalsely : Prop := fnTargetOfRow.holds Tryd.pinned (OpenSpec.ofChange fnTargetOfWrong)

/-- 'laws.FnSegments': WHATEVER THE INPUT: true; the input reads as it did. -/
def fnSegmentsSpec : ChangeSpec := { name := "fnSegments", vars := ["loop.example/keyswitches/impl.errNoTarget"], fn := fun _ => fun
  | [d1, d2, g1] => { results := [.lit (.bool true)], args := [d1, d2], vars := [g1] }
  | _ => none }
def fnSegmentsRow : OpenClaim := { program := "ytlcekocbaffnnaadoor", sum := "cc3b353f81930e776d90d5282da6e38478199549b7c3c8d105b1ad514cbc0010", func := "loop.example/keyswitches/laws.FnSegments", spec := "fnSegments", inPlace := ["internal/abi.NoEscape", "internal/bytealg.MakeNoZero"], unfollowed := true, recurses := true, named := ["loop.example/keyswitches/impl.errNoTarget", "internal/strconv.uint64pow10", "math/bits.deBruijn32tab", "math/bits.deBruijn64tab"], ifaces := true, apart := false, laid := [("math/bits.deBruijn32tab", laid_math_bits_deBruijn32tab), ("math/bits.deBruijn64tab", laid_math_bits_deBruijn64tab), ("internal/strconv.uint64pow10", laid_internal_strconv_uint64pow10), ("loop.example/keyswitches/impl.errNoTarget", laid_loop_example_keyswitches_impl_errNoTarget)] }
def FnSegmentsSaid : Prop := fnSegmentsRow.holds Tryd.pinned (OpenSpec.ofChange fnSegmentsSpec)

/-- ITS FALSE NEIGHBOUR: 'it returns false'. Refute it at one input. -/
def fnSegmentsWrong : ChangeSpec := { name := "fnSegments", vars := ["loop.example/keyswitches/impl.errNoTarget"], fn := fun _ => fun
  | [d1, d2, g1] => { results := [.lit (.bool false)], args := [d1, d2], vars := [g1] }
  | _ => none }
def FnSegmentsWrongFalsely : Prop := fnSegmentsRow.holds Tryd.pinned (OpenSpec.ofChange fnSegmentsWrong)

/-- 'laws.FnMerge': WHATEVER THE INPUT: true; the input reads as it did. -/
def fnMergeSpec : ChangeSpec := { name := "fnMerge", vars := ["loop.example/keyswitches/impl.errNoTarget"], fn := fun _ => fun
  | [d, g1] => { results := [.lit (.bool true)], args := [d], vars := [g1] }
  | _ => none }
def fnMergeRow : OpenClaim := { program := "ytlcekocbaffnnaadoor", sum := "cc3b353f81930e776d90d5282da6e38478199549b7c3c8d105b1ad514cbc0010", func := "loop.example/keyswitches/laws.FnMerge", spec := "fnMerge", unfollowed := true, recurses := true, named := ["loop.example/keyswitches/impl.errNoTarget"], ifaces := true, apart := false, laid := [("loop.example/keyswitches/impl.errNoTarget", laid_loop_example_keyswitches_impl_errNoTarget)] }
def FnMergeSaid : Prop := fnMergeRow.holds Tryd.pinned (OpenSpec.ofChange fnMergeSpec)

/-- ITS FALSE NEIGHBOUR: 'it returns false'. Refute it at one input. -/
def fnMergeWrong : ChangeSpec := { name := "fnMerge", vars := ["loop.example/keyswitches/impl.errNoTarget"], fn := fun _ => fun
  | [d, g1] => { results := [.lit (.bool false)], args := [d], vars := [g1] }
  | _ => none }
def FnMergeWrongFalsely : Prop := fnMergeRow.holds Tryd.pinned (OpenSpec.ofChange fnMergeWrong)

/-- 'laws.FnFirstOther': WHATEVER THE INPUT: true; the input reads as it did. -/
def fnFirstOtherSpec : ChangeSpec := { name := "fnFirstOther", vars := ["loop.example/keyswitches/impl.errNoTarget"], fn := fun _ => fun
  | [d1, d2, g1] => { results := [.lit (.bool true)], args := [d1, d2], vars := [g1] }
  | _ => none }
def fnFirstOtherRow : OpenClaim := { program := "ytlcekocbaffnnaadoor", sum := "cc3b353f81930e776d90d5282da6e38478199549b7c3c8d105b1ad514cbc0010", func := "loop.example/keyswitches/laws.FnFirstOther", spec := "fnFirstOther", unfollowed := true, recurses := true, named := ["loop.example/keyswitches/impl.errNoTarget"], ifaces := true, apart := false, laid := [("loop.example/keyswitches/impl.errNoTarget", laid_loop_example_keyswitches_impl_errNoTarget)] }
def FnFirstOtherSaid : Prop := fnFirstOtherRow.holds Tryd.pinned (OpenSpec.ofChange fnFirstOtherSpec)

/-- ITS FALSE NEIGHBOUR: 'it returns false'. Refute it at one input. -/
def fnFirstOtherWrong : ChangeSpec := { name := "fnFirstOther", vars := ["loop.example/keyswitches/impl.errNoTarget"], fn := fun _ => fun
  | [d1, d2, g1] => { results := [.lit (.bool false)], args := [d1, d2], vars := [g1] }
  | _ => none }
def FnFirstOtherWrongFalsely : Prop := fnFirstOtherRow.holds Tryd.pinned (OpenSpec.ofChange fnFirstOtherWrong)

/-- 'laws.FnExactSegmentsOf': WHATEVER THE INPUT: true; the input reads as it did. -/
def fnExactSegmentsOfSpec : ChangeSpec := { name := "fnExactSegmentsOf", vars := ["loop.example/keyswitches/impl.errNoTarget"], fn := fun _ => fun
  | [d, g1] => { results := [.lit (.bool true)], args := [d], vars := [g1] }
  | _ => none }
def fnExactSegmentsOfRow : OpenClaim := { program := "ytlcekocbaffnnaadoor", sum := "cc3b353f81930e776d90d5282da6e38478199549b7c3c8d105b1ad514cbc0010", func := "loop.example/keyswitches/laws.FnExactSegmentsOf", spec := "fnExactSegmentsOf", unfollowed := true, recurses := true, named := ["loop.example/keyswitches/impl.errNoTarget"], ifaces := true, apart := false, laid := [("loop.example/keyswitches/impl.errNoTarget", laid_loop_example_keyswitches_impl_errNoTarget)] }
def FnExactSegmentsOfSaid : Prop := fnExactSegmentsOfRow.holds Tryd.pinned (OpenSpec.ofChange fnExactSegmentsOfSpec)

/-- ITS FALSE NEIGHBOUR: 'it returns false'. Refute it at one input. -/
def fnExactSegmentsOfWrong : ChangeSpec := { name := "fnExactSegmentsOf", vars := ["loop.example/keyswitches/impl.errNoTarget"], fn := fun _ => fun
  | [d, g1] => { results := [.lit (.bool false)], args := [d], vars := [g1] }
  | _ => none }
def FnExactSegmentsOfWrongFalsely : Prop := fnExactSegmentsOfRow.holds Tryd.pinned (OpenSpec.ofChange fnExactSegmentsOfWrong)

/-- 'laws.FnExactFormatSegments': WHATEVER THE INPUT: true; the input reads as it did. -/
def fnExactFormatSegmentsSpec : ChangeSpec := { name := "fnExactFormatSegments", fn := fun _ => fun
  | [d] => { results := [.lit (.bool true)], args := [d] }
  | _ => none }
def fnExactFormatSegmentsRow : OpenClaim := { program := "ytlcekocbaffnnaadoor", sum := "cc3b353f81930e776d90d5282da6e38478199549b7c3c8d105b1ad514cbc0010", func := "loop.example/keyswitches/laws.FnExactFormatSegments", spec := "fnExactFormatSegments", inPlace := ["internal/abi.NoEscape", "internal/bytealg.MakeNoZero"], recurses := true, named := ["internal/strconv.uint64pow10", "math/bits.deBruijn32tab", "math/bits.deBruijn64tab"], apart := false, laid := [("math/bits.deBruijn32tab", laid_math_bits_deBruijn32tab), ("math/bits.deBruijn64tab", laid_math_bits_deBruijn64tab), ("internal/strconv.uint64pow10", laid_internal_strconv_uint64pow10)] }
def FnExactFormatSegmentsSaid : Prop := fnExactFormatSegmentsRow.holds Tryd.pinned (OpenSpec.ofChange fnExactFormatSegmentsSpec)

/-- ITS FALSE NEIGHBOUR: 'it returns false'. Refute it at one input. -/
def fnExactFormatSegmentsWrong : ChangeSpec := { name := "fnExactFormatSegments", fn := fun _ => fun
  | [d] => { results := [.lit (.bool false)], args := [d] }
  | _ => none }
def FnExactFormatSegmentsWrongFalsely : Prop := fnExactFormatSegmentsRow.holds Tryd.pinned (OpenSpec.ofChange fnExactFormatSegmentsWrong)

/-- 'laws.FnExactMergeCases': WHATEVER THE INPUT: true; the input reads as it did. -/
def fnExactMergeCasesSpec : ChangeSpec := { name := "fnExactMergeCases", vars := ["loop.example/keyswitches/impl.errNoTarget"], fn := fun _ => fun
  | [d, g1] => { results := [.lit (.bool true)], args := [d], vars := [g1] }
  | _ => none }
def fnExactMergeCasesRow : OpenClaim := { program := "ytlcekocbaffnnaadoor", sum := "cc3b353f81930e776d90d5282da6e38478199549b7c3c8d105b1ad514cbc0010", func := "loop.example/keyswitches/laws.FnExactMergeCases", spec := "fnExactMergeCases", unfollowed := true, recurses := true, named := ["loop.example/keyswitches/impl.errNoTarget"], ifaces := true, apart := false, laid := [("loop.example/keyswitches/impl.errNoTarget", laid_loop_example_keyswitches_impl_errNoTarget)] }
def FnExactMergeCasesSaid : Prop := fnExactMergeCasesRow.holds Tryd.pinned (OpenSpec.ofChange fnExactMergeCasesSpec)

/-- ITS FALSE NEIGHBOUR: 'it returns false'. Refute it at one input. -/
def fnExactMergeCasesWrong : ChangeSpec := { name := "fnExactMergeCases", vars := ["loop.example/keyswitches/impl.errNoTarget"], fn := fun _ => fun
  | [d, g1] => { results := [.lit (.bool false)], args := [d], vars := [g1] }
  | _ => none }
def FnExactMergeCasesWrongFalsely : Prop := fnExactMergeCasesRow.holds Tryd.pinned (OpenSpec.ofChange fnExactMergeCasesWrong)

/-- 'laws.FnExactSameTargets': WHATEVER THE INPUT: true; the input reads as it did. -/
def fnExactSameTargetsSpec : ChangeSpec := { name := "fnExactSameTargets", vars := ["loop.example/keyswitches/impl.errNoTarget"], fn := fun _ => fun
  | [d1, d2, g1] => { results := [.lit (.bool true)], args := [d1, d2], vars := [g1] }
  | _ => none }
def fnExactSameTargetsRow : OpenClaim := { program := "ytlcekocbaffnnaadoor", sum := "cc3b353f81930e776d90d5282da6e38478199549b7c3c8d105b1ad514cbc0010", func := "loop.example/keyswitches/laws.FnExactSameTargets", spec := "fnExactSameTargets", unfollowed := true, recurses := true, named := ["loop.example/keyswitches/impl.errNoTarget"], ifaces := true, apart := false, laid := [("loop.example/keyswitches/impl.errNoTarget", laid_loop_example_keyswitches_impl_errNoTarget)] }
def FnExactSameTargetsSaid : Prop := fnExactSameTargetsRow.holds Tryd.pinned (OpenSpec.ofChange fnExactSameTargetsSpec)

/-- ITS FALSE NEIGHBOUR: 'it returns false'. Refute it at one input. -/
def fnExactSameTargetsWrong : ChangeSpec := { name := "fnExactSameTargets", vars := ["loop.example/keyswitches/impl.errNoTarget"], fn := fun _ => fun
  | [d1, d2, g1] => { results := [.lit (.bool false)], args := [d1, d2], vars := [g1] }
  | _ => none }
def FnExactSameTargetsWrongFalsely : Prop := fnExactSameTargetsRow.holds Tryd.pinned (OpenSpec.ofChange fnExactSameTargetsWrong)

/-- 'laws.FnExactFirstOther': WHATEVER THE INPUT: true; the input reads as it did. -/
def fnExactFirstOtherSpec : ChangeSpec := { name := "fnExactFirstOther", vars := ["loop.example/keyswitches/impl.errNoTarget"], fn := fun _ => fun
  | [d1, d2, g1] => { results := [.lit (.bool true)], args := [d1, d2], vars := [g1] }
  | _ => none }
def fnExactFirstOtherRow : OpenClaim := { program := "ytlcekocbaffnnaadoor", sum := "cc3b353f81930e776d90d5282da6e38478199549b7c3c8d105b1ad514cbc0010", func := "loop.example/keyswitches/laws.FnExactFirstOther", spec := "fnExactFirstOther", unfollowed := true, recurses := true, named := ["loop.example/keyswitches/impl.errNoTarget"], ifaces := true, apart := false, laid := [("loop.example/keyswitches/impl.errNoTarget", laid_loop_example_keyswitches_impl_errNoTarget)] }
def FnExactFirstOtherSaid : Prop := fnExactFirstOtherRow.holds Tryd.pinned (OpenSpec.ofChange fnExactFirstOtherSpec)

/-- ITS FALSE NEIGHBOUR: 'it returns false'. Refute it at one input. -/
def fnExactFirstOtherWrong : ChangeSpec := { name := "fnExactFirstOther", vars := ["loop.example/keyswitches/impl.errNoTarget"], fn := fun _ => fun
  | [d1, d2, g1] => { results := [.lit (.bool false)], args := [d1, d2], vars := [g1] }
  | _ => none }
def FnExactFirstOtherWrongFalsely : Prop := fnExactFirstOtherRow.holds Tryd.pinned (OpenSpec.ofChange fnExactFirstOtherWrong)

/-- 'laws.FnExactIsComplete': WHATEVER THE INPUT: true; the input reads as it did. -/
def fnExactIsCompleteSpec : ChangeSpec := { name := "fnExactIsComplete", vars := ["loop.example/keyswitches/impl.errNoTarget"], fn := fun _ => fun
  | [d, g1] => { results := [.lit (.bool true)], args := [d], vars := [g1] }
  | _ => none }
def fnExactIsCompleteRow : OpenClaim := { program := "ytlcekocbaffnnaadoor", sum := "cc3b353f81930e776d90d5282da6e38478199549b7c3c8d105b1ad514cbc0010", func := "loop.example/keyswitches/laws.FnExactIsComplete", spec := "fnExactIsComplete", unfollowed := true, recurses := true, named := ["loop.example/keyswitches/impl.errNoTarget"], ifaces := true, apart := false, laid := [("loop.example/keyswitches/impl.errNoTarget", laid_loop_example_keyswitches_impl_errNoTarget)] }
def FnExactIsCompleteSaid : Prop := fnExactIsCompleteRow.holds Tryd.pinned (OpenSpec.ofChange fnExactIsCompleteSpec)

/-- ITS FALSE NEIGHBOUR: 'it returns false'. Refute it at one input. -/
def fnExactIsCompleteWrong : ChangeSpec := { name := "fnExactIsComplete", vars := ["loop.example/keyswitches/impl.errNoTarget"], fn := fun _ => fun
  | [d, g1] => { results := [.lit (.bool false)], args := [d], vars := [g1] }
  | _ => none }
def FnExactIsCompleteWrongFalsely : Prop := fnExactIsCompleteRow.holds Tryd.pinned (OpenSpec.ofChange fnExactIsCompleteWrong)

/-- 'laws.FnExactBordersOf': WHATEVER THE INPUT: true; the input reads as it did. -/
def fnExactBordersOfSpec : ChangeSpec := { name := "fnExactBordersOf", vars := ["loop.example/keyswitches/impl.errNoTarget"], fn := fun _ => fun
  | [d, g1] => { results := [.lit (.bool true)], args := [d], vars := [g1] }
  | _ => none }
def fnExactBordersOfRow : OpenClaim := { program := "ytlcekocbaffnnaadoor", sum := "cc3b353f81930e776d90d5282da6e38478199549b7c3c8d105b1ad514cbc0010", func := "loop.example/keyswitches/laws.FnExactBordersOf", spec := "fnExactBordersOf", unfollowed := true, recurses := true, named := ["loop.example/keyswitches/impl.errNoTarget"], ifaces := true, apart := false, laid := [("loop.example/keyswitches/impl.errNoTarget", laid_loop_example_keyswitches_impl_errNoTarget)] }
def FnExactBordersOfSaid : Prop := fnExactBordersOfRow.holds Tryd.pinned (OpenSpec.ofChange fnExactBordersOfSpec)

/-- ITS FALSE NEIGHBOUR: 'it returns false'. Refute it at one input. -/
def fnExactBordersOfWrong : ChangeSpec := { name := "fnExactBordersOf", vars := ["loop.example/keyswitches/impl.errNoTarget"], fn := fun _ => fun
  | [d, g1] => { results := [.lit (.bool false)], args := [d], vars := [g1] }
  | _ => none }
def FnExactBordersOfWrongFalsely : Prop := fnExactBordersOfRow.holds Tryd.pinned (OpenSpec.ofChange fnExactBordersOfWrong)

/-- 'laws.FnExactCountGaps': WHATEVER THE INPUT: true; the input reads as it did. -/
def fnExactCountGapsSpec : ChangeSpec := { name := "fnExactCountGaps", vars := ["loop.example/keyswitches/impl.errNoTarget"], fn := fun _ => fun
  | [d, g1] => { results := [.lit (.bool true)], args := [d], vars := [g1] }
  | _ => none }
def fnExactCountGapsRow : OpenClaim := { program := "ytlcekocbaffnnaadoor", sum := "cc3b353f81930e776d90d5282da6e38478199549b7c3c8d105b1ad514cbc0010", func := "loop.example/keyswitches/laws.FnExactCountGaps", spec := "fnExactCountGaps", unfollowed := true, recurses := true, named := ["loop.example/keyswitches/impl.errNoTarget"], ifaces := true, apart := false, laid := [("loop.example/keyswitches/impl.errNoTarget", laid_loop_example_keyswitches_impl_errNoTarget)] }
def FnExactCountGapsSaid : Prop := fnExactCountGapsRow.holds Tryd.pinned (OpenSpec.ofChange fnExactCountGapsSpec)

/-- ITS FALSE NEIGHBOUR: 'it returns false'. Refute it at one input. -/
def fnExactCountGapsWrong : ChangeSpec := { name := "fnExactCountGaps", vars := ["loop.example/keyswitches/impl.errNoTarget"], fn := fun _ => fun
  | [d, g1] => { results := [.lit (.bool false)], args := [d], vars := [g1] }
  | _ => none }
def FnExactCountGapsWrongFalsely : Prop := fnExactCountGapsRow.holds Tryd.pinned (OpenSpec.ofChange fnExactCountGapsWrong)

/- THE SECOND FORM. 'bulk': how many values and letters a reading holds, each counted each time it is reached (what is shared counts as often as it is met; a slice's spare places count too). A statement '..UptoSaid' is the law's where the arguments, and the package variables that the reading takes, are together of bulk at most 1048576: NARROWER than '..Said'. Prove '..Said' where nothing that the law and all that it calls make is longer than what came in: it says more and counts as full. Else prove '..UptoSaid'. A law counts once. -/
mutual
def uptoBulk {H : Type} : DataW H → Nat
  | .lit (.string bytes) => bytes.length + 1
  | .lit _ => 1
  | .nil => 1
  | .ptr d => uptoBulk d + 1
  | .slice elems spare => uptoBulkAll elems + uptoBulkAll spare + 1
  | .agg parts => uptoBulkAll parts + 1
  | .iface _ d => uptoBulk d + 1
  | .map entries => uptoBulkEntries entries + 1
  | .held _ => 1
def uptoBulkAll {H : Type} : List (DataW H) → Nat
  | [] => 0
  | d :: r => uptoBulk d + uptoBulkAll r
def uptoBulkEntries {H : Type} : List (Lit × DataW H) → Nat
  | [] => 0
  | x :: r => uptoBulkEntry x + uptoBulkEntries r
def uptoBulkEntry {H : Type} : Lit × DataW H → Nat
  | (.string bytes, d) => bytes.length + uptoBulk d + 1
  | (_, d) => uptoBulk d + 1
 end
def uptoSmall : (H : Type) → List (DataW H) → Bool := fun _ ds => decide (uptoBulkAll ds ≤ 1048576)
def OpenSpec.upto (s : _root_.Go.ChangeSpec) : _root_.Go.OpenSpec := { _root_.Go.OpenSpec.ofChange s with cond := some uptoSmall }

/-- 'laws.FnTargetOf', WHERE WHAT IT READS IS OF BULK AT MOST 1048576: true; the input reads as it did. -/
def fnTargetOfUptoRow : OpenClaim := { program := "ytlcekocbaffnnaadoor", sum := "cc3b353f81930e776d90d5282da6e38478199549b7c3c8d105b1ad514cbc0010", func := "loop.example/keyswitches/laws.FnTargetOf", spec := "fnTargetOf", unfollowed := true, recurses := true, named := ["loop.example/keyswitches/impl.errNoTarget"], ifaces := true, apart := false, laid := [("loop.example/keyswitches/impl.errNoTarget", laid_loop_example_keyswitches_impl_errNoTarget)], narrowed := true }
def FnTargetOfUptoSaid : Prop := fnTargetOfUptoRow.holds Tryd.pinned (OpenSpec.upto fnTargetOfSpec)

/-- 'laws.FnSegments', WHERE WHAT IT READS IS OF BULK AT MOST 1048576: true; the input reads as it did. -/
def fnSegmentsUptoRow : OpenClaim := { program := "ytlcekocbaffnnaadoor", sum := "cc3b353f81930e776d90d5282da6e38478199549b7c3c8d105b1ad514cbc0010", func := "loop.example/keyswitches/laws.FnSegments", spec := "fnSegments", inPlace := ["internal/abi.NoEscape", "internal/bytealg.MakeNoZero"], unfollowed := true, recurses := true, named := ["loop.example/keyswitches/impl.errNoTarget", "internal/strconv.uint64pow10", "math/bits.deBruijn32tab", "math/bits.deBruijn64tab"], ifaces := true, apart := false, laid := [("math/bits.deBruijn32tab", laid_math_bits_deBruijn32tab), ("math/bits.deBruijn64tab", laid_math_bits_deBruijn64tab), ("internal/strconv.uint64pow10", laid_internal_strconv_uint64pow10), ("loop.example/keyswitches/impl.errNoTarget", laid_loop_example_keyswitches_impl_errNoTarget)], narrowed := true }
def FnSegmentsUptoSaid : Prop := fnSegmentsUptoRow.holds Tryd.pinned (OpenSpec.upto fnSegmentsSpec)

/-- 'laws.FnMerge', WHERE WHAT IT READS IS OF BULK AT MOST 1048576: true; the input reads as it did. -/
def fnMergeUptoRow : OpenClaim := { program := "ytlcekocbaffnnaadoor", sum := "cc3b353f81930e776d90d5282da6e38478199549b7c3c8d105b1ad514cbc0010", func := "loop.example/keyswitches/laws.FnMerge", spec := "fnMerge", unfollowed := true, recurses := true, named := ["loop.example/keyswitches/impl.errNoTarget"], ifaces := true, apart := false, laid := [("loop.example/keyswitches/impl.errNoTarget", laid_loop_example_keyswitches_impl_errNoTarget)], narrowed := true }
def FnMergeUptoSaid : Prop := fnMergeUptoRow.holds Tryd.pinned (OpenSpec.upto fnMergeSpec)

/-- 'laws.FnFirstOther', WHERE WHAT IT READS IS OF BULK AT MOST 1048576: true; the input reads as it did. -/
def fnFirstOtherUptoRow : OpenClaim := { program := "ytlcekocbaffnnaadoor", sum := "cc3b353f81930e776d90d5282da6e38478199549b7c3c8d105b1ad514cbc0010", func := "loop.example/keyswitches/laws.FnFirstOther", spec := "fnFirstOther", unfollowed := true, recurses := true, named := ["loop.example/keyswitches/impl.errNoTarget"], ifaces := true, apart := false, laid := [("loop.example/keyswitches/impl.errNoTarget", laid_loop_example_keyswitches_impl_errNoTarget)], narrowed := true }
def FnFirstOtherUptoSaid : Prop := fnFirstOtherUptoRow.holds Tryd.pinned (OpenSpec.upto fnFirstOtherSpec)

/-- 'laws.FnExactSegmentsOf', WHERE WHAT IT READS IS OF BULK AT MOST 1048576: true; the input reads as it did. -/
def fnExactSegmentsOfUptoRow : OpenClaim := { program := "ytlcekocbaffnnaadoor", sum := "cc3b353f81930e776d90d5282da6e38478199549b7c3c8d105b1ad514cbc0010", func := "loop.example/keyswitches/laws.FnExactSegmentsOf", spec := "fnExactSegmentsOf", unfollowed := true, recurses := true, named := ["loop.example/keyswitches/impl.errNoTarget"], ifaces := true, apart := false, laid := [("loop.example/keyswitches/impl.errNoTarget", laid_loop_example_keyswitches_impl_errNoTarget)], narrowed := true }
def FnExactSegmentsOfUptoSaid : Prop := fnExactSegmentsOfUptoRow.holds Tryd.pinned (OpenSpec.upto fnExactSegmentsOfSpec)

/-- 'laws.FnExactFormatSegments', WHERE WHAT IT READS IS OF BULK AT MOST 1048576: true; the input reads as it did. -/
def fnExactFormatSegmentsUptoRow : OpenClaim := { program := "ytlcekocbaffnnaadoor", sum := "cc3b353f81930e776d90d5282da6e38478199549b7c3c8d105b1ad514cbc0010", func := "loop.example/keyswitches/laws.FnExactFormatSegments", spec := "fnExactFormatSegments", inPlace := ["internal/abi.NoEscape", "internal/bytealg.MakeNoZero"], recurses := true, named := ["internal/strconv.uint64pow10", "math/bits.deBruijn32tab", "math/bits.deBruijn64tab"], apart := false, laid := [("math/bits.deBruijn32tab", laid_math_bits_deBruijn32tab), ("math/bits.deBruijn64tab", laid_math_bits_deBruijn64tab), ("internal/strconv.uint64pow10", laid_internal_strconv_uint64pow10)], narrowed := true }
def FnExactFormatSegmentsUptoSaid : Prop := fnExactFormatSegmentsUptoRow.holds Tryd.pinned (OpenSpec.upto fnExactFormatSegmentsSpec)

/-- 'laws.FnExactMergeCases', WHERE WHAT IT READS IS OF BULK AT MOST 1048576: true; the input reads as it did. -/
def fnExactMergeCasesUptoRow : OpenClaim := { program := "ytlcekocbaffnnaadoor", sum := "cc3b353f81930e776d90d5282da6e38478199549b7c3c8d105b1ad514cbc0010", func := "loop.example/keyswitches/laws.FnExactMergeCases", spec := "fnExactMergeCases", unfollowed := true, recurses := true, named := ["loop.example/keyswitches/impl.errNoTarget"], ifaces := true, apart := false, laid := [("loop.example/keyswitches/impl.errNoTarget", laid_loop_example_keyswitches_impl_errNoTarget)], narrowed := true }
def FnExactMergeCasesUptoSaid : Prop := fnExactMergeCasesUptoRow.holds Tryd.pinned (OpenSpec.upto fnExactMergeCasesSpec)

/-- 'laws.FnExactSameTargets', WHERE WHAT IT READS IS OF BULK AT MOST 1048576: true; the input reads as it did. -/
def fnExactSameTargetsUptoRow : OpenClaim := { program := "ytlcekocbaffnnaadoor", sum := "cc3b353f81930e776d90d5282da6e38478199549b7c3c8d105b1ad514cbc0010", func := "loop.example/keyswitches/laws.FnExactSameTargets", spec := "fnExactSameTargets", unfollowed := true, recurses := true, named := ["loop.example/keyswitches/impl.errNoTarget"], ifaces := true, apart := false, laid := [("loop.example/keyswitches/impl.errNoTarget", laid_loop_example_keyswitches_impl_errNoTarget)], narrowed := true }
def FnExactSameTargetsUptoSaid : Prop := fnExactSameTargetsUptoRow.holds Tryd.pinned (OpenSpec.upto fnExactSameTargetsSpec)

/-- 'laws.FnExactFirstOther', WHERE WHAT IT READS IS OF BULK AT MOST 1048576: true; the input reads as it did. -/
def fnExactFirstOtherUptoRow : OpenClaim := { program := "ytlcekocbaffnnaadoor", sum := "cc3b353f81930e776d90d5282da6e38478199549b7c3c8d105b1ad514cbc0010", func := "loop.example/keyswitches/laws.FnExactFirstOther", spec := "fnExactFirstOther", unfollowed := true, recurses := true, named := ["loop.example/keyswitches/impl.errNoTarget"], ifaces := true, apart := false, laid := [("loop.example/keyswitches/impl.errNoTarget", laid_loop_example_keyswitches_impl_errNoTarget)], narrowed := true }
def FnExactFirstOtherUptoSaid : Prop := fnExactFirstOtherUptoRow.holds Tryd.pinned (OpenSpec.upto fnExactFirstOtherSpec)

/-- 'laws.FnExactIsComplete', WHERE WHAT IT READS IS OF BULK AT MOST 1048576: true; the input reads as it did. -/
def fnExactIsCompleteUptoRow : OpenClaim := { program := "ytlcekocbaffnnaadoor", sum := "cc3b353f81930e776d90d5282da6e38478199549b7c3c8d105b1ad514cbc0010", func := "loop.example/keyswitches/laws.FnExactIsComplete", spec := "fnExactIsComplete", unfollowed := true, recurses := true, named := ["loop.example/keyswitches/impl.errNoTarget"], ifaces := true, apart := false, laid := [("loop.example/keyswitches/impl.errNoTarget", laid_loop_example_keyswitches_impl_errNoTarget)], narrowed := true }
def FnExactIsCompleteUptoSaid : Prop := fnExactIsCompleteUptoRow.holds Tryd.pinned (OpenSpec.upto fnExactIsCompleteSpec)

/-- 'laws.FnExactBordersOf', WHERE WHAT IT READS IS OF BULK AT MOST 1048576: true; the input reads as it did. -/
def fnExactBordersOfUptoRow : OpenClaim := { program := "ytlcekocbaffnnaadoor", sum := "cc3b353f81930e776d90d5282da6e38478199549b7c3c8d105b1ad514cbc0010", func := "loop.example/keyswitches/laws.FnExactBordersOf", spec := "fnExactBordersOf", unfollowed := true, recurses := true, named := ["loop.example/keyswitches/impl.errNoTarget"], ifaces := true, apart := false, laid := [("loop.example/keyswitches/impl.errNoTarget", laid_loop_example_keyswitches_impl_errNoTarget)], narrowed := true }
def FnExactBordersOfUptoSaid : Prop := fnExactBordersOfUptoRow.holds Tryd.pinned (OpenSpec.upto fnExactBordersOfSpec)

/-- 'laws.FnExactCountGaps', WHERE WHAT IT READS IS OF BULK AT MOST 1048576: true; the input reads as it did. -/
def fnExactCountGapsUptoRow : OpenClaim := { program := "ytlcekocbaffnnaadoor", sum := "cc3b353f81930e776d90d5282da6e38478199549b7c3c8d105b1ad514cbc0010", func := "loop.example/keyswitches/laws.FnExactCountGaps", spec := "fnExactCountGaps", unfollowed := true, recurses := true, named := ["loop.example/keyswitches/impl.errNoTarget"], ifaces := true, apart := false, laid := [("loop.example/keyswitches/impl.errNoTarget", laid_loop_example_keyswitches_impl_errNoTarget)], narrowed := true }
def FnExactCountGapsUptoSaid : Prop := fnExactCountGapsUptoRow.holds Tryd.pinned (OpenSpec.upto fnExactCountGapsSpec)

end Rows
end Go.Proofs.YtlcekocbaffnnaaDoor
