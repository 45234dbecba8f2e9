/-
  NARROWER THAN 'FOR EVERY INPUT', by the rows' own cells (each row's printed sentence says how): FnExactPriceOf: ifaces, laid · FnExactBestKind: ifaces, laid · FnExactPlanValid: ifaces, laid · FnExactPlanPrice: ifaces, laid · FnExactBestPlan: ifaces, laid · FnExactLeastPrice: ifaces, laid · FnExactFormatPlan: laid · FnExactFormatSwitch: ifaces, laid · FnExactFormatSegments: laid.
  DERIVED. THE GIVEN ROWS OF THIS SEAT. 9 by the template 'for every input the law returns true; each argument reads behind the call as it read before'; 0 by the template 'total and deterministic' (their statements: YtjpcpiffffobcaaDoorTotals.lean).
  GIVEN WITH THE SEED: the statements are not yours to turn. If you find one false, say at which input.
  Laid BY PROGRAM, IN A SANDBOX (cutbox-rows.mjs): the forced cells as the released guide's own fill.sh prints them over the translation 94935185bb9a135b… (all of the seat's roots in one cut). By AI agents, Wed Nov 11 2026. No macro, syntax, notation, axiom, sorry.
-/
import Derived.Test.YtjpcpiffffobcaaDoorChecked
import GoSem.Claim
import GoSem.ClaimJoined
import GoSem.ClaimMapViews
import Derived.JoinedTies
import Derived.KernelRfl
namespace Go.Proofs.YtjpcpiffffobcaaDoor
/- THE CELL 'sum', in the pinned program and in every row, IS THE sha256 OF THE DUMP (.gsa) THAT YtjpcpiffffobcaaDoorProg.lean LOADS. Nothing in Lean hashes anything: it is a label: what it is worth is what the hold of that sum in a sandbox is worth. -/
noncomputable def Tryd.pinned : Pinned := { name := "ytjpcpiffffobcaadoor", sum := "94935185bb9a135b7875cebad0cd6985ab6bd4ef8f7c6d546587c1c968e7ed44", checked := Tryd.checked }
namespace Rows
def none {H : Type} : Left H := { results := [], args := [] }

/- WHAT THE LISTED PACKAGE-LEVEL VARIABLES READ AS WHEN THE CALL BEGINS. Each datum BY PROGRAM (the guide's laid-datum.mjs) off the statement by which the dump's own 'gosem.cut.vars' lays the variable. In a bare row this is a premise. The card (YtjpcpiffffobcaaDoorCards.lean) ties it to the program's text. -/
def laid_loop_example_keyswitches_impl_errNoTarget {H : Type} : DataW H := .iface "*errors.errorString" (.ptr (.agg [.lit (.string [110, 111, 32, 116, 97, 114, 103, 101, 116])]))
def laid_math_bits_deBruijn32tab {H : Type} : DataW H := .agg [.lit (.int .u8 0), .lit (.int .u8 1), .lit (.int .u8 28), .lit (.int .u8 2), .lit (.int .u8 29), .lit (.int .u8 14), .lit (.int .u8 24), .lit (.int .u8 3), .lit (.int .u8 30), .lit (.int .u8 22), .lit (.int .u8 20), .lit (.int .u8 15), .lit (.int .u8 25), .lit (.int .u8 17), .lit (.int .u8 4), .lit (.int .u8 8), .lit (.int .u8 31), .lit (.int .u8 27), .lit (.int .u8 13), .lit (.int .u8 23), .lit (.int .u8 21), .lit (.int .u8 19), .lit (.int .u8 16), .lit (.int .u8 7), .lit (.int .u8 26), .lit (.int .u8 12), .lit (.int .u8 18), .lit (.int .u8 6), .lit (.int .u8 11), .lit (.int .u8 5), .lit (.int .u8 10), .lit (.int .u8 9)]
def laid_math_bits_deBruijn64tab {H : Type} : DataW H := .agg [.lit (.int .u8 0), .lit (.int .u8 1), .lit (.int .u8 56), .lit (.int .u8 2), .lit (.int .u8 57), .lit (.int .u8 49), .lit (.int .u8 28), .lit (.int .u8 3), .lit (.int .u8 61), .lit (.int .u8 58), .lit (.int .u8 42), .lit (.int .u8 50), .lit (.int .u8 38), .lit (.int .u8 29), .lit (.int .u8 17), .lit (.int .u8 4), .lit (.int .u8 62), .lit (.int .u8 47), .lit (.int .u8 59), .lit (.int .u8 36), .lit (.int .u8 45), .lit (.int .u8 43), .lit (.int .u8 51), .lit (.int .u8 22), .lit (.int .u8 53), .lit (.int .u8 39), .lit (.int .u8 33), .lit (.int .u8 30), .lit (.int .u8 24), .lit (.int .u8 18), .lit (.int .u8 12), .lit (.int .u8 5), .lit (.int .u8 63), .lit (.int .u8 55), .lit (.int .u8 48), .lit (.int .u8 27), .lit (.int .u8 60), .lit (.int .u8 41), .lit (.int .u8 37), .lit (.int .u8 16), .lit (.int .u8 46), .lit (.int .u8 35), .lit (.int .u8 44), .lit (.int .u8 21), .lit (.int .u8 52), .lit (.int .u8 32), .lit (.int .u8 23), .lit (.int .u8 11), .lit (.int .u8 54), .lit (.int .u8 26), .lit (.int .u8 40), .lit (.int .u8 15), .lit (.int .u8 34), .lit (.int .u8 20), .lit (.int .u8 31), .lit (.int .u8 10), .lit (.int .u8 25), .lit (.int .u8 14), .lit (.int .u8 19), .lit (.int .u8 9), .lit (.int .u8 13), .lit (.int .u8 8), .lit (.int .u8 7), .lit (.int .u8 6)]
def laid_internal_strconv_uint64pow10 {H : Type} : DataW H := .agg [.lit (.int .u64 1), .lit (.int .u64 10), .lit (.int .u64 100), .lit (.int .u64 1000), .lit (.int .u64 10000), .lit (.int .u64 100000), .lit (.int .u64 1000000), .lit (.int .u64 10000000), .lit (.int .u64 100000000), .lit (.int .u64 1000000000), .lit (.int .u64 10000000000), .lit (.int .u64 100000000000), .lit (.int .u64 1000000000000), .lit (.int .u64 10000000000000), .lit (.int .u64 100000000000000), .lit (.int .u64 1000000000000000), .lit (.int .u64 10000000000000000), .lit (.int .u64 100000000000000000), .lit (.int .u64 1000000000000000000), .lit (.int .u64 10000000000000000000)]

/-- 'laws.FnExactPriceOf': WHATEVER THE INPUT: true; the input reads as it did. -/
def fnExactPriceOfSpec : ChangeSpec := { name := "fnExactPriceOf", vars := ["loop.example/keyswitches/impl.errNoTarget"], fn := fun _ => fun
  | [d1, d2, g1] => { results := [.lit (.bool true)], args := [d1, d2], vars := [g1] }
  | _ => none }
def fnExactPriceOfRow : OpenClaim := { program := "ytjpcpiffffobcaadoor", sum := "94935185bb9a135b7875cebad0cd6985ab6bd4ef8f7c6d546587c1c968e7ed44", func := "loop.example/keyswitches/laws.FnExactPriceOf", spec := "fnExactPriceOf", unfollowed := true, recurses := true, named := ["loop.example/keyswitches/impl.errNoTarget"], ifaces := true, apart := false, laid := [("loop.example/keyswitches/impl.errNoTarget", laid_loop_example_keyswitches_impl_errNoTarget)] }
def FnExactPriceOfSaid : Prop := fnExactPriceOfRow.holds Tryd.pinned (OpenSpec.ofChange fnExactPriceOfSpec)

/-- ITS FALSE NEIGHBOUR: 'it returns false'. Refute it at one input. -/
def fnExactPriceOfWrong : ChangeSpec := { name := "fnExactPriceOf", vars := ["loop.example/keyswitches/impl.errNoTarget"], fn := fun _ => fun
  | [d1, d2, g1] => { results := [.lit (.bool false)], args := [d1, d2], vars := [g1] }
  | _ => none }
def FnExactPriceOfWrongFalsely : Prop := fnExactPriceOfRow.holds Tryd.pinned (OpenSpec.ofChange fnExactPriceOfWrong)

/-- 'laws.FnExactBestKind': WHATEVER THE INPUT: true; the input reads as it did. -/
def fnExactBestKindSpec : ChangeSpec := { name := "fnExactBestKind", vars := ["loop.example/keyswitches/impl.errNoTarget"], fn := fun _ => fun
  | [d1, d2, d3, g1] => { results := [.lit (.bool true)], args := [d1, d2, d3], vars := [g1] }
  | _ => none }
def fnExactBestKindRow : OpenClaim := { program := "ytjpcpiffffobcaadoor", sum := "94935185bb9a135b7875cebad0cd6985ab6bd4ef8f7c6d546587c1c968e7ed44", func := "loop.example/keyswitches/laws.FnExactBestKind", spec := "fnExactBestKind", unfollowed := true, recurses := true, named := ["loop.example/keyswitches/impl.errNoTarget"], ifaces := true, apart := false, laid := [("loop.example/keyswitches/impl.errNoTarget", laid_loop_example_keyswitches_impl_errNoTarget)] }
def FnExactBestKindSaid : Prop := fnExactBestKindRow.holds Tryd.pinned (OpenSpec.ofChange fnExactBestKindSpec)

/-- ITS FALSE NEIGHBOUR: 'it returns false'. Refute it at one input. -/
def fnExactBestKindWrong : ChangeSpec := { name := "fnExactBestKind", vars := ["loop.example/keyswitches/impl.errNoTarget"], fn := fun _ => fun
  | [d1, d2, d3, g1] => { results := [.lit (.bool false)], args := [d1, d2, d3], vars := [g1] }
  | _ => none }
def FnExactBestKindWrongFalsely : Prop := fnExactBestKindRow.holds Tryd.pinned (OpenSpec.ofChange fnExactBestKindWrong)

/-- 'laws.FnExactPlanValid': WHATEVER THE INPUT: true; the input reads as it did. -/
def fnExactPlanValidSpec : ChangeSpec := { name := "fnExactPlanValid", vars := ["loop.example/keyswitches/impl.errNoTarget"], fn := fun _ => fun
  | [d1, d2, g1] => { results := [.lit (.bool true)], args := [d1, d2], vars := [g1] }
  | _ => none }
def fnExactPlanValidRow : OpenClaim := { program := "ytjpcpiffffobcaadoor", sum := "94935185bb9a135b7875cebad0cd6985ab6bd4ef8f7c6d546587c1c968e7ed44", func := "loop.example/keyswitches/laws.FnExactPlanValid", spec := "fnExactPlanValid", unfollowed := true, recurses := true, named := ["loop.example/keyswitches/impl.errNoTarget"], ifaces := true, apart := false, laid := [("loop.example/keyswitches/impl.errNoTarget", laid_loop_example_keyswitches_impl_errNoTarget)] }
def FnExactPlanValidSaid : Prop := fnExactPlanValidRow.holds Tryd.pinned (OpenSpec.ofChange fnExactPlanValidSpec)

/-- ITS FALSE NEIGHBOUR: 'it returns false'. Refute it at one input. -/
def fnExactPlanValidWrong : ChangeSpec := { name := "fnExactPlanValid", vars := ["loop.example/keyswitches/impl.errNoTarget"], fn := fun _ => fun
  | [d1, d2, g1] => { results := [.lit (.bool false)], args := [d1, d2], vars := [g1] }
  | _ => none }
def FnExactPlanValidWrongFalsely : Prop := fnExactPlanValidRow.holds Tryd.pinned (OpenSpec.ofChange fnExactPlanValidWrong)

/-- 'laws.FnExactPlanPrice': WHATEVER THE INPUT: true; the input reads as it did. -/
def fnExactPlanPriceSpec : ChangeSpec := { name := "fnExactPlanPrice", vars := ["loop.example/keyswitches/impl.errNoTarget"], fn := fun _ => fun
  | [d1, d2, g1] => { results := [.lit (.bool true)], args := [d1, d2], vars := [g1] }
  | _ => none }
def fnExactPlanPriceRow : OpenClaim := { program := "ytjpcpiffffobcaadoor", sum := "94935185bb9a135b7875cebad0cd6985ab6bd4ef8f7c6d546587c1c968e7ed44", func := "loop.example/keyswitches/laws.FnExactPlanPrice", spec := "fnExactPlanPrice", unfollowed := true, recurses := true, named := ["loop.example/keyswitches/impl.errNoTarget"], ifaces := true, apart := false, laid := [("loop.example/keyswitches/impl.errNoTarget", laid_loop_example_keyswitches_impl_errNoTarget)] }
def FnExactPlanPriceSaid : Prop := fnExactPlanPriceRow.holds Tryd.pinned (OpenSpec.ofChange fnExactPlanPriceSpec)

/-- ITS FALSE NEIGHBOUR: 'it returns false'. Refute it at one input. -/
def fnExactPlanPriceWrong : ChangeSpec := { name := "fnExactPlanPrice", vars := ["loop.example/keyswitches/impl.errNoTarget"], fn := fun _ => fun
  | [d1, d2, g1] => { results := [.lit (.bool false)], args := [d1, d2], vars := [g1] }
  | _ => none }
def FnExactPlanPriceWrongFalsely : Prop := fnExactPlanPriceRow.holds Tryd.pinned (OpenSpec.ofChange fnExactPlanPriceWrong)

/-- 'laws.FnExactBestPlan': WHATEVER THE INPUT: true; the input reads as it did. -/
def fnExactBestPlanSpec : ChangeSpec := { name := "fnExactBestPlan", vars := ["loop.example/keyswitches/impl.errNoTarget"], fn := fun _ => fun
  | [d, g1] => { results := [.lit (.bool true)], args := [d], vars := [g1] }
  | _ => none }
def fnExactBestPlanRow : OpenClaim := { program := "ytjpcpiffffobcaadoor", sum := "94935185bb9a135b7875cebad0cd6985ab6bd4ef8f7c6d546587c1c968e7ed44", func := "loop.example/keyswitches/laws.FnExactBestPlan", spec := "fnExactBestPlan", unfollowed := true, recurses := true, named := ["loop.example/keyswitches/impl.errNoTarget"], ifaces := true, apart := false, laid := [("loop.example/keyswitches/impl.errNoTarget", laid_loop_example_keyswitches_impl_errNoTarget)] }
def FnExactBestPlanSaid : Prop := fnExactBestPlanRow.holds Tryd.pinned (OpenSpec.ofChange fnExactBestPlanSpec)

/-- ITS FALSE NEIGHBOUR: 'it returns false'. Refute it at one input. -/
def fnExactBestPlanWrong : ChangeSpec := { name := "fnExactBestPlan", vars := ["loop.example/keyswitches/impl.errNoTarget"], fn := fun _ => fun
  | [d, g1] => { results := [.lit (.bool false)], args := [d], vars := [g1] }
  | _ => none }
def FnExactBestPlanWrongFalsely : Prop := fnExactBestPlanRow.holds Tryd.pinned (OpenSpec.ofChange fnExactBestPlanWrong)

/-- 'laws.FnExactLeastPrice': WHATEVER THE INPUT: true; the input reads as it did. -/
def fnExactLeastPriceSpec : ChangeSpec := { name := "fnExactLeastPrice", vars := ["loop.example/keyswitches/impl.errNoTarget"], fn := fun _ => fun
  | [d, g1] => { results := [.lit (.bool true)], args := [d], vars := [g1] }
  | _ => none }
def fnExactLeastPriceRow : OpenClaim := { program := "ytjpcpiffffobcaadoor", sum := "94935185bb9a135b7875cebad0cd6985ab6bd4ef8f7c6d546587c1c968e7ed44", func := "loop.example/keyswitches/laws.FnExactLeastPrice", spec := "fnExactLeastPrice", unfollowed := true, recurses := true, named := ["loop.example/keyswitches/impl.errNoTarget"], ifaces := true, apart := false, laid := [("loop.example/keyswitches/impl.errNoTarget", laid_loop_example_keyswitches_impl_errNoTarget)] }
def FnExactLeastPriceSaid : Prop := fnExactLeastPriceRow.holds Tryd.pinned (OpenSpec.ofChange fnExactLeastPriceSpec)

/-- ITS FALSE NEIGHBOUR: 'it returns false'. Refute it at one input. -/
def fnExactLeastPriceWrong : ChangeSpec := { name := "fnExactLeastPrice", vars := ["loop.example/keyswitches/impl.errNoTarget"], fn := fun _ => fun
  | [d, g1] => { results := [.lit (.bool false)], args := [d], vars := [g1] }
  | _ => none }
def FnExactLeastPriceWrongFalsely : Prop := fnExactLeastPriceRow.holds Tryd.pinned (OpenSpec.ofChange fnExactLeastPriceWrong)

/-- 'laws.FnExactFormatPlan': WHATEVER THE INPUT: true; the input reads as it did. -/
def fnExactFormatPlanSpec : ChangeSpec := { name := "fnExactFormatPlan", fn := fun _ => fun
  | [d] => { results := [.lit (.bool true)], args := [d] }
  | _ => none }
def fnExactFormatPlanRow : OpenClaim := { program := "ytjpcpiffffobcaadoor", sum := "94935185bb9a135b7875cebad0cd6985ab6bd4ef8f7c6d546587c1c968e7ed44", func := "loop.example/keyswitches/laws.FnExactFormatPlan", spec := "fnExactFormatPlan", inPlace := ["internal/abi.NoEscape", "internal/bytealg.MakeNoZero"], recurses := true, named := ["internal/strconv.uint64pow10", "math/bits.deBruijn32tab", "math/bits.deBruijn64tab"], apart := false, laid := [("math/bits.deBruijn32tab", laid_math_bits_deBruijn32tab), ("math/bits.deBruijn64tab", laid_math_bits_deBruijn64tab), ("internal/strconv.uint64pow10", laid_internal_strconv_uint64pow10)] }
def FnExactFormatPlanSaid : Prop := fnExactFormatPlanRow.holds Tryd.pinned (OpenSpec.ofChange fnExactFormatPlanSpec)

/-- ITS FALSE NEIGHBOUR: 'it returns false'. Refute it at one input. -/
def fnExactFormatPlanWrong : ChangeSpec := { name := "fnExactFormatPlan", fn := fun _ => fun
  | [d] => { results := [.lit (.bool false)], args := [d] }
  | _ => none }
def FnExactFormatPlanWrongFalsely : Prop := fnExactFormatPlanRow.holds Tryd.pinned (OpenSpec.ofChange fnExactFormatPlanWrong)

/-- 'laws.FnExactFormatSwitch': WHATEVER THE INPUT: true; the input reads as it did. -/
def fnExactFormatSwitchSpec : ChangeSpec := { name := "fnExactFormatSwitch", vars := ["loop.example/keyswitches/impl.errNoTarget"], fn := fun _ => fun
  | [d, g1] => { results := [.lit (.bool true)], args := [d], vars := [g1] }
  | _ => none }
def fnExactFormatSwitchRow : OpenClaim := { program := "ytjpcpiffffobcaadoor", sum := "94935185bb9a135b7875cebad0cd6985ab6bd4ef8f7c6d546587c1c968e7ed44", func := "loop.example/keyswitches/laws.FnExactFormatSwitch", spec := "fnExactFormatSwitch", inPlace := ["internal/abi.NoEscape", "internal/bytealg.MakeNoZero"], unfollowed := true, recurses := true, named := ["loop.example/keyswitches/impl.errNoTarget", "internal/strconv.uint64pow10", "math/bits.deBruijn32tab", "math/bits.deBruijn64tab"], ifaces := true, apart := false, laid := [("math/bits.deBruijn32tab", laid_math_bits_deBruijn32tab), ("math/bits.deBruijn64tab", laid_math_bits_deBruijn64tab), ("internal/strconv.uint64pow10", laid_internal_strconv_uint64pow10), ("loop.example/keyswitches/impl.errNoTarget", laid_loop_example_keyswitches_impl_errNoTarget)] }
def FnExactFormatSwitchSaid : Prop := fnExactFormatSwitchRow.holds Tryd.pinned (OpenSpec.ofChange fnExactFormatSwitchSpec)

/-- ITS FALSE NEIGHBOUR: 'it returns false'. Refute it at one input. -/
def fnExactFormatSwitchWrong : ChangeSpec := { name := "fnExactFormatSwitch", vars := ["loop.example/keyswitches/impl.errNoTarget"], fn := fun _ => fun
  | [d, g1] => { results := [.lit (.bool false)], args := [d], vars := [g1] }
  | _ => none }
def FnExactFormatSwitchWrongFalsely : Prop := fnExactFormatSwitchRow.holds Tryd.pinned (OpenSpec.ofChange fnExactFormatSwitchWrong)

/-- 'laws.FnExactFormatSegments': WHATEVER THE INPUT: true; the input reads as it did. -/
def fnExactFormatSegmentsSpec : ChangeSpec := { name := "fnExactFormatSegments", fn := fun _ => fun
  | [d] => { results := [.lit (.bool true)], args := [d] }
  | _ => none }
def fnExactFormatSegmentsRow : OpenClaim := { program := "ytjpcpiffffobcaadoor", sum := "94935185bb9a135b7875cebad0cd6985ab6bd4ef8f7c6d546587c1c968e7ed44", func := "loop.example/keyswitches/laws.FnExactFormatSegments", spec := "fnExactFormatSegments", inPlace := ["internal/abi.NoEscape", "internal/bytealg.MakeNoZero"], recurses := true, named := ["internal/strconv.uint64pow10", "math/bits.deBruijn32tab", "math/bits.deBruijn64tab"], apart := false, laid := [("math/bits.deBruijn32tab", laid_math_bits_deBruijn32tab), ("math/bits.deBruijn64tab", laid_math_bits_deBruijn64tab), ("internal/strconv.uint64pow10", laid_internal_strconv_uint64pow10)] }
def FnExactFormatSegmentsSaid : Prop := fnExactFormatSegmentsRow.holds Tryd.pinned (OpenSpec.ofChange fnExactFormatSegmentsSpec)

/-- ITS FALSE NEIGHBOUR: 'it returns false'. Refute it at one input. -/
def fnExactFormatSegmentsWrong : ChangeSpec := { name := "fnExactFormatSegments", fn := fun _ => fun
  | [d] => { results := [.lit (.bool false)], args := [d] }
  | _ => none }
def FnExactFormatSegmentsWrongFalsely : Prop := fnExactFormatSegmentsRow.holds Tryd.pinned (OpenSpec.ofChange fnExactFormatSegmentsWrong)

/- THE SECOND FORM. 'bulk': how many values and letters a reading holds, each counted each time it is reached (what is shared counts as often as it is met; a slice's spare places count too). A statement '..UptoSaid' is the law's where the arguments, and the package variables that the reading takes, are together of bulk at most 1048576: NARROWER than '..Said'. Prove '..Said' where nothing that the law and all that it calls make is longer than what came in: it says more and counts as full. Else prove '..UptoSaid'. A law counts once. -/
mutual
def uptoBulk {H : Type} : DataW H → Nat
  | .lit (.string bytes) => bytes.length + 1
  | .lit _ => 1
  | .nil => 1
  | .ptr d => uptoBulk d + 1
  | .slice elems spare => uptoBulkAll elems + uptoBulkAll spare + 1
  | .agg parts => uptoBulkAll parts + 1
  | .iface _ d => uptoBulk d + 1
  | .map entries => uptoBulkEntries entries + 1
  | .held _ => 1
def uptoBulkAll {H : Type} : List (DataW H) → Nat
  | [] => 0
  | d :: r => uptoBulk d + uptoBulkAll r
def uptoBulkEntries {H : Type} : List (Lit × DataW H) → Nat
  | [] => 0
  | x :: r => uptoBulkEntry x + uptoBulkEntries r
def uptoBulkEntry {H : Type} : Lit × DataW H → Nat
  | (.string bytes, d) => bytes.length + uptoBulk d + 1
  | (_, d) => uptoBulk d + 1
 end
def uptoSmall : (H : Type) → List (DataW H) → Bool := fun _ ds => decide (uptoBulkAll ds ≤ 1048576)
def OpenSpec.upto (s : _root_.Go.ChangeSpec) : _root_.Go.OpenSpec := { _root_.Go.OpenSpec.ofChange s with cond := some uptoSmall }

/-- 'laws.FnExactPriceOf', WHERE WHAT IT READS IS OF BULK AT MOST 1048576: true; the input reads as it did. -/
def fnExactPriceOfUptoRow : OpenClaim := { program := "ytjpcpiffffobcaadoor", sum := "94935185bb9a135b7875cebad0cd6985ab6bd4ef8f7c6d546587c1c968e7ed44", func := "loop.example/keyswitches/laws.FnExactPriceOf", spec := "fnExactPriceOf", unfollowed := true, recurses := true, named := ["loop.example/keyswitches/impl.errNoTarget"], ifaces := true, apart := false, laid := [("loop.example/keyswitches/impl.errNoTarget", laid_loop_example_keyswitches_impl_errNoTarget)], narrowed := true }
def FnExactPriceOfUptoSaid : Prop := fnExactPriceOfUptoRow.holds Tryd.pinned (OpenSpec.upto fnExactPriceOfSpec)

/-- 'laws.FnExactBestKind', WHERE WHAT IT READS IS OF BULK AT MOST 1048576: true; the input reads as it did. -/
def fnExactBestKindUptoRow : OpenClaim := { program := "ytjpcpiffffobcaadoor", sum := "94935185bb9a135b7875cebad0cd6985ab6bd4ef8f7c6d546587c1c968e7ed44", func := "loop.example/keyswitches/laws.FnExactBestKind", spec := "fnExactBestKind", unfollowed := true, recurses := true, named := ["loop.example/keyswitches/impl.errNoTarget"], ifaces := true, apart := false, laid := [("loop.example/keyswitches/impl.errNoTarget", laid_loop_example_keyswitches_impl_errNoTarget)], narrowed := true }
def FnExactBestKindUptoSaid : Prop := fnExactBestKindUptoRow.holds Tryd.pinned (OpenSpec.upto fnExactBestKindSpec)

/-- 'laws.FnExactPlanValid', WHERE WHAT IT READS IS OF BULK AT MOST 1048576: true; the input reads as it did. -/
def fnExactPlanValidUptoRow : OpenClaim := { program := "ytjpcpiffffobcaadoor", sum := "94935185bb9a135b7875cebad0cd6985ab6bd4ef8f7c6d546587c1c968e7ed44", func := "loop.example/keyswitches/laws.FnExactPlanValid", spec := "fnExactPlanValid", unfollowed := true, recurses := true, named := ["loop.example/keyswitches/impl.errNoTarget"], ifaces := true, apart := false, laid := [("loop.example/keyswitches/impl.errNoTarget", laid_loop_example_keyswitches_impl_errNoTarget)], narrowed := true }
def FnExactPlanValidUptoSaid : Prop := fnExactPlanValidUptoRow.holds Tryd.pinned (OpenSpec.upto fnExactPlanValidSpec)

/-- 'laws.FnExactPlanPrice', WHERE WHAT IT READS IS OF BULK AT MOST 1048576: true; the input reads as it did. -/
def fnExactPlanPriceUptoRow : OpenClaim := { program := "ytjpcpiffffobcaadoor", sum := "94935185bb9a135b7875cebad0cd6985ab6bd4ef8f7c6d546587c1c968e7ed44", func := "loop.example/keyswitches/laws.FnExactPlanPrice", spec := "fnExactPlanPrice", unfollowed := true, recurses := true, named := ["loop.example/keyswitches/impl.errNoTarget"], ifaces := true, apart := false, laid := [("loop.example/keyswitches/impl.errNoTarget", laid_loop_example_keyswitches_impl_errNoTarget)], narrowed := true }
def FnExactPlanPriceUptoSaid : Prop := fnExactPlanPriceUptoRow.holds Tryd.pinned (OpenSpec.upto fnExactPlanPriceSpec)

/-- 'laws.FnExactBestPlan', WHERE WHAT IT READS IS OF BULK AT MOST 1048576: true; the input reads as it did. -/
def fnExactBestPlanUptoRow : OpenClaim := { program := "ytjpcpiffffobcaadoor", sum := "94935185bb9a135b7875cebad0cd6985ab6bd4ef8f7c6d546587c1c968e7ed44", func := "loop.example/keyswitches/laws.FnExactBestPlan", spec := "fnExactBestPlan", unfollowed := true, recurses := true, named := ["loop.example/keyswitches/impl.errNoTarget"], ifaces := true, apart := false, laid := [("loop.example/keyswitches/impl.errNoTarget", laid_loop_example_keyswitches_impl_errNoTarget)], narrowed := true }
def FnExactBestPlanUptoSaid : Prop := fnExactBestPlanUptoRow.holds Tryd.pinned (OpenSpec.upto fnExactBestPlanSpec)

/-- 'laws.FnExactLeastPrice', WHERE WHAT IT READS IS OF BULK AT MOST 1048576: true; the input reads as it did. -/
def fnExactLeastPriceUptoRow : OpenClaim := { program := "ytjpcpiffffobcaadoor", sum := "94935185bb9a135b7875cebad0cd6985ab6bd4ef8f7c6d546587c1c968e7ed44", func := "loop.example/keyswitches/laws.FnExactLeastPrice", spec := "fnExactLeastPrice", unfollowed := true, recurses := true, named := ["loop.example/keyswitches/impl.errNoTarget"], ifaces := true, apart := false, laid := [("loop.example/keyswitches/impl.errNoTarget", laid_loop_example_keyswitches_impl_errNoTarget)], narrowed := true }
def FnExactLeastPriceUptoSaid : Prop := fnExactLeastPriceUptoRow.holds Tryd.pinned (OpenSpec.upto fnExactLeastPriceSpec)

/-- 'laws.FnExactFormatPlan', WHERE WHAT IT READS IS OF BULK AT MOST 1048576: true; the input reads as it did. -/
def fnExactFormatPlanUptoRow : OpenClaim := { program := "ytjpcpiffffobcaadoor", sum := "94935185bb9a135b7875cebad0cd6985ab6bd4ef8f7c6d546587c1c968e7ed44", func := "loop.example/keyswitches/laws.FnExactFormatPlan", spec := "fnExactFormatPlan", inPlace := ["internal/abi.NoEscape", "internal/bytealg.MakeNoZero"], recurses := true, named := ["internal/strconv.uint64pow10", "math/bits.deBruijn32tab", "math/bits.deBruijn64tab"], apart := false, laid := [("math/bits.deBruijn32tab", laid_math_bits_deBruijn32tab), ("math/bits.deBruijn64tab", laid_math_bits_deBruijn64tab), ("internal/strconv.uint64pow10", laid_internal_strconv_uint64pow10)], narrowed := true }
def FnExactFormatPlanUptoSaid : Prop := fnExactFormatPlanUptoRow.holds Tryd.pinned (OpenSpec.upto fnExactFormatPlanSpec)

/-- 'laws.FnExactFormatSwitch', WHERE WHAT IT READS IS OF BULK AT MOST 1048576: true; the input reads as it did. -/
def fnExactFormatSwitchUptoRow : OpenClaim := { program := "ytjpcpiffffobcaadoor", sum := "94935185bb9a135b7875cebad0cd6985ab6bd4ef8f7c6d546587c1c968e7ed44", func := "loop.example/keyswitches/laws.FnExactFormatSwitch", spec := "fnExactFormatSwitch", inPlace := ["internal/abi.NoEscape", "internal/bytealg.MakeNoZero"], unfollowed := true, recurses := true, named := ["loop.example/keyswitches/impl.errNoTarget", "internal/strconv.uint64pow10", "math/bits.deBruijn32tab", "math/bits.deBruijn64tab"], ifaces := true, apart := false, laid := [("math/bits.deBruijn32tab", laid_math_bits_deBruijn32tab), ("math/bits.deBruijn64tab", laid_math_bits_deBruijn64tab), ("internal/strconv.uint64pow10", laid_internal_strconv_uint64pow10), ("loop.example/keyswitches/impl.errNoTarget", laid_loop_example_keyswitches_impl_errNoTarget)], narrowed := true }
def FnExactFormatSwitchUptoSaid : Prop := fnExactFormatSwitchUptoRow.holds Tryd.pinned (OpenSpec.upto fnExactFormatSwitchSpec)

/-- 'laws.FnExactFormatSegments', WHERE WHAT IT READS IS OF BULK AT MOST 1048576: true; the input reads as it did. -/
def fnExactFormatSegmentsUptoRow : OpenClaim := { program := "ytjpcpiffffobcaadoor", sum := "94935185bb9a135b7875cebad0cd6985ab6bd4ef8f7c6d546587c1c968e7ed44", func := "loop.example/keyswitches/laws.FnExactFormatSegments", spec := "fnExactFormatSegments", inPlace := ["internal/abi.NoEscape", "internal/bytealg.MakeNoZero"], recurses := true, named := ["internal/strconv.uint64pow10", "math/bits.deBruijn32tab", "math/bits.deBruijn64tab"], apart := false, laid := [("math/bits.deBruijn32tab", laid_math_bits_deBruijn32tab), ("math/bits.deBruijn64tab", laid_math_bits_deBruijn64tab), ("internal/strconv.uint64pow10", laid_internal_strconv_uint64pow10)], narrowed := true }
def FnExactFormatSegmentsUptoSaid : Prop := fnExactFormatSegmentsUptoRow.holds Tryd.pinned (OpenSpec.upto fnExactFormatSegmentsSpec)

end Rows
end Go.Proofs.YtjpcpiffffobcaaDoor
