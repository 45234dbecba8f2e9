/-
  NARROWER THAN 'FOR EVERY INPUT', by the rows' own cells (each row's printed sentence says how): FnTargetOf: ifaces, laid · FnExactSwitchValid: ifaces, laid · FnExactFormatSwitch: ifaces, laid · FnExactTargetOf: ifaces, laid · FnExactCaseOf: ifaces, laid · FnExactTargetsOf: ifaces, laid · FnExactCountKeys: ifaces, laid · FnExactTotalWeight: ifaces, laid.
  DERIVED. THE GIVEN ROWS OF THIS SEAT. 8 by the template 'for every input the law returns true; each argument reads behind the call as it read before'; 0 by the template 'total and deterministic' (their statements: YtnnhnoamhbjcjaaDoorTotals.lean).
  GIVEN WITH THE SEED: the statements are not yours to turn. If you find one false, say at which input.
  Laid BY PROGRAM, IN A SANDBOX (cutbox-rows.mjs): the forced cells as the released guide's own fill.sh prints them over the translation 0c379d653cf62b10… (all of the seat's roots in one cut). By AI agents, Wed Nov 11 2026. No macro, syntax, notation, axiom, sorry.
-/
import Derived.Test.YtnnhnoamhbjcjaaDoorChecked
import GoSem.Claim
import GoSem.ClaimJoined
import GoSem.ClaimMapViews
import Derived.JoinedTies
import Derived.KernelRfl
namespace Go.Proofs.YtnnhnoamhbjcjaaDoor
/- THE CELL 'sum', in the pinned program and in every row, IS THE sha256 OF THE DUMP (.gsa) THAT YtnnhnoamhbjcjaaDoorProg.lean LOADS. Nothing in Lean hashes anything: it is a label: what it is worth is what the hold of that sum in a sandbox is worth. -/
noncomputable def Tryd.pinned : Pinned := { name := "ytnnhnoamhbjcjaadoor", sum := "0c379d653cf62b1044f3ce0746dae1205bc39a52e5bc1a22bbc7eae16461a077", checked := Tryd.checked }
namespace Rows
def none {H : Type} : Left H := { results := [], args := [] }

/- WHAT THE LISTED PACKAGE-LEVEL VARIABLES READ AS WHEN THE CALL BEGINS. Each datum BY PROGRAM (the guide's laid-datum.mjs) off the statement by which the dump's own 'gosem.cut.vars' lays the variable. In a bare row this is a premise. The card (YtnnhnoamhbjcjaaDoorCards.lean) ties it to the program's text. -/
def laid_loop_example_keyswitches_impl_errNoTarget {H : Type} : DataW H := .iface "*errors.errorString" (.ptr (.agg [.lit (.string [110, 111, 32, 116, 97, 114, 103, 101, 116])]))
def laid_math_bits_deBruijn32tab {H : Type} : DataW H := .agg [.lit (.int .u8 0), .lit (.int .u8 1), .lit (.int .u8 28), .lit (.int .u8 2), .lit (.int .u8 29), .lit (.int .u8 14), .lit (.int .u8 24), .lit (.int .u8 3), .lit (.int .u8 30), .lit (.int .u8 22), .lit (.int .u8 20), .lit (.int .u8 15), .lit (.int .u8 25), .lit (.int .u8 17), .lit (.int .u8 4), .lit (.int .u8 8), .lit (.int .u8 31), .lit (.int .u8 27), .lit (.int .u8 13), .lit (.int .u8 23), .lit (.int .u8 21), .lit (.int .u8 19), .lit (.int .u8 16), .lit (.int .u8 7), .lit (.int .u8 26), .lit (.int .u8 12), .lit (.int .u8 18), .lit (.int .u8 6), .lit (.int .u8 11), .lit (.int .u8 5), .lit (.int .u8 10), .lit (.int .u8 9)]
def laid_math_bits_deBruijn64tab {H : Type} : DataW H := .agg [.lit (.int .u8 0), .lit (.int .u8 1), .lit (.int .u8 56), .lit (.int .u8 2), .lit (.int .u8 57), .lit (.int .u8 49), .lit (.int .u8 28), .lit (.int .u8 3), .lit (.int .u8 61), .lit (.int .u8 58), .lit (.int .u8 42), .lit (.int .u8 50), .lit (.int .u8 38), .lit (.int .u8 29), .lit (.int .u8 17), .lit (.int .u8 4), .lit (.int .u8 62), .lit (.int .u8 47), .lit (.int .u8 59), .lit (.int .u8 36), .lit (.int .u8 45), .lit (.int .u8 43), .lit (.int .u8 51), .lit (.int .u8 22), .lit (.int .u8 53), .lit (.int .u8 39), .lit (.int .u8 33), .lit (.int .u8 30), .lit (.int .u8 24), .lit (.int .u8 18), .lit (.int .u8 12), .lit (.int .u8 5), .lit (.int .u8 63), .lit (.int .u8 55), .lit (.int .u8 48), .lit (.int .u8 27), .lit (.int .u8 60), .lit (.int .u8 41), .lit (.int .u8 37), .lit (.int .u8 16), .lit (.int .u8 46), .lit (.int .u8 35), .lit (.int .u8 44), .lit (.int .u8 21), .lit (.int .u8 52), .lit (.int .u8 32), .lit (.int .u8 23), .lit (.int .u8 11), .lit (.int .u8 54), .lit (.int .u8 26), .lit (.int .u8 40), .lit (.int .u8 15), .lit (.int .u8 34), .lit (.int .u8 20), .lit (.int .u8 31), .lit (.int .u8 10), .lit (.int .u8 25), .lit (.int .u8 14), .lit (.int .u8 19), .lit (.int .u8 9), .lit (.int .u8 13), .lit (.int .u8 8), .lit (.int .u8 7), .lit (.int .u8 6)]
def laid_internal_strconv_uint64pow10 {H : Type} : DataW H := .agg [.lit (.int .u64 1), .lit (.int .u64 10), .lit (.int .u64 100), .lit (.int .u64 1000), .lit (.int .u64 10000), .lit (.int .u64 100000), .lit (.int .u64 1000000), .lit (.int .u64 10000000), .lit (.int .u64 100000000), .lit (.int .u64 1000000000), .lit (.int .u64 10000000000), .lit (.int .u64 100000000000), .lit (.int .u64 1000000000000), .lit (.int .u64 10000000000000), .lit (.int .u64 100000000000000), .lit (.int .u64 1000000000000000), .lit (.int .u64 10000000000000000), .lit (.int .u64 100000000000000000), .lit (.int .u64 1000000000000000000), .lit (.int .u64 10000000000000000000)]

/-- 'laws.FnTargetOf': WHATEVER THE INPUT: true; the input reads as it did. -/
def fnTargetOfSpec : ChangeSpec := { name := "fnTargetOf", vars := ["loop.example/keyswitches/impl.errNoTarget"], fn := fun _ => fun
  | [d, g1] => { results := [.lit (.bool true)], args := [d], vars := [g1] }
  | _ => none }
def fnTargetOfRow : OpenClaim := { program := "ytnnhnoamhbjcjaadoor", sum := "0c379d653cf62b1044f3ce0746dae1205bc39a52e5bc1a22bbc7eae16461a077", func := "loop.example/keyswitches/laws.FnTargetOf", spec := "fnTargetOf", unfollowed := true, recurses := true, named := ["loop.example/keyswitches/impl.errNoTarget"], ifaces := true, apart := false, laid := [("loop.example/keyswitches/impl.errNoTarget", laid_loop_example_keyswitches_impl_errNoTarget)] }
def FnTargetOfSaid : Prop := fnTargetOfRow.holds Tryd.pinned (OpenSpec.ofChange fnTargetOfSpec)

/-- ITS FALSE NEIGHBOUR: 'it returns false'. Refute it at one input. -/
def fnTargetOfWrong : ChangeSpec := { name := "fnTargetOf", vars := ["loop.example/keyswitches/impl.errNoTarget"], fn := fun _ => fun
  | [d, g1] => { results := [.lit (.bool false)], args := [d], vars := [g1] }
  | _ => none }
def FnTargetOfWrongFalsely : Prop := fnTargetOfRow.holds Tryd.pinned (OpenSpec.ofChange fnTargetOfWrong)

/-- 'laws.FnExactSwitchValid': WHATEVER THE INPUT: true; the input reads as it did. -/
def fnExactSwitchValidSpec : ChangeSpec := { name := "fnExactSwitchValid", vars := ["loop.example/keyswitches/impl.errNoTarget"], fn := fun _ => fun
  | [d, g1] => { results := [.lit (.bool true)], args := [d], vars := [g1] }
  | _ => none }
def fnExactSwitchValidRow : OpenClaim := { program := "ytnnhnoamhbjcjaadoor", sum := "0c379d653cf62b1044f3ce0746dae1205bc39a52e5bc1a22bbc7eae16461a077", func := "loop.example/keyswitches/laws.FnExactSwitchValid", spec := "fnExactSwitchValid", unfollowed := true, recurses := true, named := ["loop.example/keyswitches/impl.errNoTarget"], ifaces := true, apart := false, laid := [("loop.example/keyswitches/impl.errNoTarget", laid_loop_example_keyswitches_impl_errNoTarget)] }
def FnExactSwitchValidSaid : Prop := fnExactSwitchValidRow.holds Tryd.pinned (OpenSpec.ofChange fnExactSwitchValidSpec)

/-- ITS FALSE NEIGHBOUR: 'it returns false'. Refute it at one input. -/
def fnExactSwitchValidWrong : ChangeSpec := { name := "fnExactSwitchValid", vars := ["loop.example/keyswitches/impl.errNoTarget"], fn := fun _ => fun
  | [d, g1] => { results := [.lit (.bool false)], args := [d], vars := [g1] }
  | _ => none }
def FnExactSwitchValidWrongFalsely : Prop := fnExactSwitchValidRow.holds Tryd.pinned (OpenSpec.ofChange fnExactSwitchValidWrong)

/-- 'laws.FnExactFormatSwitch': WHATEVER THE INPUT: true; the input reads as it did. -/
def fnExactFormatSwitchSpec : ChangeSpec := { name := "fnExactFormatSwitch", vars := ["loop.example/keyswitches/impl.errNoTarget"], fn := fun _ => fun
  | [d, g1] => { results := [.lit (.bool true)], args := [d], vars := [g1] }
  | _ => none }
def fnExactFormatSwitchRow : OpenClaim := { program := "ytnnhnoamhbjcjaadoor", sum := "0c379d653cf62b1044f3ce0746dae1205bc39a52e5bc1a22bbc7eae16461a077", func := "loop.example/keyswitches/laws.FnExactFormatSwitch", spec := "fnExactFormatSwitch", inPlace := ["internal/abi.NoEscape", "internal/bytealg.MakeNoZero"], unfollowed := true, recurses := true, named := ["loop.example/keyswitches/impl.errNoTarget", "internal/strconv.uint64pow10", "math/bits.deBruijn32tab", "math/bits.deBruijn64tab"], ifaces := true, apart := false, laid := [("math/bits.deBruijn32tab", laid_math_bits_deBruijn32tab), ("math/bits.deBruijn64tab", laid_math_bits_deBruijn64tab), ("internal/strconv.uint64pow10", laid_internal_strconv_uint64pow10), ("loop.example/keyswitches/impl.errNoTarget", laid_loop_example_keyswitches_impl_errNoTarget)] }
def FnExactFormatSwitchSaid : Prop := fnExactFormatSwitchRow.holds Tryd.pinned (OpenSpec.ofChange fnExactFormatSwitchSpec)

/-- ITS FALSE NEIGHBOUR: 'it returns false'. Refute it at one input. -/
def fnExactFormatSwitchWrong : ChangeSpec := { name := "fnExactFormatSwitch", vars := ["loop.example/keyswitches/impl.errNoTarget"], fn := fun _ => fun
  | [d, g1] => { results := [.lit (.bool false)], args := [d], vars := [g1] }
  | _ => none }
def FnExactFormatSwitchWrongFalsely : Prop := fnExactFormatSwitchRow.holds Tryd.pinned (OpenSpec.ofChange fnExactFormatSwitchWrong)

/-- 'laws.FnExactTargetOf': WHATEVER THE INPUT: true; the input reads as it did. -/
def fnExactTargetOfSpec : ChangeSpec := { name := "fnExactTargetOf", vars := ["loop.example/keyswitches/impl.errNoTarget"], fn := fun _ => fun
  | [d1, d2, g1] => { results := [.lit (.bool true)], args := [d1, d2], vars := [g1] }
  | _ => none }
def fnExactTargetOfRow : OpenClaim := { program := "ytnnhnoamhbjcjaadoor", sum := "0c379d653cf62b1044f3ce0746dae1205bc39a52e5bc1a22bbc7eae16461a077", func := "loop.example/keyswitches/laws.FnExactTargetOf", spec := "fnExactTargetOf", unfollowed := true, recurses := true, named := ["loop.example/keyswitches/impl.errNoTarget"], ifaces := true, apart := false, laid := [("loop.example/keyswitches/impl.errNoTarget", laid_loop_example_keyswitches_impl_errNoTarget)] }
def FnExactTargetOfSaid : Prop := fnExactTargetOfRow.holds Tryd.pinned (OpenSpec.ofChange fnExactTargetOfSpec)

/-- ITS FALSE NEIGHBOUR: 'it returns false'. Refute it at one input. -/
def fnExactTargetOfWrong : ChangeSpec := { name := "fnExactTargetOf", vars := ["loop.example/keyswitches/impl.errNoTarget"], fn := fun _ => fun
  | [d1, d2, g1] => { results := [.lit (.bool false)], args := [d1, d2], vars := [g1] }
  | _ => none }
def FnExactTargetOfWrongFalsely : Prop := fnExactTargetOfRow.holds Tryd.pinned (OpenSpec.ofChange fnExactTargetOfWrong)

/-- 'laws.FnExactCaseOf': WHATEVER THE INPUT: true; the input reads as it did. -/
def fnExactCaseOfSpec : ChangeSpec := { name := "fnExactCaseOf", vars := ["loop.example/keyswitches/impl.errNoTarget"], fn := fun _ => fun
  | [d1, d2, g1] => { results := [.lit (.bool true)], args := [d1, d2], vars := [g1] }
  | _ => none }
def fnExactCaseOfRow : OpenClaim := { program := "ytnnhnoamhbjcjaadoor", sum := "0c379d653cf62b1044f3ce0746dae1205bc39a52e5bc1a22bbc7eae16461a077", func := "loop.example/keyswitches/laws.FnExactCaseOf", spec := "fnExactCaseOf", unfollowed := true, recurses := true, named := ["loop.example/keyswitches/impl.errNoTarget"], ifaces := true, apart := false, laid := [("loop.example/keyswitches/impl.errNoTarget", laid_loop_example_keyswitches_impl_errNoTarget)] }
def FnExactCaseOfSaid : Prop := fnExactCaseOfRow.holds Tryd.pinned (OpenSpec.ofChange fnExactCaseOfSpec)

/-- ITS FALSE NEIGHBOUR: 'it returns false'. Refute it at one input. -/
def fnExactCaseOfWrong : ChangeSpec := { name := "fnExactCaseOf", vars := ["loop.example/keyswitches/impl.errNoTarget"], fn := fun _ => fun
  | [d1, d2, g1] => { results := [.lit (.bool false)], args := [d1, d2], vars := [g1] }
  | _ => none }
def FnExactCaseOfWrongFalsely : Prop := fnExactCaseOfRow.holds Tryd.pinned (OpenSpec.ofChange fnExactCaseOfWrong)

/-- 'laws.FnExactTargetsOf': WHATEVER THE INPUT: true; the input reads as it did. -/
def fnExactTargetsOfSpec : ChangeSpec := { name := "fnExactTargetsOf", vars := ["loop.example/keyswitches/impl.errNoTarget"], fn := fun _ => fun
  | [d, g1] => { results := [.lit (.bool true)], args := [d], vars := [g1] }
  | _ => none }
def fnExactTargetsOfRow : OpenClaim := { program := "ytnnhnoamhbjcjaadoor", sum := "0c379d653cf62b1044f3ce0746dae1205bc39a52e5bc1a22bbc7eae16461a077", func := "loop.example/keyswitches/laws.FnExactTargetsOf", spec := "fnExactTargetsOf", unfollowed := true, recurses := true, named := ["loop.example/keyswitches/impl.errNoTarget"], ifaces := true, apart := false, laid := [("loop.example/keyswitches/impl.errNoTarget", laid_loop_example_keyswitches_impl_errNoTarget)] }
def FnExactTargetsOfSaid : Prop := fnExactTargetsOfRow.holds Tryd.pinned (OpenSpec.ofChange fnExactTargetsOfSpec)

/-- ITS FALSE NEIGHBOUR: 'it returns false'. Refute it at one input. -/
def fnExactTargetsOfWrong : ChangeSpec := { name := "fnExactTargetsOf", vars := ["loop.example/keyswitches/impl.errNoTarget"], fn := fun _ => fun
  | [d, g1] => { results := [.lit (.bool false)], args := [d], vars := [g1] }
  | _ => none }
def FnExactTargetsOfWrongFalsely : Prop := fnExactTargetsOfRow.holds Tryd.pinned (OpenSpec.ofChange fnExactTargetsOfWrong)

/-- 'laws.FnExactCountKeys': WHATEVER THE INPUT: true; the input reads as it did. -/
def fnExactCountKeysSpec : ChangeSpec := { name := "fnExactCountKeys", vars := ["loop.example/keyswitches/impl.errNoTarget"], fn := fun _ => fun
  | [d, g1] => { results := [.lit (.bool true)], args := [d], vars := [g1] }
  | _ => none }
def fnExactCountKeysRow : OpenClaim := { program := "ytnnhnoamhbjcjaadoor", sum := "0c379d653cf62b1044f3ce0746dae1205bc39a52e5bc1a22bbc7eae16461a077", func := "loop.example/keyswitches/laws.FnExactCountKeys", spec := "fnExactCountKeys", unfollowed := true, recurses := true, named := ["loop.example/keyswitches/impl.errNoTarget"], ifaces := true, apart := false, laid := [("loop.example/keyswitches/impl.errNoTarget", laid_loop_example_keyswitches_impl_errNoTarget)] }
def FnExactCountKeysSaid : Prop := fnExactCountKeysRow.holds Tryd.pinned (OpenSpec.ofChange fnExactCountKeysSpec)

/-- ITS FALSE NEIGHBOUR: 'it returns false'. Refute it at one input. -/
def fnExactCountKeysWrong : ChangeSpec := { name := "fnExactCountKeys", vars := ["loop.example/keyswitches/impl.errNoTarget"], fn := fun _ => fun
  | [d, g1] => { results := [.lit (.bool false)], args := [d], vars := [g1] }
  | _ => none }
def FnExactCountKeysWrongFalsely : Prop := fnExactCountKeysRow.holds Tryd.pinned (OpenSpec.ofChange fnExactCountKeysWrong)

/-- 'laws.FnExactTotalWeight': WHATEVER THE INPUT: true; the input reads as it did. -/
def fnExactTotalWeightSpec : ChangeSpec := { name := "fnExactTotalWeight", vars := ["loop.example/keyswitches/impl.errNoTarget"], fn := fun _ => fun
  | [d, g1] => { results := [.lit (.bool true)], args := [d], vars := [g1] }
  | _ => none }
def fnExactTotalWeightRow : OpenClaim := { program := "ytnnhnoamhbjcjaadoor", sum := "0c379d653cf62b1044f3ce0746dae1205bc39a52e5bc1a22bbc7eae16461a077", func := "loop.example/keyswitches/laws.FnExactTotalWeight", spec := "fnExactTotalWeight", unfollowed := true, recurses := true, named := ["loop.example/keyswitches/impl.errNoTarget"], ifaces := true, apart := false, laid := [("loop.example/keyswitches/impl.errNoTarget", laid_loop_example_keyswitches_impl_errNoTarget)] }
def FnExactTotalWeightSaid : Prop := fnExactTotalWeightRow.holds Tryd.pinned (OpenSpec.ofChange fnExactTotalWeightSpec)

/-- ITS FALSE NEIGHBOUR: 'it returns false'. Refute it at one input. -/
def fnExactTotalWeightWrong : ChangeSpec := { name := "fnExactTotalWeight", vars := ["loop.example/keyswitches/impl.errNoTarget"], fn := fun _ => fun
  | [d, g1] => { results := [.lit (.bool false)], args := [d], vars := [g1] }
  | _ => none }
def FnExactTotalWeightWrongFalsely : Prop := fnExactTotalWeightRow.holds Tryd.pinned (OpenSpec.ofChange fnExactTotalWeightWrong)

/- THE SECOND FORM. 'bulk': how many values and letters a reading holds, each counted each time it is reached (what is shared counts as often as it is met; a slice's spare places count too). A statement '..UptoSaid' is the law's where the arguments, and the package variables that the reading takes, are together of bulk at most 1048576: NARROWER than '..Said'. Prove '..Said' where nothing that the law and all that it calls make is longer than what came in: it says more and counts as full. Else prove '..UptoSaid'. A law counts once. -/
mutual
def uptoBulk {H : Type} : DataW H → Nat
  | .lit (.string bytes) => bytes.length + 1
  | .lit _ => 1
  | .nil => 1
  | .ptr d => uptoBulk d + 1
  | .slice elems spare => uptoBulkAll elems + uptoBulkAll spare + 1
  | .agg parts => uptoBulkAll parts + 1
  | .iface _ d => uptoBulk d + 1
  | .map entries => uptoBulkEntries entries + 1
  | .held _ => 1
def uptoBulkAll {H : Type} : List (DataW H) → Nat
  | [] => 0
  | d :: r => uptoBulk d + uptoBulkAll r
def uptoBulkEntries {H : Type} : List (Lit × DataW H) → Nat
  | [] => 0
  | x :: r => uptoBulkEntry x + uptoBulkEntries r
def uptoBulkEntry {H : Type} : Lit × DataW H → Nat
  | (.string bytes, d) => bytes.length + uptoBulk d + 1
  | (_, d) => uptoBulk d + 1
 end
def uptoSmall : (H : Type) → List (DataW H) → Bool := fun _ ds => decide (uptoBulkAll ds ≤ 1048576)
def OpenSpec.upto (s : _root_.Go.ChangeSpec) : _root_.Go.OpenSpec := { _root_.Go.OpenSpec.ofChange s with cond := some uptoSmall }

/-- 'laws.FnTargetOf', WHERE WHAT IT READS IS OF BULK AT MOST 1048576: true; the input reads as it did. -/
def fnTargetOfUptoRow : OpenClaim := { program := "ytnnhnoamhbjcjaadoor", sum := "0c379d653cf62b1044f3ce0746dae1205bc39a52e5bc1a22bbc7eae16461a077", func := "loop.example/keyswitches/laws.FnTargetOf", spec := "fnTargetOf", unfollowed := true, recurses := true, named := ["loop.example/keyswitches/impl.errNoTarget"], ifaces := true, apart := false, laid := [("loop.example/keyswitches/impl.errNoTarget", laid_loop_example_keyswitches_impl_errNoTarget)], narrowed := true }
def FnTargetOfUptoSaid : Prop := fnTargetOfUptoRow.holds Tryd.pinned (OpenSpec.upto fnTargetOfSpec)

/-- 'laws.FnExactSwitchValid', WHERE WHAT IT READS IS OF BULK AT MOST 1048576: true; the input reads as it did. -/
def fnExactSwitchValidUptoRow : OpenClaim := { program := "ytnnhnoamhbjcjaadoor", sum := "0c379d653cf62b1044f3ce0746dae1205bc39a52e5bc1a22bbc7eae16461a077", func := "loop.example/keyswitches/laws.FnExactSwitchValid", spec := "fnExactSwitchValid", unfollowed := true, recurses := true, named := ["loop.example/keyswitches/impl.errNoTarget"], ifaces := true, apart := false, laid := [("loop.example/keyswitches/impl.errNoTarget", laid_loop_example_keyswitches_impl_errNoTarget)], narrowed := true }
def FnExactSwitchValidUptoSaid : Prop := fnExactSwitchValidUptoRow.holds Tryd.pinned (OpenSpec.upto fnExactSwitchValidSpec)

/-- 'laws.FnExactFormatSwitch', WHERE WHAT IT READS IS OF BULK AT MOST 1048576: true; the input reads as it did. -/
def fnExactFormatSwitchUptoRow : OpenClaim := { program := "ytnnhnoamhbjcjaadoor", sum := "0c379d653cf62b1044f3ce0746dae1205bc39a52e5bc1a22bbc7eae16461a077", func := "loop.example/keyswitches/laws.FnExactFormatSwitch", spec := "fnExactFormatSwitch", inPlace := ["internal/abi.NoEscape", "internal/bytealg.MakeNoZero"], unfollowed := true, recurses := true, named := ["loop.example/keyswitches/impl.errNoTarget", "internal/strconv.uint64pow10", "math/bits.deBruijn32tab", "math/bits.deBruijn64tab"], ifaces := true, apart := false, laid := [("math/bits.deBruijn32tab", laid_math_bits_deBruijn32tab), ("math/bits.deBruijn64tab", laid_math_bits_deBruijn64tab), ("internal/strconv.uint64pow10", laid_internal_strconv_uint64pow10), ("loop.example/keyswitches/impl.errNoTarget", laid_loop_example_keyswitches_impl_errNoTarget)], narrowed := true }
def FnExactFormatSwitchUptoSaid : Prop := fnExactFormatSwitchUptoRow.holds Tryd.pinned (OpenSpec.upto fnExactFormatSwitchSpec)

/-- 'laws.FnExactTargetOf', WHERE WHAT IT READS IS OF BULK AT MOST 1048576: true; the input reads as it did. -/
def fnExactTargetOfUptoRow : OpenClaim := { program := "ytnnhnoamhbjcjaadoor", sum := "0c379d653cf62b1044f3ce0746dae1205bc39a52e5bc1a22bbc7eae16461a077", func := "loop.example/keyswitches/laws.FnExactTargetOf", spec := "fnExactTargetOf", unfollowed := true, recurses := true, named := ["loop.example/keyswitches/impl.errNoTarget"], ifaces := true, apart := false, laid := [("loop.example/keyswitches/impl.errNoTarget", laid_loop_example_keyswitches_impl_errNoTarget)], narrowed := true }
def FnExactTargetOfUptoSaid : Prop := fnExactTargetOfUptoRow.holds Tryd.pinned (OpenSpec.upto fnExactTargetOfSpec)

/-- 'laws.FnExactCaseOf', WHERE WHAT IT READS IS OF BULK AT MOST 1048576: true; the input reads as it did. -/
def fnExactCaseOfUptoRow : OpenClaim := { program := "ytnnhnoamhbjcjaadoor", sum := "0c379d653cf62b1044f3ce0746dae1205bc39a52e5bc1a22bbc7eae16461a077", func := "loop.example/keyswitches/laws.FnExactCaseOf", spec := "fnExactCaseOf", unfollowed := true, recurses := true, named := ["loop.example/keyswitches/impl.errNoTarget"], ifaces := true, apart := false, laid := [("loop.example/keyswitches/impl.errNoTarget", laid_loop_example_keyswitches_impl_errNoTarget)], narrowed := true }
def FnExactCaseOfUptoSaid : Prop := fnExactCaseOfUptoRow.holds Tryd.pinned (OpenSpec.upto fnExactCaseOfSpec)

/-- 'laws.FnExactTargetsOf', WHERE WHAT IT READS IS OF BULK AT MOST 1048576: true; the input reads as it did. -/
def fnExactTargetsOfUptoRow : OpenClaim := { program := "ytnnhnoamhbjcjaadoor", sum := "0c379d653cf62b1044f3ce0746dae1205bc39a52e5bc1a22bbc7eae16461a077", func := "loop.example/keyswitches/laws.FnExactTargetsOf", spec := "fnExactTargetsOf", unfollowed := true, recurses := true, named := ["loop.example/keyswitches/impl.errNoTarget"], ifaces := true, apart := false, laid := [("loop.example/keyswitches/impl.errNoTarget", laid_loop_example_keyswitches_impl_errNoTarget)], narrowed := true }
def FnExactTargetsOfUptoSaid : Prop := fnExactTargetsOfUptoRow.holds Tryd.pinned (OpenSpec.upto fnExactTargetsOfSpec)

/-- 'laws.FnExactCountKeys', WHERE WHAT IT READS IS OF BULK AT MOST 1048576: true; the input reads as it did. -/
def fnExactCountKeysUptoRow : OpenClaim := { program := "ytnnhnoamhbjcjaadoor", sum := "0c379d653cf62b1044f3ce0746dae1205bc39a52e5bc1a22bbc7eae16461a077", func := "loop.example/keyswitches/laws.FnExactCountKeys", spec := "fnExactCountKeys", unfollowed := true, recurses := true, named := ["loop.example/keyswitches/impl.errNoTarget"], ifaces := true, apart := false, laid := [("loop.example/keyswitches/impl.errNoTarget", laid_loop_example_keyswitches_impl_errNoTarget)], narrowed := true }
def FnExactCountKeysUptoSaid : Prop := fnExactCountKeysUptoRow.holds Tryd.pinned (OpenSpec.upto fnExactCountKeysSpec)

/-- 'laws.FnExactTotalWeight', WHERE WHAT IT READS IS OF BULK AT MOST 1048576: true; the input reads as it did. -/
def fnExactTotalWeightUptoRow : OpenClaim := { program := "ytnnhnoamhbjcjaadoor", sum := "0c379d653cf62b1044f3ce0746dae1205bc39a52e5bc1a22bbc7eae16461a077", func := "loop.example/keyswitches/laws.FnExactTotalWeight", spec := "fnExactTotalWeight", unfollowed := true, recurses := true, named := ["loop.example/keyswitches/impl.errNoTarget"], ifaces := true, apart := false, laid := [("loop.example/keyswitches/impl.errNoTarget", laid_loop_example_keyswitches_impl_errNoTarget)], narrowed := true }
def FnExactTotalWeightUptoSaid : Prop := fnExactTotalWeightUptoRow.holds Tryd.pinned (OpenSpec.upto fnExactTotalWeightSpec)

end Rows
end Go.Proofs.YtnnhnoamhbjcjaaDoor
