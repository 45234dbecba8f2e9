/-
  NARROWER THAN 'FOR EVERY INPUT', by the rows' own cells (each row's printed sentence says how): FnExactPagesOf: ifaces, laid · FnExactMaskOf: ifaces, laid · FnExactMaskWeight: ifaces, laid · FnExactRunMasks: ifaces, laid · FnExactMasksCost: ifaces, laid · FnExactBestMasks: ifaces, laid · FnExactSwitchFrom: laid.
  DERIVED. THE GIVEN ROWS OF THIS SEAT. 7 by the template 'for every input the law returns true; each argument reads behind the call as it read before'; 0 by the template 'total and deterministic' (their statements: YtbhamkmiagdimaaDoorTotals.lean).
  GIVEN WITH THE SEED: the statements are not yours to turn. If you find one false, say at which input.
  Laid BY PROGRAM, IN A SANDBOX (cutbox-rows.mjs): the forced cells as the released guide's own fill.sh prints them over the translation b37485e43ab02488… (all of the seat's roots in one cut). By AI agents, Wed Nov 11 2026. No macro, syntax, notation, axiom, sorry.
-/
import Derived.Test.YtbhamkmiagdimaaDoorChecked
import GoSem.Claim
import GoSem.ClaimJoined
import GoSem.ClaimMapViews
import Derived.JoinedTies
import Derived.KernelRfl
namespace Go.Proofs.YtbhamkmiagdimaaDoor
/- THE CELL 'sum', in the pinned program and in every row, IS THE sha256 OF THE DUMP (.gsa) THAT YtbhamkmiagdimaaDoorProg.lean LOADS. Nothing in Lean hashes anything: it is a label: what it is worth is what the hold of that sum in a sandbox is worth. -/
noncomputable def Tryd.pinned : Pinned := { name := "ytbhamkmiagdimaadoor", sum := "b37485e43ab0248888c19c425da7fad07324c51d3b341b616c7a616462f0df7d", checked := Tryd.checked }
namespace Rows
def none {H : Type} : Left H := { results := [], args := [] }

/- WHAT THE LISTED PACKAGE-LEVEL VARIABLES READ AS WHEN THE CALL BEGINS. Each datum BY PROGRAM (the guide's laid-datum.mjs) off the statement by which the dump's own 'gosem.cut.vars' lays the variable. In a bare row this is a premise. The card (YtbhamkmiagdimaaDoorCards.lean) ties it to the program's text. -/
def laid_loop_example_keyswitches_impl_errNoTarget {H : Type} : DataW H := .iface "*errors.errorString" (.ptr (.agg [.lit (.string [110, 111, 32, 116, 97, 114, 103, 101, 116])]))
def laid_math_bits_deBruijn32tab {H : Type} : DataW H := .agg [.lit (.int .u8 0), .lit (.int .u8 1), .lit (.int .u8 28), .lit (.int .u8 2), .lit (.int .u8 29), .lit (.int .u8 14), .lit (.int .u8 24), .lit (.int .u8 3), .lit (.int .u8 30), .lit (.int .u8 22), .lit (.int .u8 20), .lit (.int .u8 15), .lit (.int .u8 25), .lit (.int .u8 17), .lit (.int .u8 4), .lit (.int .u8 8), .lit (.int .u8 31), .lit (.int .u8 27), .lit (.int .u8 13), .lit (.int .u8 23), .lit (.int .u8 21), .lit (.int .u8 19), .lit (.int .u8 16), .lit (.int .u8 7), .lit (.int .u8 26), .lit (.int .u8 12), .lit (.int .u8 18), .lit (.int .u8 6), .lit (.int .u8 11), .lit (.int .u8 5), .lit (.int .u8 10), .lit (.int .u8 9)]

/-- 'laws.FnExactPagesOf': WHATEVER THE INPUT: true; the input reads as it did. -/
def fnExactPagesOfSpec : ChangeSpec := { name := "fnExactPagesOf", vars := ["loop.example/keyswitches/impl.errNoTarget"], fn := fun _ => fun
  | [d1, d2, g1] => { results := [.lit (.bool true)], args := [d1, d2], vars := [g1] }
  | _ => none }
def fnExactPagesOfRow : OpenClaim := { program := "ytbhamkmiagdimaadoor", sum := "b37485e43ab0248888c19c425da7fad07324c51d3b341b616c7a616462f0df7d", func := "loop.example/keyswitches/laws.FnExactPagesOf", spec := "fnExactPagesOf", unfollowed := true, recurses := true, named := ["loop.example/keyswitches/impl.errNoTarget"], ifaces := true, plainKeys := false, apart := false, laid := [("loop.example/keyswitches/impl.errNoTarget", laid_loop_example_keyswitches_impl_errNoTarget)] }
def FnExactPagesOfSaid : Prop := fnExactPagesOfRow.holds Tryd.pinned (OpenSpec.ofChange fnExactPagesOfSpec)

/-- ITS FALSE NEIGHBOUR: 'it returns false'. Refute it at one input. -/
def fnExactPagesOfWrong : ChangeSpec := { name := "fnExactPagesOf", vars := ["loop.example/keyswitches/impl.errNoTarget"], fn := fun _ => fun
  | [d1, d2, g1] => { results := [.lit (.bool false)], args := [d1, d2], vars := [g1] }
  | _ => none }
def FnExactPagesOfWrongFalsely : Prop := fnExactPagesOfRow.holds Tryd.pinned (OpenSpec.ofChange fnExactPagesOfWrong)

/-- 'laws.FnExactMaskOf': WHATEVER THE INPUT: true; the input reads as it did. -/
def fnExactMaskOfSpec : ChangeSpec := { name := "fnExactMaskOf", vars := ["loop.example/keyswitches/impl.errNoTarget"], fn := fun _ => fun
  | [d1, d2, g1] => { results := [.lit (.bool true)], args := [d1, d2], vars := [g1] }
  | _ => none }
def fnExactMaskOfRow : OpenClaim := { program := "ytbhamkmiagdimaadoor", sum := "b37485e43ab0248888c19c425da7fad07324c51d3b341b616c7a616462f0df7d", func := "loop.example/keyswitches/laws.FnExactMaskOf", spec := "fnExactMaskOf", unfollowed := true, recurses := true, named := ["loop.example/keyswitches/impl.errNoTarget"], ifaces := true, plainKeys := false, apart := false, laid := [("loop.example/keyswitches/impl.errNoTarget", laid_loop_example_keyswitches_impl_errNoTarget)] }
def FnExactMaskOfSaid : Prop := fnExactMaskOfRow.holds Tryd.pinned (OpenSpec.ofChange fnExactMaskOfSpec)

/-- ITS FALSE NEIGHBOUR: 'it returns false'. Refute it at one input. -/
def fnExactMaskOfWrong : ChangeSpec := { name := "fnExactMaskOf", vars := ["loop.example/keyswitches/impl.errNoTarget"], fn := fun _ => fun
  | [d1, d2, g1] => { results := [.lit (.bool false)], args := [d1, d2], vars := [g1] }
  | _ => none }
def FnExactMaskOfWrongFalsely : Prop := fnExactMaskOfRow.holds Tryd.pinned (OpenSpec.ofChange fnExactMaskOfWrong)

/-- 'laws.FnExactMaskWeight': WHATEVER THE INPUT: true; the input reads as it did. -/
def fnExactMaskWeightSpec : ChangeSpec := { name := "fnExactMaskWeight", vars := ["loop.example/keyswitches/impl.errNoTarget"], fn := fun _ => fun
  | [d1, d2, g1] => { results := [.lit (.bool true)], args := [d1, d2], vars := [g1] }
  | _ => none }
def fnExactMaskWeightRow : OpenClaim := { program := "ytbhamkmiagdimaadoor", sum := "b37485e43ab0248888c19c425da7fad07324c51d3b341b616c7a616462f0df7d", func := "loop.example/keyswitches/laws.FnExactMaskWeight", spec := "fnExactMaskWeight", unfollowed := true, recurses := true, named := ["loop.example/keyswitches/impl.errNoTarget"], ifaces := true, plainKeys := false, apart := false, laid := [("loop.example/keyswitches/impl.errNoTarget", laid_loop_example_keyswitches_impl_errNoTarget)] }
def FnExactMaskWeightSaid : Prop := fnExactMaskWeightRow.holds Tryd.pinned (OpenSpec.ofChange fnExactMaskWeightSpec)

/-- ITS FALSE NEIGHBOUR: 'it returns false'. Refute it at one input. -/
def fnExactMaskWeightWrong : ChangeSpec := { name := "fnExactMaskWeight", vars := ["loop.example/keyswitches/impl.errNoTarget"], fn := fun _ => fun
  | [d1, d2, g1] => { results := [.lit (.bool false)], args := [d1, d2], vars := [g1] }
  | _ => none }
def FnExactMaskWeightWrongFalsely : Prop := fnExactMaskWeightRow.holds Tryd.pinned (OpenSpec.ofChange fnExactMaskWeightWrong)

/-- 'laws.FnExactRunMasks': WHATEVER THE INPUT: true; the input reads as it did. -/
def fnExactRunMasksSpec : ChangeSpec := { name := "fnExactRunMasks", vars := ["loop.example/keyswitches/impl.errNoTarget"], fn := fun _ => fun
  | [d1, d2, d3, g1] => { results := [.lit (.bool true)], args := [d1, d2, d3], vars := [g1] }
  | _ => none }
def fnExactRunMasksRow : OpenClaim := { program := "ytbhamkmiagdimaadoor", sum := "b37485e43ab0248888c19c425da7fad07324c51d3b341b616c7a616462f0df7d", func := "loop.example/keyswitches/laws.FnExactRunMasks", spec := "fnExactRunMasks", unfollowed := true, recurses := true, named := ["loop.example/keyswitches/impl.errNoTarget"], ifaces := true, plainKeys := false, apart := false, laid := [("loop.example/keyswitches/impl.errNoTarget", laid_loop_example_keyswitches_impl_errNoTarget)] }
def FnExactRunMasksSaid : Prop := fnExactRunMasksRow.holds Tryd.pinned (OpenSpec.ofChange fnExactRunMasksSpec)

/-- ITS FALSE NEIGHBOUR: 'it returns false'. Refute it at one input. -/
def fnExactRunMasksWrong : ChangeSpec := { name := "fnExactRunMasks", vars := ["loop.example/keyswitches/impl.errNoTarget"], fn := fun _ => fun
  | [d1, d2, d3, g1] => { results := [.lit (.bool false)], args := [d1, d2, d3], vars := [g1] }
  | _ => none }
def FnExactRunMasksWrongFalsely : Prop := fnExactRunMasksRow.holds Tryd.pinned (OpenSpec.ofChange fnExactRunMasksWrong)

/-- 'laws.FnExactMasksCost': WHATEVER THE INPUT: true; the input reads as it did. -/
def fnExactMasksCostSpec : ChangeSpec := { name := "fnExactMasksCost", vars := ["loop.example/keyswitches/impl.errNoTarget"], fn := fun _ => fun
  | [d1, d2, g1] => { results := [.lit (.bool true)], args := [d1, d2], vars := [g1] }
  | _ => none }
def fnExactMasksCostRow : OpenClaim := { program := "ytbhamkmiagdimaadoor", sum := "b37485e43ab0248888c19c425da7fad07324c51d3b341b616c7a616462f0df7d", func := "loop.example/keyswitches/laws.FnExactMasksCost", spec := "fnExactMasksCost", unfollowed := true, recurses := true, named := ["loop.example/keyswitches/impl.errNoTarget"], ifaces := true, plainKeys := false, apart := false, laid := [("loop.example/keyswitches/impl.errNoTarget", laid_loop_example_keyswitches_impl_errNoTarget)] }
def FnExactMasksCostSaid : Prop := fnExactMasksCostRow.holds Tryd.pinned (OpenSpec.ofChange fnExactMasksCostSpec)

/-- ITS FALSE NEIGHBOUR: 'it returns false'. Refute it at one input. -/
def fnExactMasksCostWrong : ChangeSpec := { name := "fnExactMasksCost", vars := ["loop.example/keyswitches/impl.errNoTarget"], fn := fun _ => fun
  | [d1, d2, g1] => { results := [.lit (.bool false)], args := [d1, d2], vars := [g1] }
  | _ => none }
def FnExactMasksCostWrongFalsely : Prop := fnExactMasksCostRow.holds Tryd.pinned (OpenSpec.ofChange fnExactMasksCostWrong)

/-- 'laws.FnExactBestMasks': WHATEVER THE INPUT: true; the input reads as it did. -/
def fnExactBestMasksSpec : ChangeSpec := { name := "fnExactBestMasks", vars := ["loop.example/keyswitches/impl.errNoTarget"], fn := fun _ => fun
  | [d, g1] => { results := [.lit (.bool true)], args := [d], vars := [g1] }
  | _ => none }
def fnExactBestMasksRow : OpenClaim := { program := "ytbhamkmiagdimaadoor", sum := "b37485e43ab0248888c19c425da7fad07324c51d3b341b616c7a616462f0df7d", func := "loop.example/keyswitches/laws.FnExactBestMasks", spec := "fnExactBestMasks", unfollowed := true, recurses := true, named := ["loop.example/keyswitches/impl.errNoTarget"], ifaces := true, plainKeys := false, apart := false, laid := [("loop.example/keyswitches/impl.errNoTarget", laid_loop_example_keyswitches_impl_errNoTarget)] }
def FnExactBestMasksSaid : Prop := fnExactBestMasksRow.holds Tryd.pinned (OpenSpec.ofChange fnExactBestMasksSpec)

/-- ITS FALSE NEIGHBOUR: 'it returns false'. Refute it at one input. -/
def fnExactBestMasksWrong : ChangeSpec := { name := "fnExactBestMasks", vars := ["loop.example/keyswitches/impl.errNoTarget"], fn := fun _ => fun
  | [d, g1] => { results := [.lit (.bool false)], args := [d], vars := [g1] }
  | _ => none }
def FnExactBestMasksWrongFalsely : Prop := fnExactBestMasksRow.holds Tryd.pinned (OpenSpec.ofChange fnExactBestMasksWrong)

/-- 'laws.FnExactSwitchFrom': WHATEVER THE INPUT: true; the input reads as it did. -/
def fnExactSwitchFromSpec : ChangeSpec := { name := "fnExactSwitchFrom", fn := fun _ => fun
  | [d1, d2] => { results := [.lit (.bool true)], args := [d1, d2] }
  | _ => none }
def fnExactSwitchFromRow : OpenClaim := { program := "ytbhamkmiagdimaadoor", sum := "b37485e43ab0248888c19c425da7fad07324c51d3b341b616c7a616462f0df7d", func := "loop.example/keyswitches/laws.FnExactSwitchFrom", spec := "fnExactSwitchFrom", inPlace := ["internal/bytealg.IndexByteString"], unfollowed := true, recurses := true, named := ["math/bits.deBruijn32tab"], plainKeys := false, apart := false, laid := [("math/bits.deBruijn32tab", laid_math_bits_deBruijn32tab)] }
def FnExactSwitchFromSaid : Prop := fnExactSwitchFromRow.holds Tryd.pinned (OpenSpec.ofChange fnExactSwitchFromSpec)

/-- ITS FALSE NEIGHBOUR: 'it returns false'. Refute it at one input. -/
def fnExactSwitchFromWrong : ChangeSpec := { name := "fnExactSwitchFrom", fn := fun _ => fun
  | [d1, d2] => { results := [.lit (.bool false)], args := [d1, d2] }
  | _ => none }
def FnExactSwitchFromWrongFalsely : Prop := fnExactSwitchFromRow.holds Tryd.pinned (OpenSpec.ofChange fnExactSwitchFromWrong)

/- THE SECOND FORM. 'bulk': how many values and letters a reading holds, each counted each time it is reached (what is shared counts as often as it is met; a slice's spare places count too). A statement '..UptoSaid' is the law's where the arguments, and the package variables that the reading takes, are together of bulk at most 1048576: NARROWER than '..Said'. Prove '..Said' where nothing that the law and all that it calls make is longer than what came in: it says more and counts as full. Else prove '..UptoSaid'. A law counts once. -/
mutual
def uptoBulk {H : Type} : DataW H → Nat
  | .lit (.string bytes) => bytes.length + 1
  | .lit _ => 1
  | .nil => 1
  | .ptr d => uptoBulk d + 1
  | .slice elems spare => uptoBulkAll elems + uptoBulkAll spare + 1
  | .agg parts => uptoBulkAll parts + 1
  | .iface _ d => uptoBulk d + 1
  | .map entries => uptoBulkEntries entries + 1
  | .held _ => 1
def uptoBulkAll {H : Type} : List (DataW H) → Nat
  | [] => 0
  | d :: r => uptoBulk d + uptoBulkAll r
def uptoBulkEntries {H : Type} : List (Lit × DataW H) → Nat
  | [] => 0
  | x :: r => uptoBulkEntry x + uptoBulkEntries r
def uptoBulkEntry {H : Type} : Lit × DataW H → Nat
  | (.string bytes, d) => bytes.length + uptoBulk d + 1
  | (_, d) => uptoBulk d + 1
 end
def uptoSmall : (H : Type) → List (DataW H) → Bool := fun _ ds => decide (uptoBulkAll ds ≤ 1048576)
def OpenSpec.upto (s : _root_.Go.ChangeSpec) : _root_.Go.OpenSpec := { _root_.Go.OpenSpec.ofChange s with cond := some uptoSmall }

/-- 'laws.FnExactPagesOf', WHERE WHAT IT READS IS OF BULK AT MOST 1048576: true; the input reads as it did. -/
def fnExactPagesOfUptoRow : OpenClaim := { program := "ytbhamkmiagdimaadoor", sum := "b37485e43ab0248888c19c425da7fad07324c51d3b341b616c7a616462f0df7d", func := "loop.example/keyswitches/laws.FnExactPagesOf", spec := "fnExactPagesOf", unfollowed := true, recurses := true, named := ["loop.example/keyswitches/impl.errNoTarget"], ifaces := true, plainKeys := false, apart := false, laid := [("loop.example/keyswitches/impl.errNoTarget", laid_loop_example_keyswitches_impl_errNoTarget)], narrowed := true }
def FnExactPagesOfUptoSaid : Prop := fnExactPagesOfUptoRow.holds Tryd.pinned (OpenSpec.upto fnExactPagesOfSpec)

/-- 'laws.FnExactMaskOf', WHERE WHAT IT READS IS OF BULK AT MOST 1048576: true; the input reads as it did. -/
def fnExactMaskOfUptoRow : OpenClaim := { program := "ytbhamkmiagdimaadoor", sum := "b37485e43ab0248888c19c425da7fad07324c51d3b341b616c7a616462f0df7d", func := "loop.example/keyswitches/laws.FnExactMaskOf", spec := "fnExactMaskOf", unfollowed := true, recurses := true, named := ["loop.example/keyswitches/impl.errNoTarget"], ifaces := true, plainKeys := false, apart := false, laid := [("loop.example/keyswitches/impl.errNoTarget", laid_loop_example_keyswitches_impl_errNoTarget)], narrowed := true }
def FnExactMaskOfUptoSaid : Prop := fnExactMaskOfUptoRow.holds Tryd.pinned (OpenSpec.upto fnExactMaskOfSpec)

/-- 'laws.FnExactMaskWeight', WHERE WHAT IT READS IS OF BULK AT MOST 1048576: true; the input reads as it did. -/
def fnExactMaskWeightUptoRow : OpenClaim := { program := "ytbhamkmiagdimaadoor", sum := "b37485e43ab0248888c19c425da7fad07324c51d3b341b616c7a616462f0df7d", func := "loop.example/keyswitches/laws.FnExactMaskWeight", spec := "fnExactMaskWeight", unfollowed := true, recurses := true, named := ["loop.example/keyswitches/impl.errNoTarget"], ifaces := true, plainKeys := false, apart := false, laid := [("loop.example/keyswitches/impl.errNoTarget", laid_loop_example_keyswitches_impl_errNoTarget)], narrowed := true }
def FnExactMaskWeightUptoSaid : Prop := fnExactMaskWeightUptoRow.holds Tryd.pinned (OpenSpec.upto fnExactMaskWeightSpec)

/-- 'laws.FnExactRunMasks', WHERE WHAT IT READS IS OF BULK AT MOST 1048576: true; the input reads as it did. -/
def fnExactRunMasksUptoRow : OpenClaim := { program := "ytbhamkmiagdimaadoor", sum := "b37485e43ab0248888c19c425da7fad07324c51d3b341b616c7a616462f0df7d", func := "loop.example/keyswitches/laws.FnExactRunMasks", spec := "fnExactRunMasks", unfollowed := true, recurses := true, named := ["loop.example/keyswitches/impl.errNoTarget"], ifaces := true, plainKeys := false, apart := false, laid := [("loop.example/keyswitches/impl.errNoTarget", laid_loop_example_keyswitches_impl_errNoTarget)], narrowed := true }
def FnExactRunMasksUptoSaid : Prop := fnExactRunMasksUptoRow.holds Tryd.pinned (OpenSpec.upto fnExactRunMasksSpec)

/-- 'laws.FnExactMasksCost', WHERE WHAT IT READS IS OF BULK AT MOST 1048576: true; the input reads as it did. -/
def fnExactMasksCostUptoRow : OpenClaim := { program := "ytbhamkmiagdimaadoor", sum := "b37485e43ab0248888c19c425da7fad07324c51d3b341b616c7a616462f0df7d", func := "loop.example/keyswitches/laws.FnExactMasksCost", spec := "fnExactMasksCost", unfollowed := true, recurses := true, named := ["loop.example/keyswitches/impl.errNoTarget"], ifaces := true, plainKeys := false, apart := false, laid := [("loop.example/keyswitches/impl.errNoTarget", laid_loop_example_keyswitches_impl_errNoTarget)], narrowed := true }
def FnExactMasksCostUptoSaid : Prop := fnExactMasksCostUptoRow.holds Tryd.pinned (OpenSpec.upto fnExactMasksCostSpec)

/-- 'laws.FnExactBestMasks', WHERE WHAT IT READS IS OF BULK AT MOST 1048576: true; the input reads as it did. -/
def fnExactBestMasksUptoRow : OpenClaim := { program := "ytbhamkmiagdimaadoor", sum := "b37485e43ab0248888c19c425da7fad07324c51d3b341b616c7a616462f0df7d", func := "loop.example/keyswitches/laws.FnExactBestMasks", spec := "fnExactBestMasks", unfollowed := true, recurses := true, named := ["loop.example/keyswitches/impl.errNoTarget"], ifaces := true, plainKeys := false, apart := false, laid := [("loop.example/keyswitches/impl.errNoTarget", laid_loop_example_keyswitches_impl_errNoTarget)], narrowed := true }
def FnExactBestMasksUptoSaid : Prop := fnExactBestMasksUptoRow.holds Tryd.pinned (OpenSpec.upto fnExactBestMasksSpec)

/-- 'laws.FnExactSwitchFrom', WHERE WHAT IT READS IS OF BULK AT MOST 1048576: true; the input reads as it did. -/
def fnExactSwitchFromUptoRow : OpenClaim := { program := "ytbhamkmiagdimaadoor", sum := "b37485e43ab0248888c19c425da7fad07324c51d3b341b616c7a616462f0df7d", func := "loop.example/keyswitches/laws.FnExactSwitchFrom", spec := "fnExactSwitchFrom", inPlace := ["internal/bytealg.IndexByteString"], unfollowed := true, recurses := true, named := ["math/bits.deBruijn32tab"], plainKeys := false, apart := false, laid := [("math/bits.deBruijn32tab", laid_math_bits_deBruijn32tab)], narrowed := true }
def FnExactSwitchFromUptoSaid : Prop := fnExactSwitchFromUptoRow.holds Tryd.pinned (OpenSpec.upto fnExactSwitchFromSpec)

end Rows
end Go.Proofs.YtbhamkmiagdimaaDoor
