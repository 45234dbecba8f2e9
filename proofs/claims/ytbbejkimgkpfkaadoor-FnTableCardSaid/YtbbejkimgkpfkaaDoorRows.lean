/-
  NARROWER THAN 'FOR EVERY INPUT', by the rows' own cells (each row's printed sentence says how): FnBestChain: ifaces, laid · FnTable: ifaces, laid · FnDense: ifaces, laid · FnPages: ifaces, laid · FnExactTableFor: ifaces, laid · FnExactDensity: ifaces, laid · FnExactDenseCases: ifaces, laid · FnExactPagesOf: ifaces, laid · FnExactPagedSize: ifaces, laid · FnExactBestPage: ifaces, laid.
  DERIVED. THE GIVEN ROWS OF THIS SEAT. 10 by the template 'for every input the law returns true; each argument reads behind the call as it read before'; 0 by the template 'total and deterministic' (their statements: YtbbejkimgkpfkaaDoorTotals.lean).
  GIVEN WITH THE SEED: the statements are not yours to turn. If you find one false, say at which input.
  Laid BY PROGRAM, IN A SANDBOX (cutbox-rows.mjs): the forced cells as the released guide's own fill.sh prints them over the translation cb4774bfaaf5594a… (all of the seat's roots in one cut). By AI agents, Wed Nov 11 2026. No macro, syntax, notation, axiom, sorry.
-/
import Derived.Test.YtbbejkimgkpfkaaDoorChecked
import GoSem.Claim
import GoSem.ClaimJoined
import GoSem.ClaimMapViews
import Derived.JoinedTies
import Derived.KernelRfl
namespace Go.Proofs.YtbbejkimgkpfkaaDoor
/- THE CELL 'sum', in the pinned program and in every row, IS THE sha256 OF THE DUMP (.gsa) THAT YtbbejkimgkpfkaaDoorProg.lean LOADS. Nothing in Lean hashes anything: it is a label: what it is worth is what the hold of that sum in a sandbox is worth. -/
noncomputable def Tryd.pinned : Pinned := { name := "ytbbejkimgkpfkaadoor", sum := "cb4774bfaaf5594a55cb157a54d71a4d3a1d3805cffbfc091f555f3535a95a99", checked := Tryd.checked }
namespace Rows
def none {H : Type} : Left H := { results := [], args := [] }

/- WHAT THE LISTED PACKAGE-LEVEL VARIABLES READ AS WHEN THE CALL BEGINS. Each datum BY PROGRAM (the guide's laid-datum.mjs) off the statement by which the dump's own 'gosem.cut.vars' lays the variable. In a bare row this is a premise. The card (YtbbejkimgkpfkaaDoorCards.lean) ties it to the program's text. -/
def laid_loop_example_keyswitches_impl_errNoTarget {H : Type} : DataW H := .iface "*errors.errorString" (.ptr (.agg [.lit (.string [110, 111, 32, 116, 97, 114, 103, 101, 116])]))

/-- 'laws.FnBestChain': WHATEVER THE INPUT: true; the input reads as it did. -/
def fnBestChainSpec : ChangeSpec := { name := "fnBestChain", vars := ["loop.example/keyswitches/impl.errNoTarget"], fn := fun _ => fun
  | [d, g1] => { results := [.lit (.bool true)], args := [d], vars := [g1] }
  | _ => none }
def fnBestChainRow : OpenClaim := { program := "ytbbejkimgkpfkaadoor", sum := "cb4774bfaaf5594a55cb157a54d71a4d3a1d3805cffbfc091f555f3535a95a99", func := "loop.example/keyswitches/laws.FnBestChain", spec := "fnBestChain", unfollowed := true, recurses := true, named := ["loop.example/keyswitches/impl.errNoTarget"], ifaces := true, plainKeys := false, apart := false, laid := [("loop.example/keyswitches/impl.errNoTarget", laid_loop_example_keyswitches_impl_errNoTarget)] }
def FnBestChainSaid : Prop := fnBestChainRow.holds Tryd.pinned (OpenSpec.ofChange fnBestChainSpec)

/-- ITS FALSE NEIGHBOUR: 'it returns false'. Refute it at one input. -/
def fnBestChainWrong : ChangeSpec := { name := "fnBestChain", vars := ["loop.example/keyswitches/impl.errNoTarget"], fn := fun _ => fun
  | [d, g1] => { results := [.lit (.bool false)], args := [d], vars := [g1] }
  | _ => none }
def FnBestChainWrongFalsely : Prop := fnBestChainRow.holds Tryd.pinned (OpenSpec.ofChange fnBestChainWrong)

/-- 'laws.FnTable': WHATEVER THE INPUT: true; the input reads as it did. -/
def fnTableSpec : ChangeSpec := { name := "fnTable", vars := ["loop.example/keyswitches/impl.errNoTarget"], fn := fun _ => fun
  | [d1, d2, g1] => { results := [.lit (.bool true)], args := [d1, d2], vars := [g1] }
  | _ => none }
def fnTableRow : OpenClaim := { program := "ytbbejkimgkpfkaadoor", sum := "cb4774bfaaf5594a55cb157a54d71a4d3a1d3805cffbfc091f555f3535a95a99", func := "loop.example/keyswitches/laws.FnTable", spec := "fnTable", unfollowed := true, recurses := true, named := ["loop.example/keyswitches/impl.errNoTarget"], ifaces := true, plainKeys := false, apart := false, laid := [("loop.example/keyswitches/impl.errNoTarget", laid_loop_example_keyswitches_impl_errNoTarget)] }
def FnTableSaid : Prop := fnTableRow.holds Tryd.pinned (OpenSpec.ofChange fnTableSpec)

/-- ITS FALSE NEIGHBOUR: 'it returns false'. Refute it at one input. -/
def fnTableWrong : ChangeSpec := { name := "fnTable", vars := ["loop.example/keyswitches/impl.errNoTarget"], fn := fun _ => fun
  | [d1, d2, g1] => { results := [.lit (.bool false)], args := [d1, d2], vars := [g1] }
  | _ => none }
def FnTableWrongFalsely : Prop := fnTableRow.holds Tryd.pinned (OpenSpec.ofChange fnTableWrong)

/-- 'laws.FnDense': WHATEVER THE INPUT: true; the input reads as it did. -/
def fnDenseSpec : ChangeSpec := { name := "fnDense", vars := ["loop.example/keyswitches/impl.errNoTarget"], fn := fun _ => fun
  | [d, g1] => { results := [.lit (.bool true)], args := [d], vars := [g1] }
  | _ => none }
def fnDenseRow : OpenClaim := { program := "ytbbejkimgkpfkaadoor", sum := "cb4774bfaaf5594a55cb157a54d71a4d3a1d3805cffbfc091f555f3535a95a99", func := "loop.example/keyswitches/laws.FnDense", spec := "fnDense", unfollowed := true, recurses := true, named := ["loop.example/keyswitches/impl.errNoTarget"], ifaces := true, plainKeys := false, apart := false, laid := [("loop.example/keyswitches/impl.errNoTarget", laid_loop_example_keyswitches_impl_errNoTarget)] }
def FnDenseSaid : Prop := fnDenseRow.holds Tryd.pinned (OpenSpec.ofChange fnDenseSpec)

/-- ITS FALSE NEIGHBOUR: 'it returns false'. Refute it at one input. -/
def fnDenseWrong : ChangeSpec := { name := "fnDense", vars := ["loop.example/keyswitches/impl.errNoTarget"], fn := fun _ => fun
  | [d, g1] => { results := [.lit (.bool false)], args := [d], vars := [g1] }
  | _ => none }
def FnDenseWrongFalsely : Prop := fnDenseRow.holds Tryd.pinned (OpenSpec.ofChange fnDenseWrong)

/-- 'laws.FnPages': WHATEVER THE INPUT: true; the input reads as it did. -/
def fnPagesSpec : ChangeSpec := { name := "fnPages", vars := ["loop.example/keyswitches/impl.errNoTarget"], fn := fun _ => fun
  | [d1, d2, g1] => { results := [.lit (.bool true)], args := [d1, d2], vars := [g1] }
  | _ => none }
def fnPagesRow : OpenClaim := { program := "ytbbejkimgkpfkaadoor", sum := "cb4774bfaaf5594a55cb157a54d71a4d3a1d3805cffbfc091f555f3535a95a99", func := "loop.example/keyswitches/laws.FnPages", spec := "fnPages", unfollowed := true, recurses := true, named := ["loop.example/keyswitches/impl.errNoTarget"], ifaces := true, plainKeys := false, apart := false, laid := [("loop.example/keyswitches/impl.errNoTarget", laid_loop_example_keyswitches_impl_errNoTarget)] }
def FnPagesSaid : Prop := fnPagesRow.holds Tryd.pinned (OpenSpec.ofChange fnPagesSpec)

/-- ITS FALSE NEIGHBOUR: 'it returns false'. Refute it at one input. -/
def fnPagesWrong : ChangeSpec := { name := "fnPages", vars := ["loop.example/keyswitches/impl.errNoTarget"], fn := fun _ => fun
  | [d1, d2, g1] => { results := [.lit (.bool false)], args := [d1, d2], vars := [g1] }
  | _ => none }
def FnPagesWrongFalsely : Prop := fnPagesRow.holds Tryd.pinned (OpenSpec.ofChange fnPagesWrong)

/-- 'laws.FnExactTableFor': WHATEVER THE INPUT: true; the input reads as it did. -/
def fnExactTableForSpec : ChangeSpec := { name := "fnExactTableFor", vars := ["loop.example/keyswitches/impl.errNoTarget"], fn := fun _ => fun
  | [d1, d2, d3, g1] => { results := [.lit (.bool true)], args := [d1, d2, d3], vars := [g1] }
  | _ => none }
def fnExactTableForRow : OpenClaim := { program := "ytbbejkimgkpfkaadoor", sum := "cb4774bfaaf5594a55cb157a54d71a4d3a1d3805cffbfc091f555f3535a95a99", func := "loop.example/keyswitches/laws.FnExactTableFor", spec := "fnExactTableFor", unfollowed := true, recurses := true, named := ["loop.example/keyswitches/impl.errNoTarget"], ifaces := true, plainKeys := false, apart := false, laid := [("loop.example/keyswitches/impl.errNoTarget", laid_loop_example_keyswitches_impl_errNoTarget)] }
def FnExactTableForSaid : Prop := fnExactTableForRow.holds Tryd.pinned (OpenSpec.ofChange fnExactTableForSpec)

/-- ITS FALSE NEIGHBOUR: 'it returns false'. Refute it at one input. -/
def fnExactTableForWrong : ChangeSpec := { name := "fnExactTableFor", vars := ["loop.example/keyswitches/impl.errNoTarget"], fn := fun _ => fun
  | [d1, d2, d3, g1] => { results := [.lit (.bool false)], args := [d1, d2, d3], vars := [g1] }
  | _ => none }
def FnExactTableForWrongFalsely : Prop := fnExactTableForRow.holds Tryd.pinned (OpenSpec.ofChange fnExactTableForWrong)

/-- 'laws.FnExactDensity': WHATEVER THE INPUT: true; the input reads as it did. -/
def fnExactDensitySpec : ChangeSpec := { name := "fnExactDensity", vars := ["loop.example/keyswitches/impl.errNoTarget"], fn := fun _ => fun
  | [d1, d2, d3, g1] => { results := [.lit (.bool true)], args := [d1, d2, d3], vars := [g1] }
  | _ => none }
def fnExactDensityRow : OpenClaim := { program := "ytbbejkimgkpfkaadoor", sum := "cb4774bfaaf5594a55cb157a54d71a4d3a1d3805cffbfc091f555f3535a95a99", func := "loop.example/keyswitches/laws.FnExactDensity", spec := "fnExactDensity", unfollowed := true, recurses := true, named := ["loop.example/keyswitches/impl.errNoTarget"], ifaces := true, plainKeys := false, apart := false, laid := [("loop.example/keyswitches/impl.errNoTarget", laid_loop_example_keyswitches_impl_errNoTarget)] }
def FnExactDensitySaid : Prop := fnExactDensityRow.holds Tryd.pinned (OpenSpec.ofChange fnExactDensitySpec)

/-- ITS FALSE NEIGHBOUR: 'it returns false'. Refute it at one input. -/
def fnExactDensityWrong : ChangeSpec := { name := "fnExactDensity", vars := ["loop.example/keyswitches/impl.errNoTarget"], fn := fun _ => fun
  | [d1, d2, d3, g1] => { results := [.lit (.bool false)], args := [d1, d2, d3], vars := [g1] }
  | _ => none }
def FnExactDensityWrongFalsely : Prop := fnExactDensityRow.holds Tryd.pinned (OpenSpec.ofChange fnExactDensityWrong)

/-- 'laws.FnExactDenseCases': WHATEVER THE INPUT: true; the input reads as it did. -/
def fnExactDenseCasesSpec : ChangeSpec := { name := "fnExactDenseCases", vars := ["loop.example/keyswitches/impl.errNoTarget"], fn := fun _ => fun
  | [d1, d2, g1] => { results := [.lit (.bool true)], args := [d1, d2], vars := [g1] }
  | _ => none }
def fnExactDenseCasesRow : OpenClaim := { program := "ytbbejkimgkpfkaadoor", sum := "cb4774bfaaf5594a55cb157a54d71a4d3a1d3805cffbfc091f555f3535a95a99", func := "loop.example/keyswitches/laws.FnExactDenseCases", spec := "fnExactDenseCases", unfollowed := true, recurses := true, named := ["loop.example/keyswitches/impl.errNoTarget"], ifaces := true, plainKeys := false, apart := false, laid := [("loop.example/keyswitches/impl.errNoTarget", laid_loop_example_keyswitches_impl_errNoTarget)] }
def FnExactDenseCasesSaid : Prop := fnExactDenseCasesRow.holds Tryd.pinned (OpenSpec.ofChange fnExactDenseCasesSpec)

/-- ITS FALSE NEIGHBOUR: 'it returns false'. Refute it at one input. -/
def fnExactDenseCasesWrong : ChangeSpec := { name := "fnExactDenseCases", vars := ["loop.example/keyswitches/impl.errNoTarget"], fn := fun _ => fun
  | [d1, d2, g1] => { results := [.lit (.bool false)], args := [d1, d2], vars := [g1] }
  | _ => none }
def FnExactDenseCasesWrongFalsely : Prop := fnExactDenseCasesRow.holds Tryd.pinned (OpenSpec.ofChange fnExactDenseCasesWrong)

/-- 'laws.FnExactPagesOf': WHATEVER THE INPUT: true; the input reads as it did. -/
def fnExactPagesOfSpec : ChangeSpec := { name := "fnExactPagesOf", vars := ["loop.example/keyswitches/impl.errNoTarget"], fn := fun _ => fun
  | [d1, d2, g1] => { results := [.lit (.bool true)], args := [d1, d2], vars := [g1] }
  | _ => none }
def fnExactPagesOfRow : OpenClaim := { program := "ytbbejkimgkpfkaadoor", sum := "cb4774bfaaf5594a55cb157a54d71a4d3a1d3805cffbfc091f555f3535a95a99", func := "loop.example/keyswitches/laws.FnExactPagesOf", spec := "fnExactPagesOf", unfollowed := true, recurses := true, named := ["loop.example/keyswitches/impl.errNoTarget"], ifaces := true, plainKeys := false, apart := false, laid := [("loop.example/keyswitches/impl.errNoTarget", laid_loop_example_keyswitches_impl_errNoTarget)] }
def FnExactPagesOfSaid : Prop := fnExactPagesOfRow.holds Tryd.pinned (OpenSpec.ofChange fnExactPagesOfSpec)

/-- ITS FALSE NEIGHBOUR: 'it returns false'. Refute it at one input. -/
def fnExactPagesOfWrong : ChangeSpec := { name := "fnExactPagesOf", vars := ["loop.example/keyswitches/impl.errNoTarget"], fn := fun _ => fun
  | [d1, d2, g1] => { results := [.lit (.bool false)], args := [d1, d2], vars := [g1] }
  | _ => none }
def FnExactPagesOfWrongFalsely : Prop := fnExactPagesOfRow.holds Tryd.pinned (OpenSpec.ofChange fnExactPagesOfWrong)

/-- 'laws.FnExactPagedSize': WHATEVER THE INPUT: true; the input reads as it did. -/
def fnExactPagedSizeSpec : ChangeSpec := { name := "fnExactPagedSize", vars := ["loop.example/keyswitches/impl.errNoTarget"], fn := fun _ => fun
  | [d1, d2, g1] => { results := [.lit (.bool true)], args := [d1, d2], vars := [g1] }
  | _ => none }
def fnExactPagedSizeRow : OpenClaim := { program := "ytbbejkimgkpfkaadoor", sum := "cb4774bfaaf5594a55cb157a54d71a4d3a1d3805cffbfc091f555f3535a95a99", func := "loop.example/keyswitches/laws.FnExactPagedSize", spec := "fnExactPagedSize", unfollowed := true, recurses := true, named := ["loop.example/keyswitches/impl.errNoTarget"], ifaces := true, plainKeys := false, apart := false, laid := [("loop.example/keyswitches/impl.errNoTarget", laid_loop_example_keyswitches_impl_errNoTarget)] }
def FnExactPagedSizeSaid : Prop := fnExactPagedSizeRow.holds Tryd.pinned (OpenSpec.ofChange fnExactPagedSizeSpec)

/-- ITS FALSE NEIGHBOUR: 'it returns false'. Refute it at one input. -/
def fnExactPagedSizeWrong : ChangeSpec := { name := "fnExactPagedSize", vars := ["loop.example/keyswitches/impl.errNoTarget"], fn := fun _ => fun
  | [d1, d2, g1] => { results := [.lit (.bool false)], args := [d1, d2], vars := [g1] }
  | _ => none }
def FnExactPagedSizeWrongFalsely : Prop := fnExactPagedSizeRow.holds Tryd.pinned (OpenSpec.ofChange fnExactPagedSizeWrong)

/-- 'laws.FnExactBestPage': WHATEVER THE INPUT: true; the input reads as it did. -/
def fnExactBestPageSpec : ChangeSpec := { name := "fnExactBestPage", vars := ["loop.example/keyswitches/impl.errNoTarget"], fn := fun _ => fun
  | [d, g1] => { results := [.lit (.bool true)], args := [d], vars := [g1] }
  | _ => none }
def fnExactBestPageRow : OpenClaim := { program := "ytbbejkimgkpfkaadoor", sum := "cb4774bfaaf5594a55cb157a54d71a4d3a1d3805cffbfc091f555f3535a95a99", func := "loop.example/keyswitches/laws.FnExactBestPage", spec := "fnExactBestPage", unfollowed := true, recurses := true, named := ["loop.example/keyswitches/impl.errNoTarget"], ifaces := true, plainKeys := false, apart := false, laid := [("loop.example/keyswitches/impl.errNoTarget", laid_loop_example_keyswitches_impl_errNoTarget)] }
def FnExactBestPageSaid : Prop := fnExactBestPageRow.holds Tryd.pinned (OpenSpec.ofChange fnExactBestPageSpec)

/-- ITS FALSE NEIGHBOUR: 'it returns false'. Refute it at one input. -/
def fnExactBestPageWrong : ChangeSpec := { name := "fnExactBestPage", vars := ["loop.example/keyswitches/impl.errNoTarget"], fn := fun _ => fun
  | [d, g1] => { results := [.lit (.bool false)], args := [d], vars := [g1] }
  | _ => none }
def FnExactBestPageWrongFalsely : Prop := fnExactBestPageRow.holds Tryd.pinned (OpenSpec.ofChange fnExactBestPageWrong)

/- THE SECOND FORM. 'bulk': how many values and letters a reading holds, each counted each time it is reached (what is shared counts as often as it is met; a slice's spare places count too). A statement '..UptoSaid' is the law's where the arguments, and the package variables that the reading takes, are together of bulk at most 1048576: NARROWER than '..Said'. Prove '..Said' where nothing that the law and all that it calls make is longer than what came in: it says more and counts as full. Else prove '..UptoSaid'. A law counts once. -/
mutual
def uptoBulk {H : Type} : DataW H → Nat
  | .lit (.string bytes) => bytes.length + 1
  | .lit _ => 1
  | .nil => 1
  | .ptr d => uptoBulk d + 1
  | .slice elems spare => uptoBulkAll elems + uptoBulkAll spare + 1
  | .agg parts => uptoBulkAll parts + 1
  | .iface _ d => uptoBulk d + 1
  | .map entries => uptoBulkEntries entries + 1
  | .held _ => 1
def uptoBulkAll {H : Type} : List (DataW H) → Nat
  | [] => 0
  | d :: r => uptoBulk d + uptoBulkAll r
def uptoBulkEntries {H : Type} : List (Lit × DataW H) → Nat
  | [] => 0
  | x :: r => uptoBulkEntry x + uptoBulkEntries r
def uptoBulkEntry {H : Type} : Lit × DataW H → Nat
  | (.string bytes, d) => bytes.length + uptoBulk d + 1
  | (_, d) => uptoBulk d + 1
 end
def uptoSmall : (H : Type) → List (DataW H) → Bool := fun _ ds => decide (uptoBulkAll ds ≤ 1048576)
def OpenSpec.upto (s : _root_.Go.ChangeSpec) : _root_.Go.OpenSpec := { _root_.Go.OpenSpec.ofChange s with cond := some uptoSmall }

/-- 'laws.FnBestChain', WHERE WHAT IT READS IS OF BULK AT MOST 1048576: true; the input reads as it did. -/
def fnBestChainUptoRow : OpenClaim := { program := "ytbbejkimgkpfkaadoor", sum := "cb4774bfaaf5594a55cb157a54d71a4d3a1d3805cffbfc091f555f3535a95a99", func := "loop.example/keyswitches/laws.FnBestChain", spec := "fnBestChain", unfollowed := true, recurses := true, named := ["loop.example/keyswitches/impl.errNoTarget"], ifaces := true, plainKeys := false, apart := false, laid := [("loop.example/keyswitches/impl.errNoTarget", laid_loop_example_keyswitches_impl_errNoTarget)], narrowed := true }
def FnBestChainUptoSaid : Prop := fnBestChainUptoRow.holds Tryd.pinned (OpenSpec.upto fnBestChainSpec)

/-- 'laws.FnTable', WHERE WHAT IT READS IS OF BULK AT MOST 1048576: true; the input reads as it did. -/
def fnTableUptoRow : OpenClaim := { program := "ytbbejkimgkpfkaadoor", sum := "cb4774bfaaf5594a55cb157a54d71a4d3a1d3805cffbfc091f555f3535a95a99", func := "loop.example/keyswitches/laws.FnTable", spec := "fnTable", unfollowed := true, recurses := true, named := ["loop.example/keyswitches/impl.errNoTarget"], ifaces := true, plainKeys := false, apart := false, laid := [("loop.example/keyswitches/impl.errNoTarget", laid_loop_example_keyswitches_impl_errNoTarget)], narrowed := true }
def FnTableUptoSaid : Prop := fnTableUptoRow.holds Tryd.pinned (OpenSpec.upto fnTableSpec)

/-- 'laws.FnDense', WHERE WHAT IT READS IS OF BULK AT MOST 1048576: true; the input reads as it did. -/
def fnDenseUptoRow : OpenClaim := { program := "ytbbejkimgkpfkaadoor", sum := "cb4774bfaaf5594a55cb157a54d71a4d3a1d3805cffbfc091f555f3535a95a99", func := "loop.example/keyswitches/laws.FnDense", spec := "fnDense", unfollowed := true, recurses := true, named := ["loop.example/keyswitches/impl.errNoTarget"], ifaces := true, plainKeys := false, apart := false, laid := [("loop.example/keyswitches/impl.errNoTarget", laid_loop_example_keyswitches_impl_errNoTarget)], narrowed := true }
def FnDenseUptoSaid : Prop := fnDenseUptoRow.holds Tryd.pinned (OpenSpec.upto fnDenseSpec)

/-- 'laws.FnPages', WHERE WHAT IT READS IS OF BULK AT MOST 1048576: true; the input reads as it did. -/
def fnPagesUptoRow : OpenClaim := { program := "ytbbejkimgkpfkaadoor", sum := "cb4774bfaaf5594a55cb157a54d71a4d3a1d3805cffbfc091f555f3535a95a99", func := "loop.example/keyswitches/laws.FnPages", spec := "fnPages", unfollowed := true, recurses := true, named := ["loop.example/keyswitches/impl.errNoTarget"], ifaces := true, plainKeys := false, apart := false, laid := [("loop.example/keyswitches/impl.errNoTarget", laid_loop_example_keyswitches_impl_errNoTarget)], narrowed := true }
def FnPagesUptoSaid : Prop := fnPagesUptoRow.holds Tryd.pinned (OpenSpec.upto fnPagesSpec)

/-- 'laws.FnExactTableFor', WHERE WHAT IT READS IS OF BULK AT MOST 1048576: true; the input reads as it did. -/
def fnExactTableForUptoRow : OpenClaim := { program := "ytbbejkimgkpfkaadoor", sum := "cb4774bfaaf5594a55cb157a54d71a4d3a1d3805cffbfc091f555f3535a95a99", func := "loop.example/keyswitches/laws.FnExactTableFor", spec := "fnExactTableFor", unfollowed := true, recurses := true, named := ["loop.example/keyswitches/impl.errNoTarget"], ifaces := true, plainKeys := false, apart := false, laid := [("loop.example/keyswitches/impl.errNoTarget", laid_loop_example_keyswitches_impl_errNoTarget)], narrowed := true }
def FnExactTableForUptoSaid : Prop := fnExactTableForUptoRow.holds Tryd.pinned (OpenSpec.upto fnExactTableForSpec)

/-- 'laws.FnExactDensity', WHERE WHAT IT READS IS OF BULK AT MOST 1048576: true; the input reads as it did. -/
def fnExactDensityUptoRow : OpenClaim := { program := "ytbbejkimgkpfkaadoor", sum := "cb4774bfaaf5594a55cb157a54d71a4d3a1d3805cffbfc091f555f3535a95a99", func := "loop.example/keyswitches/laws.FnExactDensity", spec := "fnExactDensity", unfollowed := true, recurses := true, named := ["loop.example/keyswitches/impl.errNoTarget"], ifaces := true, plainKeys := false, apart := false, laid := [("loop.example/keyswitches/impl.errNoTarget", laid_loop_example_keyswitches_impl_errNoTarget)], narrowed := true }
def FnExactDensityUptoSaid : Prop := fnExactDensityUptoRow.holds Tryd.pinned (OpenSpec.upto fnExactDensitySpec)

/-- 'laws.FnExactDenseCases', WHERE WHAT IT READS IS OF BULK AT MOST 1048576: true; the input reads as it did. -/
def fnExactDenseCasesUptoRow : OpenClaim := { program := "ytbbejkimgkpfkaadoor", sum := "cb4774bfaaf5594a55cb157a54d71a4d3a1d3805cffbfc091f555f3535a95a99", func := "loop.example/keyswitches/laws.FnExactDenseCases", spec := "fnExactDenseCases", unfollowed := true, recurses := true, named := ["loop.example/keyswitches/impl.errNoTarget"], ifaces := true, plainKeys := false, apart := false, laid := [("loop.example/keyswitches/impl.errNoTarget", laid_loop_example_keyswitches_impl_errNoTarget)], narrowed := true }
def FnExactDenseCasesUptoSaid : Prop := fnExactDenseCasesUptoRow.holds Tryd.pinned (OpenSpec.upto fnExactDenseCasesSpec)

/-- 'laws.FnExactPagesOf', WHERE WHAT IT READS IS OF BULK AT MOST 1048576: true; the input reads as it did. -/
def fnExactPagesOfUptoRow : OpenClaim := { program := "ytbbejkimgkpfkaadoor", sum := "cb4774bfaaf5594a55cb157a54d71a4d3a1d3805cffbfc091f555f3535a95a99", func := "loop.example/keyswitches/laws.FnExactPagesOf", spec := "fnExactPagesOf", unfollowed := true, recurses := true, named := ["loop.example/keyswitches/impl.errNoTarget"], ifaces := true, plainKeys := false, apart := false, laid := [("loop.example/keyswitches/impl.errNoTarget", laid_loop_example_keyswitches_impl_errNoTarget)], narrowed := true }
def FnExactPagesOfUptoSaid : Prop := fnExactPagesOfUptoRow.holds Tryd.pinned (OpenSpec.upto fnExactPagesOfSpec)

/-- 'laws.FnExactPagedSize', WHERE WHAT IT READS IS OF BULK AT MOST 1048576: true; the input reads as it did. -/
def fnExactPagedSizeUptoRow : OpenClaim := { program := "ytbbejkimgkpfkaadoor", sum := "cb4774bfaaf5594a55cb157a54d71a4d3a1d3805cffbfc091f555f3535a95a99", func := "loop.example/keyswitches/laws.FnExactPagedSize", spec := "fnExactPagedSize", unfollowed := true, recurses := true, named := ["loop.example/keyswitches/impl.errNoTarget"], ifaces := true, plainKeys := false, apart := false, laid := [("loop.example/keyswitches/impl.errNoTarget", laid_loop_example_keyswitches_impl_errNoTarget)], narrowed := true }
def FnExactPagedSizeUptoSaid : Prop := fnExactPagedSizeUptoRow.holds Tryd.pinned (OpenSpec.upto fnExactPagedSizeSpec)

/-- 'laws.FnExactBestPage', WHERE WHAT IT READS IS OF BULK AT MOST 1048576: true; the input reads as it did. -/
def fnExactBestPageUptoRow : OpenClaim := { program := "ytbbejkimgkpfkaadoor", sum := "cb4774bfaaf5594a55cb157a54d71a4d3a1d3805cffbfc091f555f3535a95a99", func := "loop.example/keyswitches/laws.FnExactBestPage", spec := "fnExactBestPage", unfollowed := true, recurses := true, named := ["loop.example/keyswitches/impl.errNoTarget"], ifaces := true, plainKeys := false, apart := false, laid := [("loop.example/keyswitches/impl.errNoTarget", laid_loop_example_keyswitches_impl_errNoTarget)], narrowed := true }
def FnExactBestPageUptoSaid : Prop := fnExactBestPageUptoRow.holds Tryd.pinned (OpenSpec.upto fnExactBestPageSpec)

end Rows
end Go.Proofs.YtbbejkimgkpfkaaDoor
