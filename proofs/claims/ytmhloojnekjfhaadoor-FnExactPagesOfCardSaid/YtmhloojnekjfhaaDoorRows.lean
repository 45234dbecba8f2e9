/-
  NARROWER THAN 'FOR EVERY INPUT', by the rows' own cells (each row's printed sentence says how): FnPages: ifaces, laid · FnExactPagesOf: ifaces, laid · FnExactPagedSize: ifaces, laid · FnExactBestPage: ifaces, laid.
  DERIVED. THE GIVEN ROWS OF THIS SEAT. 4 by the template 'for every input the law returns true; each argument reads behind the call as it read before'; 0 by the template 'total and deterministic' (their statements: YtmhloojnekjfhaaDoorTotals.lean).
  GIVEN WITH THE SEED: the statements are not yours to turn. If you find one false, say at which input.
  Laid BY PROGRAM, IN A SANDBOX (cutbox-rows.mjs): the forced cells as the released guide's own fill.sh prints them over the translation 9e0905419ec5c8f7… (all of the seat's roots in one cut). By AI agents, Wed Nov 11 2026. No macro, syntax, notation, axiom, sorry.
-/
import Derived.Test.YtmhloojnekjfhaaDoorChecked
import GoSem.Claim
import GoSem.ClaimJoined
import GoSem.ClaimMapViews
import Derived.JoinedTies
import Derived.KernelRfl
namespace Go.Proofs.YtmhloojnekjfhaaDoor
/- THE CELL 'sum', in the pinned program and in every row, IS THE sha256 OF THE DUMP (.gsa) THAT YtmhloojnekjfhaaDoorProg.lean LOADS. Nothing in Lean hashes anything: it is a label: what it is worth is what the hold of that sum in a sandbox is worth. -/
noncomputable def Tryd.pinned : Pinned := { name := "ytmhloojnekjfhaadoor", sum := "9e0905419ec5c8f7e98980bb19b0da4695f7c5a126cb86c8bb7192a7e32c00b8", checked := Tryd.checked }
namespace Rows
def none {H : Type} : Left H := { results := [], args := [] }

/- WHAT THE LISTED PACKAGE-LEVEL VARIABLES READ AS WHEN THE CALL BEGINS. Each datum BY PROGRAM (the guide's laid-datum.mjs) off the statement by which the dump's own 'gosem.cut.vars' lays the variable. In a bare row this is a premise. The card (YtmhloojnekjfhaaDoorCards.lean) ties it to the program's text. -/
def laid_loop_example_keyswitches_impl_errNoTarget {H : Type} : DataW H := .iface "*errors.errorString" (.ptr (.agg [.lit (.string [110, 111, 32, 116, 97, 114, 103, 101, 116])]))

/-- 'laws.FnPages': WHATEVER THE INPUT: true; the input reads as it did. -/
def fnPagesSpec : ChangeSpec := { name := "fnPages", vars := ["loop.example/keyswitches/impl.errNoTarget"], fn := fun _ => fun
  | [d1, d2, g1] => { results := [.lit (.bool true)], args := [d1, d2], vars := [g1] }
  | _ => none }
def fnPagesRow : OpenClaim := { program := "ytmhloojnekjfhaadoor", sum := "9e0905419ec5c8f7e98980bb19b0da4695f7c5a126cb86c8bb7192a7e32c00b8", func := "loop.example/keyswitches/laws.FnPages", spec := "fnPages", unfollowed := true, recurses := true, named := ["loop.example/keyswitches/impl.errNoTarget"], ifaces := true, plainKeys := false, apart := false, laid := [("loop.example/keyswitches/impl.errNoTarget", laid_loop_example_keyswitches_impl_errNoTarget)] }
def FnPagesSaid : Prop := fnPagesRow.holds Tryd.pinned (OpenSpec.ofChange fnPagesSpec)

/-- ITS FALSE NEIGHBOUR: 'it returns false'. Refute it at one input. -/
def fnPagesWrong : ChangeSpec := { name := "fnPages", vars := ["loop.example/keyswitches/impl.errNoTarget"], fn := fun _ => fun
  | [d1, d2, g1] => { results := [.lit (.bool false)], args := [d1, d2], vars := [g1] }
  | _ => none }
def FnPagesWrongFalsely : Prop := fnPagesRow.holds Tryd.pinned (OpenSpec.ofChange fnPagesWrong)

/-- 'laws.FnExactPagesOf': WHATEVER THE INPUT: true; the input reads as it did. -/
def fnExactPagesOfSpec : ChangeSpec := { name := "fnExactPagesOf", vars := ["loop.example/keyswitches/impl.errNoTarget"], fn := fun _ => fun
  | [d1, d2, g1] => { results := [.lit (.bool true)], args := [d1, d2], vars := [g1] }
  | _ => none }
def fnExactPagesOfRow : OpenClaim := { program := "ytmhloojnekjfhaadoor", sum := "9e0905419ec5c8f7e98980bb19b0da4695f7c5a126cb86c8bb7192a7e32c00b8", func := "loop.example/keyswitches/laws.FnExactPagesOf", spec := "fnExactPagesOf", unfollowed := true, recurses := true, named := ["loop.example/keyswitches/impl.errNoTarget"], ifaces := true, plainKeys := false, apart := false, laid := [("loop.example/keyswitches/impl.errNoTarget", laid_loop_example_keyswitches_impl_errNoTarget)] }
def FnExactPagesOfSaid : Prop := fnExactPagesOfRow.holds Tryd.pinned (OpenSpec.ofChange fnExactPagesOfSpec)

/-- ITS FALSE NEIGHBOUR: 'it returns false'. Refute it at one input. -/
def fnExactPagesOfWrong : ChangeSpec := { name := "fnExactPagesOf", vars := ["loop.example/keyswitches/impl.errNoTarget"], fn := fun _ => fun
  | [d1, d2, g1] => { results := [.lit (.bool false)], args := [d1, d2], vars := [g1] }
  | _ => none }
def FnExactPagesOfWrongFalsely : Prop := fnExactPagesOfRow.holds Tryd.pinned (OpenSpec.ofChange fnExactPagesOfWrong)

/-- 'laws.FnExactPagedSize': WHATEVER THE INPUT: true; the input reads as it did. -/
def fnExactPagedSizeSpec : ChangeSpec := { name := "fnExactPagedSize", vars := ["loop.example/keyswitches/impl.errNoTarget"], fn := fun _ => fun
  | [d1, d2, g1] => { results := [.lit (.bool true)], args := [d1, d2], vars := [g1] }
  | _ => none }
def fnExactPagedSizeRow : OpenClaim := { program := "ytmhloojnekjfhaadoor", sum := "9e0905419ec5c8f7e98980bb19b0da4695f7c5a126cb86c8bb7192a7e32c00b8", func := "loop.example/keyswitches/laws.FnExactPagedSize", spec := "fnExactPagedSize", unfollowed := true, recurses := true, named := ["loop.example/keyswitches/impl.errNoTarget"], ifaces := true, plainKeys := false, apart := false, laid := [("loop.example/keyswitches/impl.errNoTarget", laid_loop_example_keyswitches_impl_errNoTarget)] }
def FnExactPagedSizeSaid : Prop := fnExactPagedSizeRow.holds Tryd.pinned (OpenSpec.ofChange fnExactPagedSizeSpec)

/-- ITS FALSE NEIGHBOUR: 'it returns false'. Refute it at one input. -/
def fnExactPagedSizeWrong : ChangeSpec := { name := "fnExactPagedSize", vars := ["loop.example/keyswitches/impl.errNoTarget"], fn := fun _ => fun
  | [d1, d2, g1] => { results := [.lit (.bool false)], args := [d1, d2], vars := [g1] }
  | _ => none }
def FnExactPagedSizeWrongFalsely : Prop := fnExactPagedSizeRow.holds Tryd.pinned (OpenSpec.ofChange fnExactPagedSizeWrong)

/-- 'laws.FnExactBestPage': WHATEVER THE INPUT: true; the input reads as it did. -/
def fnExactBestPageSpec : ChangeSpec := { name := "fnExactBestPage", vars := ["loop.example/keyswitches/impl.errNoTarget"], fn := fun _ => fun
  | [d, g1] => { results := [.lit (.bool true)], args := [d], vars := [g1] }
  | _ => none }
def fnExactBestPageRow : OpenClaim := { program := "ytmhloojnekjfhaadoor", sum := "9e0905419ec5c8f7e98980bb19b0da4695f7c5a126cb86c8bb7192a7e32c00b8", func := "loop.example/keyswitches/laws.FnExactBestPage", spec := "fnExactBestPage", unfollowed := true, recurses := true, named := ["loop.example/keyswitches/impl.errNoTarget"], ifaces := true, plainKeys := false, apart := false, laid := [("loop.example/keyswitches/impl.errNoTarget", laid_loop_example_keyswitches_impl_errNoTarget)] }
def FnExactBestPageSaid : Prop := fnExactBestPageRow.holds Tryd.pinned (OpenSpec.ofChange fnExactBestPageSpec)

/-- ITS FALSE NEIGHBOUR: 'it returns false'. Refute it at one input. -/
def fnExactBestPageWrong : ChangeSpec := { name := "fnExactBestPage", vars := ["loop.example/keyswitches/impl.errNoTarget"], fn := fun _ => fun
  | [d, g1] => { results := [.lit (.bool false)], args := [d], vars := [g1] }
  | _ => none }
def FnExactBestPageWrongFalsely : Prop := fnExactBestPageRow.holds Tryd.pinned (OpenSpec.ofChange fnExactBestPageWrong)

/- THE SECOND FORM. 'bulk': how many values and letters a reading holds, each counted each time it is reached (what is shared counts as often as it is met; a slice's spare places count too). A statement '..UptoSaid' is the law's where the arguments, and the package variables that the reading takes, are together of bulk at most 1048576: NARROWER than '..Said'. Prove '..Said' where nothing that the law and all that it calls make is longer than what came in: it says more and counts as full. Else prove '..UptoSaid'. A law counts once. -/
mutual
def uptoBulk {H : Type} : DataW H → Nat
  | .lit (.string bytes) => bytes.length + 1
  | .lit _ => 1
  | .nil => 1
  | .ptr d => uptoBulk d + 1
  | .slice elems spare => uptoBulkAll elems + uptoBulkAll spare + 1
  | .agg parts => uptoBulkAll parts + 1
  | .iface _ d => uptoBulk d + 1
  | .map entries => uptoBulkEntries entries + 1
  | .held _ => 1
def uptoBulkAll {H : Type} : List (DataW H) → Nat
  | [] => 0
  | d :: r => uptoBulk d + uptoBulkAll r
def uptoBulkEntries {H : Type} : List (Lit × DataW H) → Nat
  | [] => 0
  | x :: r => uptoBulkEntry x + uptoBulkEntries r
def uptoBulkEntry {H : Type} : Lit × DataW H → Nat
  | (.string bytes, d) => bytes.length + uptoBulk d + 1
  | (_, d) => uptoBulk d + 1
 end
def uptoSmall : (H : Type) → List (DataW H) → Bool := fun _ ds => decide (uptoBulkAll ds ≤ 1048576)
def OpenSpec.upto (s : _root_.Go.ChangeSpec) : _root_.Go.OpenSpec := { _root_.Go.OpenSpec.ofChange s with cond := some uptoSmall }

/-- 'laws.FnPages', WHERE WHAT IT READS IS OF BULK AT MOST 1048576: true; the input reads as it did. -/
def fnPagesUptoRow : OpenClaim := { program := "ytmhloojnekjfhaadoor", sum := "9e0905419ec5c8f7e98980bb19b0da4695f7c5a126cb86c8bb7192a7e32c00b8", func := "loop.example/keyswitches/laws.FnPages", spec := "fnPages", unfollowed := true, recurses := true, named := ["loop.example/keyswitches/impl.errNoTarget"], ifaces := true, plainKeys := false, apart := false, laid := [("loop.example/keyswitches/impl.errNoTarget", laid_loop_example_keyswitches_impl_errNoTarget)], narrowed := true }
def FnPagesUptoSaid : Prop := fnPagesUptoRow.holds Tryd.pinned (OpenSpec.upto fnPagesSpec)

/-- 'laws.FnExactPagesOf', WHERE WHAT IT READS IS OF BULK AT MOST 1048576: true; the input reads as it did. -/
def fnExactPagesOfUptoRow : OpenClaim := { program := "ytmhloojnekjfhaadoor", sum := "9e0905419ec5c8f7e98980bb19b0da4695f7c5a126cb86c8bb7192a7e32c00b8", func := "loop.example/keyswitches/laws.FnExactPagesOf", spec := "fnExactPagesOf", unfollowed := true, recurses := true, named := ["loop.example/keyswitches/impl.errNoTarget"], ifaces := true, plainKeys := false, apart := false, laid := [("loop.example/keyswitches/impl.errNoTarget", laid_loop_example_keyswitches_impl_errNoTarget)], narrowed := true }
def FnExactPagesOfUptoSaid : Prop := fnExactPagesOfUptoRow.holds Tryd.pinned (OpenSpec.upto fnExactPagesOfSpec)

/-- 'laws.FnExactPagedSize', WHERE WHAT IT READS IS OF BULK AT MOST 1048576: true; the input reads as it did. -/
def fnExactPagedSizeUptoRow : OpenClaim := { program := "ytmhloojnekjfhaadoor", sum := "9e0905419ec5c8f7e98980bb19b0da4695f7c5a126cb86c8bb7192a7e32c00b8", func := "loop.example/keyswitches/laws.FnExactPagedSize", spec := "fnExactPagedSize", unfollowed := true, recurses := true, named := ["loop.example/keyswitches/impl.errNoTarget"], ifaces := true, plainKeys := false, apart := false, laid := [("loop.example/keyswitches/impl.errNoTarget", laid_loop_example_keyswitches_impl_errNoTarget)], narrowed := true }
def FnExactPagedSizeUptoSaid : Prop := fnExactPagedSizeUptoRow.holds Tryd.pinned (OpenSpec.upto fnExactPagedSizeSpec)

/-- 'laws.FnExactBestPage', WHERE WHAT IT READS IS OF BULK AT MOST 1048576: true; the input reads as it did. -/
def fnExactBestPageUptoRow : OpenClaim := { program := "ytmhloojnekjfhaadoor", sum := "9e0905419ec5c8f7e98980bb19b0da4695f7c5a126cb86c8bb7192a7e32c00b8", func := "loop.example/keyswitches/laws.FnExactBestPage", spec := "fnExactBestPage", unfollowed := true, recurses := true, named := ["loop.example/keyswitches/impl.errNoTarget"], ifaces := true, plainKeys := false, apart := false, laid := [("loop.example/keyswitches/impl.errNoTarget", laid_loop_example_keyswitches_impl_errNoTarget)], narrowed := true }
def FnExactBestPageUptoSaid : Prop := fnExactBestPageUptoRow.holds Tryd.pinned (OpenSpec.upto fnExactBestPageSpec)

end Rows
end Go.Proofs.YtmhloojnekjfhaaDoor
