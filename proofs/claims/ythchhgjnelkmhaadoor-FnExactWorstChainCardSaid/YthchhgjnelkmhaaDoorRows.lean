/-
  NARROWER THAN 'FOR EVERY INPUT', by the rows' own cells (each row's printed sentence says how): FnExactOrderValid: ifaces, laid · FnExactTestCost: ifaces, laid · FnExactRunChain: ifaces, laid · FnExactChainCost: ifaces, laid · FnExactBestChain: ifaces, laid · FnExactWorstChain: ifaces, laid · FnExactSwapGain: ifaces, laid · FnExactReachCosts: ifaces, laid.
  DERIVED. THE GIVEN ROWS OF THIS SEAT. 8 by the template 'for every input the law returns true; each argument reads behind the call as it read before'; 0 by the template 'total and deterministic' (their statements: YthchhgjnelkmhaaDoorTotals.lean).
  GIVEN WITH THE SEED: the statements are not yours to turn. If you find one false, say at which input.
  Laid BY PROGRAM, IN A SANDBOX (cutbox-rows.mjs): the forced cells as the released guide's own fill.sh prints them over the translation 9cff12abd23520e4… (all of the seat's roots in one cut). By AI agents, Wed Nov 11 2026. No macro, syntax, notation, axiom, sorry.
-/
import Derived.Test.YthchhgjnelkmhaaDoorChecked
import GoSem.Claim
import GoSem.ClaimJoined
import GoSem.ClaimMapViews
import Derived.JoinedTies
import Derived.KernelRfl
namespace Go.Proofs.YthchhgjnelkmhaaDoor
/- THE CELL 'sum', in the pinned program and in every row, IS THE sha256 OF THE DUMP (.gsa) THAT YthchhgjnelkmhaaDoorProg.lean LOADS. Nothing in Lean hashes anything: it is a label: what it is worth is what the hold of that sum in a sandbox is worth. -/
noncomputable def Tryd.pinned : Pinned := { name := "ythchhgjnelkmhaadoor", sum := "9cff12abd23520e40474477adf3e8c1a2cd4a20f467f5424710d37232bbbc9a0", checked := Tryd.checked }
namespace Rows
def none {H : Type} : Left H := { results := [], args := [] }

/- WHAT THE LISTED PACKAGE-LEVEL VARIABLES READ AS WHEN THE CALL BEGINS. Each datum BY PROGRAM (the guide's laid-datum.mjs) off the statement by which the dump's own 'gosem.cut.vars' lays the variable. In a bare row this is a premise. The card (YthchhgjnelkmhaaDoorCards.lean) ties it to the program's text. -/
def laid_loop_example_keyswitches_impl_errNoTarget {H : Type} : DataW H := .iface "*errors.errorString" (.ptr (.agg [.lit (.string [110, 111, 32, 116, 97, 114, 103, 101, 116])]))

/-- 'laws.FnExactOrderValid': WHATEVER THE INPUT: true; the input reads as it did. -/
def fnExactOrderValidSpec : ChangeSpec := { name := "fnExactOrderValid", vars := ["loop.example/keyswitches/impl.errNoTarget"], fn := fun _ => fun
  | [d1, d2, g1] => { results := [.lit (.bool true)], args := [d1, d2], vars := [g1] }
  | _ => none }
def fnExactOrderValidRow : OpenClaim := { program := "ythchhgjnelkmhaadoor", sum := "9cff12abd23520e40474477adf3e8c1a2cd4a20f467f5424710d37232bbbc9a0", func := "loop.example/keyswitches/laws.FnExactOrderValid", spec := "fnExactOrderValid", unfollowed := true, recurses := true, named := ["loop.example/keyswitches/impl.errNoTarget"], ifaces := true, apart := false, laid := [("loop.example/keyswitches/impl.errNoTarget", laid_loop_example_keyswitches_impl_errNoTarget)] }
def FnExactOrderValidSaid : Prop := fnExactOrderValidRow.holds Tryd.pinned (OpenSpec.ofChange fnExactOrderValidSpec)

/-- ITS FALSE NEIGHBOUR: 'it returns false'. Refute it at one input. -/
def fnExactOrderValidWrong : ChangeSpec := { name := "fnExactOrderValid", vars := ["loop.example/keyswitches/impl.errNoTarget"], fn := fun _ => fun
  | [d1, d2, g1] => { results := [.lit (.bool false)], args := [d1, d2], vars := [g1] }
  | _ => none }
def FnExactOrderValidWrongFalsely : Prop := fnExactOrderValidRow.holds Tryd.pinned (OpenSpec.ofChange fnExactOrderValidWrong)

/-- 'laws.FnExactTestCost': WHATEVER THE INPUT: true; the input reads as it did. -/
def fnExactTestCostSpec : ChangeSpec := { name := "fnExactTestCost", vars := ["loop.example/keyswitches/impl.errNoTarget"], fn := fun _ => fun
  | [d1, d2, g1] => { results := [.lit (.bool true)], args := [d1, d2], vars := [g1] }
  | _ => none }
def fnExactTestCostRow : OpenClaim := { program := "ythchhgjnelkmhaadoor", sum := "9cff12abd23520e40474477adf3e8c1a2cd4a20f467f5424710d37232bbbc9a0", func := "loop.example/keyswitches/laws.FnExactTestCost", spec := "fnExactTestCost", unfollowed := true, recurses := true, named := ["loop.example/keyswitches/impl.errNoTarget"], ifaces := true, apart := false, laid := [("loop.example/keyswitches/impl.errNoTarget", laid_loop_example_keyswitches_impl_errNoTarget)] }
def FnExactTestCostSaid : Prop := fnExactTestCostRow.holds Tryd.pinned (OpenSpec.ofChange fnExactTestCostSpec)

/-- ITS FALSE NEIGHBOUR: 'it returns false'. Refute it at one input. -/
def fnExactTestCostWrong : ChangeSpec := { name := "fnExactTestCost", vars := ["loop.example/keyswitches/impl.errNoTarget"], fn := fun _ => fun
  | [d1, d2, g1] => { results := [.lit (.bool false)], args := [d1, d2], vars := [g1] }
  | _ => none }
def FnExactTestCostWrongFalsely : Prop := fnExactTestCostRow.holds Tryd.pinned (OpenSpec.ofChange fnExactTestCostWrong)

/-- 'laws.FnExactRunChain': WHATEVER THE INPUT: true; the input reads as it did. -/
def fnExactRunChainSpec : ChangeSpec := { name := "fnExactRunChain", vars := ["loop.example/keyswitches/impl.errNoTarget"], fn := fun _ => fun
  | [d1, d2, d3, g1] => { results := [.lit (.bool true)], args := [d1, d2, d3], vars := [g1] }
  | _ => none }
def fnExactRunChainRow : OpenClaim := { program := "ythchhgjnelkmhaadoor", sum := "9cff12abd23520e40474477adf3e8c1a2cd4a20f467f5424710d37232bbbc9a0", func := "loop.example/keyswitches/laws.FnExactRunChain", spec := "fnExactRunChain", unfollowed := true, recurses := true, named := ["loop.example/keyswitches/impl.errNoTarget"], ifaces := true, apart := false, laid := [("loop.example/keyswitches/impl.errNoTarget", laid_loop_example_keyswitches_impl_errNoTarget)] }
def FnExactRunChainSaid : Prop := fnExactRunChainRow.holds Tryd.pinned (OpenSpec.ofChange fnExactRunChainSpec)

/-- ITS FALSE NEIGHBOUR: 'it returns false'. Refute it at one input. -/
def fnExactRunChainWrong : ChangeSpec := { name := "fnExactRunChain", vars := ["loop.example/keyswitches/impl.errNoTarget"], fn := fun _ => fun
  | [d1, d2, d3, g1] => { results := [.lit (.bool false)], args := [d1, d2, d3], vars := [g1] }
  | _ => none }
def FnExactRunChainWrongFalsely : Prop := fnExactRunChainRow.holds Tryd.pinned (OpenSpec.ofChange fnExactRunChainWrong)

/-- 'laws.FnExactChainCost': WHATEVER THE INPUT: true; the input reads as it did. -/
def fnExactChainCostSpec : ChangeSpec := { name := "fnExactChainCost", vars := ["loop.example/keyswitches/impl.errNoTarget"], fn := fun _ => fun
  | [d1, d2, g1] => { results := [.lit (.bool true)], args := [d1, d2], vars := [g1] }
  | _ => none }
def fnExactChainCostRow : OpenClaim := { program := "ythchhgjnelkmhaadoor", sum := "9cff12abd23520e40474477adf3e8c1a2cd4a20f467f5424710d37232bbbc9a0", func := "loop.example/keyswitches/laws.FnExactChainCost", spec := "fnExactChainCost", unfollowed := true, recurses := true, named := ["loop.example/keyswitches/impl.errNoTarget"], ifaces := true, apart := false, laid := [("loop.example/keyswitches/impl.errNoTarget", laid_loop_example_keyswitches_impl_errNoTarget)] }
def FnExactChainCostSaid : Prop := fnExactChainCostRow.holds Tryd.pinned (OpenSpec.ofChange fnExactChainCostSpec)

/-- ITS FALSE NEIGHBOUR: 'it returns false'. Refute it at one input. -/
def fnExactChainCostWrong : ChangeSpec := { name := "fnExactChainCost", vars := ["loop.example/keyswitches/impl.errNoTarget"], fn := fun _ => fun
  | [d1, d2, g1] => { results := [.lit (.bool false)], args := [d1, d2], vars := [g1] }
  | _ => none }
def FnExactChainCostWrongFalsely : Prop := fnExactChainCostRow.holds Tryd.pinned (OpenSpec.ofChange fnExactChainCostWrong)

/-- 'laws.FnExactBestChain': WHATEVER THE INPUT: true; the input reads as it did. -/
def fnExactBestChainSpec : ChangeSpec := { name := "fnExactBestChain", vars := ["loop.example/keyswitches/impl.errNoTarget"], fn := fun _ => fun
  | [d, g1] => { results := [.lit (.bool true)], args := [d], vars := [g1] }
  | _ => none }
def fnExactBestChainRow : OpenClaim := { program := "ythchhgjnelkmhaadoor", sum := "9cff12abd23520e40474477adf3e8c1a2cd4a20f467f5424710d37232bbbc9a0", func := "loop.example/keyswitches/laws.FnExactBestChain", spec := "fnExactBestChain", unfollowed := true, recurses := true, named := ["loop.example/keyswitches/impl.errNoTarget"], ifaces := true, apart := false, laid := [("loop.example/keyswitches/impl.errNoTarget", laid_loop_example_keyswitches_impl_errNoTarget)] }
def FnExactBestChainSaid : Prop := fnExactBestChainRow.holds Tryd.pinned (OpenSpec.ofChange fnExactBestChainSpec)

/-- ITS FALSE NEIGHBOUR: 'it returns false'. Refute it at one input. -/
def fnExactBestChainWrong : ChangeSpec := { name := "fnExactBestChain", vars := ["loop.example/keyswitches/impl.errNoTarget"], fn := fun _ => fun
  | [d, g1] => { results := [.lit (.bool false)], args := [d], vars := [g1] }
  | _ => none }
def FnExactBestChainWrongFalsely : Prop := fnExactBestChainRow.holds Tryd.pinned (OpenSpec.ofChange fnExactBestChainWrong)

/-- 'laws.FnExactWorstChain': WHATEVER THE INPUT: true; the input reads as it did. -/
def fnExactWorstChainSpec : ChangeSpec := { name := "fnExactWorstChain", vars := ["loop.example/keyswitches/impl.errNoTarget"], fn := fun _ => fun
  | [d, g1] => { results := [.lit (.bool true)], args := [d], vars := [g1] }
  | _ => none }
def fnExactWorstChainRow : OpenClaim := { program := "ythchhgjnelkmhaadoor", sum := "9cff12abd23520e40474477adf3e8c1a2cd4a20f467f5424710d37232bbbc9a0", func := "loop.example/keyswitches/laws.FnExactWorstChain", spec := "fnExactWorstChain", unfollowed := true, recurses := true, named := ["loop.example/keyswitches/impl.errNoTarget"], ifaces := true, apart := false, laid := [("loop.example/keyswitches/impl.errNoTarget", laid_loop_example_keyswitches_impl_errNoTarget)] }
def FnExactWorstChainSaid : Prop := fnExactWorstChainRow.holds Tryd.pinned (OpenSpec.ofChange fnExactWorstChainSpec)

/-- ITS FALSE NEIGHBOUR: 'it returns false'. Refute it at one input. -/
def fnExactWorstChainWrong : ChangeSpec := { name := "fnExactWorstChain", vars := ["loop.example/keyswitches/impl.errNoTarget"], fn := fun _ => fun
  | [d, g1] => { results := [.lit (.bool false)], args := [d], vars := [g1] }
  | _ => none }
def FnExactWorstChainWrongFalsely : Prop := fnExactWorstChainRow.holds Tryd.pinned (OpenSpec.ofChange fnExactWorstChainWrong)

/-- 'laws.FnExactSwapGain': WHATEVER THE INPUT: true; the input reads as it did. -/
def fnExactSwapGainSpec : ChangeSpec := { name := "fnExactSwapGain", vars := ["loop.example/keyswitches/impl.errNoTarget"], fn := fun _ => fun
  | [d1, d2, d3, g1] => { results := [.lit (.bool true)], args := [d1, d2, d3], vars := [g1] }
  | _ => none }
def fnExactSwapGainRow : OpenClaim := { program := "ythchhgjnelkmhaadoor", sum := "9cff12abd23520e40474477adf3e8c1a2cd4a20f467f5424710d37232bbbc9a0", func := "loop.example/keyswitches/laws.FnExactSwapGain", spec := "fnExactSwapGain", unfollowed := true, recurses := true, named := ["loop.example/keyswitches/impl.errNoTarget"], ifaces := true, apart := false, laid := [("loop.example/keyswitches/impl.errNoTarget", laid_loop_example_keyswitches_impl_errNoTarget)] }
def FnExactSwapGainSaid : Prop := fnExactSwapGainRow.holds Tryd.pinned (OpenSpec.ofChange fnExactSwapGainSpec)

/-- ITS FALSE NEIGHBOUR: 'it returns false'. Refute it at one input. -/
def fnExactSwapGainWrong : ChangeSpec := { name := "fnExactSwapGain", vars := ["loop.example/keyswitches/impl.errNoTarget"], fn := fun _ => fun
  | [d1, d2, d3, g1] => { results := [.lit (.bool false)], args := [d1, d2, d3], vars := [g1] }
  | _ => none }
def FnExactSwapGainWrongFalsely : Prop := fnExactSwapGainRow.holds Tryd.pinned (OpenSpec.ofChange fnExactSwapGainWrong)

/-- 'laws.FnExactReachCosts': WHATEVER THE INPUT: true; the input reads as it did. -/
def fnExactReachCostsSpec : ChangeSpec := { name := "fnExactReachCosts", vars := ["loop.example/keyswitches/impl.errNoTarget"], fn := fun _ => fun
  | [d1, d2, g1] => { results := [.lit (.bool true)], args := [d1, d2], vars := [g1] }
  | _ => none }
def fnExactReachCostsRow : OpenClaim := { program := "ythchhgjnelkmhaadoor", sum := "9cff12abd23520e40474477adf3e8c1a2cd4a20f467f5424710d37232bbbc9a0", func := "loop.example/keyswitches/laws.FnExactReachCosts", spec := "fnExactReachCosts", unfollowed := true, recurses := true, named := ["loop.example/keyswitches/impl.errNoTarget"], ifaces := true, apart := false, laid := [("loop.example/keyswitches/impl.errNoTarget", laid_loop_example_keyswitches_impl_errNoTarget)] }
def FnExactReachCostsSaid : Prop := fnExactReachCostsRow.holds Tryd.pinned (OpenSpec.ofChange fnExactReachCostsSpec)

/-- ITS FALSE NEIGHBOUR: 'it returns false'. Refute it at one input. -/
def fnExactReachCostsWrong : ChangeSpec := { name := "fnExactReachCosts", vars := ["loop.example/keyswitches/impl.errNoTarget"], fn := fun _ => fun
  | [d1, d2, g1] => { results := [.lit (.bool false)], args := [d1, d2], vars := [g1] }
  | _ => none }
def FnExactReachCostsWrongFalsely : Prop := fnExactReachCostsRow.holds Tryd.pinned (OpenSpec.ofChange fnExactReachCostsWrong)

/- THE SECOND FORM. 'bulk': how many values and letters a reading holds, each counted each time it is reached (what is shared counts as often as it is met; a slice's spare places count too). A statement '..UptoSaid' is the law's where the arguments, and the package variables that the reading takes, are together of bulk at most 1048576: NARROWER than '..Said'. Prove '..Said' where nothing that the law and all that it calls make is longer than what came in: it says more and counts as full. Else prove '..UptoSaid'. A law counts once. -/
mutual
def uptoBulk {H : Type} : DataW H → Nat
  | .lit (.string bytes) => bytes.length + 1
  | .lit _ => 1
  | .nil => 1
  | .ptr d => uptoBulk d + 1
  | .slice elems spare => uptoBulkAll elems + uptoBulkAll spare + 1
  | .agg parts => uptoBulkAll parts + 1
  | .iface _ d => uptoBulk d + 1
  | .map entries => uptoBulkEntries entries + 1
  | .held _ => 1
def uptoBulkAll {H : Type} : List (DataW H) → Nat
  | [] => 0
  | d :: r => uptoBulk d + uptoBulkAll r
def uptoBulkEntries {H : Type} : List (Lit × DataW H) → Nat
  | [] => 0
  | x :: r => uptoBulkEntry x + uptoBulkEntries r
def uptoBulkEntry {H : Type} : Lit × DataW H → Nat
  | (.string bytes, d) => bytes.length + uptoBulk d + 1
  | (_, d) => uptoBulk d + 1
 end
def uptoSmall : (H : Type) → List (DataW H) → Bool := fun _ ds => decide (uptoBulkAll ds ≤ 1048576)
def OpenSpec.upto (s : _root_.Go.ChangeSpec) : _root_.Go.OpenSpec := { _root_.Go.OpenSpec.ofChange s with cond := some uptoSmall }

/-- 'laws.FnExactOrderValid', WHERE WHAT IT READS IS OF BULK AT MOST 1048576: true; the input reads as it did. -/
def fnExactOrderValidUptoRow : OpenClaim := { program := "ythchhgjnelkmhaadoor", sum := "9cff12abd23520e40474477adf3e8c1a2cd4a20f467f5424710d37232bbbc9a0", func := "loop.example/keyswitches/laws.FnExactOrderValid", spec := "fnExactOrderValid", unfollowed := true, recurses := true, named := ["loop.example/keyswitches/impl.errNoTarget"], ifaces := true, apart := false, laid := [("loop.example/keyswitches/impl.errNoTarget", laid_loop_example_keyswitches_impl_errNoTarget)], narrowed := true }
def FnExactOrderValidUptoSaid : Prop := fnExactOrderValidUptoRow.holds Tryd.pinned (OpenSpec.upto fnExactOrderValidSpec)

/-- 'laws.FnExactTestCost', WHERE WHAT IT READS IS OF BULK AT MOST 1048576: true; the input reads as it did. -/
def fnExactTestCostUptoRow : OpenClaim := { program := "ythchhgjnelkmhaadoor", sum := "9cff12abd23520e40474477adf3e8c1a2cd4a20f467f5424710d37232bbbc9a0", func := "loop.example/keyswitches/laws.FnExactTestCost", spec := "fnExactTestCost", unfollowed := true, recurses := true, named := ["loop.example/keyswitches/impl.errNoTarget"], ifaces := true, apart := false, laid := [("loop.example/keyswitches/impl.errNoTarget", laid_loop_example_keyswitches_impl_errNoTarget)], narrowed := true }
def FnExactTestCostUptoSaid : Prop := fnExactTestCostUptoRow.holds Tryd.pinned (OpenSpec.upto fnExactTestCostSpec)

/-- 'laws.FnExactRunChain', WHERE WHAT IT READS IS OF BULK AT MOST 1048576: true; the input reads as it did. -/
def fnExactRunChainUptoRow : OpenClaim := { program := "ythchhgjnelkmhaadoor", sum := "9cff12abd23520e40474477adf3e8c1a2cd4a20f467f5424710d37232bbbc9a0", func := "loop.example/keyswitches/laws.FnExactRunChain", spec := "fnExactRunChain", unfollowed := true, recurses := true, named := ["loop.example/keyswitches/impl.errNoTarget"], ifaces := true, apart := false, laid := [("loop.example/keyswitches/impl.errNoTarget", laid_loop_example_keyswitches_impl_errNoTarget)], narrowed := true }
def FnExactRunChainUptoSaid : Prop := fnExactRunChainUptoRow.holds Tryd.pinned (OpenSpec.upto fnExactRunChainSpec)

/-- 'laws.FnExactChainCost', WHERE WHAT IT READS IS OF BULK AT MOST 1048576: true; the input reads as it did. -/
def fnExactChainCostUptoRow : OpenClaim := { program := "ythchhgjnelkmhaadoor", sum := "9cff12abd23520e40474477adf3e8c1a2cd4a20f467f5424710d37232bbbc9a0", func := "loop.example/keyswitches/laws.FnExactChainCost", spec := "fnExactChainCost", unfollowed := true, recurses := true, named := ["loop.example/keyswitches/impl.errNoTarget"], ifaces := true, apart := false, laid := [("loop.example/keyswitches/impl.errNoTarget", laid_loop_example_keyswitches_impl_errNoTarget)], narrowed := true }
def FnExactChainCostUptoSaid : Prop := fnExactChainCostUptoRow.holds Tryd.pinned (OpenSpec.upto fnExactChainCostSpec)

/-- 'laws.FnExactBestChain', WHERE WHAT IT READS IS OF BULK AT MOST 1048576: true; the input reads as it did. -/
def fnExactBestChainUptoRow : OpenClaim := { program := "ythchhgjnelkmhaadoor", sum := "9cff12abd23520e40474477adf3e8c1a2cd4a20f467f5424710d37232bbbc9a0", func := "loop.example/keyswitches/laws.FnExactBestChain", spec := "fnExactBestChain", unfollowed := true, recurses := true, named := ["loop.example/keyswitches/impl.errNoTarget"], ifaces := true, apart := false, laid := [("loop.example/keyswitches/impl.errNoTarget", laid_loop_example_keyswitches_impl_errNoTarget)], narrowed := true }
def FnExactBestChainUptoSaid : Prop := fnExactBestChainUptoRow.holds Tryd.pinned (OpenSpec.upto fnExactBestChainSpec)

/-- 'laws.FnExactWorstChain', WHERE WHAT IT READS IS OF BULK AT MOST 1048576: true; the input reads as it did. -/
def fnExactWorstChainUptoRow : OpenClaim := { program := "ythchhgjnelkmhaadoor", sum := "9cff12abd23520e40474477adf3e8c1a2cd4a20f467f5424710d37232bbbc9a0", func := "loop.example/keyswitches/laws.FnExactWorstChain", spec := "fnExactWorstChain", unfollowed := true, recurses := true, named := ["loop.example/keyswitches/impl.errNoTarget"], ifaces := true, apart := false, laid := [("loop.example/keyswitches/impl.errNoTarget", laid_loop_example_keyswitches_impl_errNoTarget)], narrowed := true }
def FnExactWorstChainUptoSaid : Prop := fnExactWorstChainUptoRow.holds Tryd.pinned (OpenSpec.upto fnExactWorstChainSpec)

/-- 'laws.FnExactSwapGain', WHERE WHAT IT READS IS OF BULK AT MOST 1048576: true; the input reads as it did. -/
def fnExactSwapGainUptoRow : OpenClaim := { program := "ythchhgjnelkmhaadoor", sum := "9cff12abd23520e40474477adf3e8c1a2cd4a20f467f5424710d37232bbbc9a0", func := "loop.example/keyswitches/laws.FnExactSwapGain", spec := "fnExactSwapGain", unfollowed := true, recurses := true, named := ["loop.example/keyswitches/impl.errNoTarget"], ifaces := true, apart := false, laid := [("loop.example/keyswitches/impl.errNoTarget", laid_loop_example_keyswitches_impl_errNoTarget)], narrowed := true }
def FnExactSwapGainUptoSaid : Prop := fnExactSwapGainUptoRow.holds Tryd.pinned (OpenSpec.upto fnExactSwapGainSpec)

/-- 'laws.FnExactReachCosts', WHERE WHAT IT READS IS OF BULK AT MOST 1048576: true; the input reads as it did. -/
def fnExactReachCostsUptoRow : OpenClaim := { program := "ythchhgjnelkmhaadoor", sum := "9cff12abd23520e40474477adf3e8c1a2cd4a20f467f5424710d37232bbbc9a0", func := "loop.example/keyswitches/laws.FnExactReachCosts", spec := "fnExactReachCosts", unfollowed := true, recurses := true, named := ["loop.example/keyswitches/impl.errNoTarget"], ifaces := true, apart := false, laid := [("loop.example/keyswitches/impl.errNoTarget", laid_loop_example_keyswitches_impl_errNoTarget)], narrowed := true }
def FnExactReachCostsUptoSaid : Prop := fnExactReachCostsUptoRow.holds Tryd.pinned (OpenSpec.upto fnExactReachCostsSpec)

end Rows
end Go.Proofs.YthchhgjnelkmhaaDoor
