/-
  No cell of these rows narrows 'for every input' (looked for: loops, veiled, ifaces, maps, wideKeys, modest, calm, conditions, laid).
  DERIVED. THE GIVEN ROWS OF THIS SEAT. 2 by the template 'for every input the law returns true; each argument reads behind the call as it read before'; 0 by the template 'total and deterministic' (their statements: YtbbejkimgkpfkaaTotals.lean).
  GIVEN WITH THE SEED: the statements are not yours to turn. If you find one false, say at which input.
  Laid BY PROGRAM, IN A SANDBOX (cutbox-rows.mjs): the forced cells as the released guide's own fill.sh prints them over the translation d4173c9676abf059… (all of the seat's roots in one cut). By AI agents, Wed Nov 11 2026. No macro, syntax, notation, axiom, sorry.
-/
import Derived.Test.YtbbejkimgkpfkaaChecked
import GoSem.Claim
import GoSem.ClaimJoined
import GoSem.ClaimMapViews
import Derived.JoinedTies
import Derived.KernelRfl
namespace Go.Proofs.Ytbbejkimgkpfkaa
/- THE CELL 'sum', in the pinned program and in every row, IS THE sha256 OF THE DUMP (.gsa) THAT YtbbejkimgkpfkaaProg.lean LOADS. Nothing in Lean hashes anything: it is a label: what it is worth is what the hold of that sum in a sandbox is worth. -/
noncomputable def Try.pinned : Pinned := { name := "ytbbejkimgkpfkaa", sum := "d4173c9676abf0597434237330c408fa1ed393fbb3ab74ee52945b7dca2d4b69", checked := Try.checked }
namespace Rows
def none {H : Type} : Left H := { results := [], args := [] }

/-- 'laws.FnExactLookTable': WHATEVER THE INPUT: true; the input reads as it did. -/
def fnExactLookTableSpec : ChangeSpec := { name := "fnExactLookTable", fn := fun _ => fun
  | [d1, d2, d3] => { results := [.lit (.bool true)], args := [d1, d2, d3] }
  | _ => none }
def fnExactLookTableRow : OpenClaim := { program := "ytbbejkimgkpfkaa", sum := "d4173c9676abf0597434237330c408fa1ed393fbb3ab74ee52945b7dca2d4b69", func := "loop.example/keyswitches/laws.FnExactLookTable", spec := "fnExactLookTable", apart := false }
def FnExactLookTableSaid : Prop := fnExactLookTableRow.holds Try.pinned (OpenSpec.ofChange fnExactLookTableSpec)

/-- ITS FALSE NEIGHBOUR: 'it returns false'. Refute it at one input. -/
def fnExactLookTableWrong : ChangeSpec := { name := "fnExactLookTable", fn := fun _ => fun
  | [d1, d2, d3] => { results := [.lit (.bool false)], args := [d1, d2, d3] }
  | _ => none }
def FnExactLookTableWrongFalsely : Prop := fnExactLookTableRow.holds Try.pinned (OpenSpec.ofChange fnExactLookTableWrong)

/-- 'laws.FnExactLookPages': WHATEVER THE INPUT: true; the input reads as it did. -/
def fnExactLookPagesSpec : ChangeSpec := { name := "fnExactLookPages", fn := fun _ => fun
  | [d1, d2, d3] => { results := [.lit (.bool true)], args := [d1, d2, d3] }
  | _ => none }
def fnExactLookPagesRow : OpenClaim := { program := "ytbbejkimgkpfkaa", sum := "d4173c9676abf0597434237330c408fa1ed393fbb3ab74ee52945b7dca2d4b69", func := "loop.example/keyswitches/laws.FnExactLookPages", spec := "fnExactLookPages", unfollowed := true, recurses := true, apart := false }
def FnExactLookPagesSaid : Prop := fnExactLookPagesRow.holds Try.pinned (OpenSpec.ofChange fnExactLookPagesSpec)

/-- ITS FALSE NEIGHBOUR: 'it returns false'. Refute it at one input. -/
def fnExactLookPagesWrong : ChangeSpec := { name := "fnExactLookPages", fn := fun _ => fun
  | [d1, d2, d3] => { results := [.lit (.bool false)], args := [d1, d2, d3] }
  | _ => none }
def FnExactLookPagesWrongFalsely : Prop := fnExactLookPagesRow.holds Try.pinned (OpenSpec.ofChange fnExactLookPagesWrong)

/- THE SECOND FORM. 'bulk': how many values and letters a reading holds, each counted each time it is reached (what is shared counts as often as it is met; a slice's spare places count too). A statement '..UptoSaid' is the law's where the arguments, and the package variables that the reading takes, are together of bulk at most 1048576: NARROWER than '..Said'. Prove '..Said' where nothing that the law and all that it calls make is longer than what came in: it says more and counts as full. Else prove '..UptoSaid'. A law counts once. -/
mutual
def uptoBulk {H : Type} : DataW H → Nat
  | .lit (.string bytes) => bytes.length + 1
  | .lit _ => 1
  | .nil => 1
  | .ptr d => uptoBulk d + 1
  | .slice elems spare => uptoBulkAll elems + uptoBulkAll spare + 1
  | .agg parts => uptoBulkAll parts + 1
  | .iface _ d => uptoBulk d + 1
  | .map entries => uptoBulkEntries entries + 1
  | .held _ => 1
def uptoBulkAll {H : Type} : List (DataW H) → Nat
  | [] => 0
  | d :: r => uptoBulk d + uptoBulkAll r
def uptoBulkEntries {H : Type} : List (Lit × DataW H) → Nat
  | [] => 0
  | x :: r => uptoBulkEntry x + uptoBulkEntries r
def uptoBulkEntry {H : Type} : Lit × DataW H → Nat
  | (.string bytes, d) => bytes.length + uptoBulk d + 1
  | (_, d) => uptoBulk d + 1
 end
def uptoSmall : (H : Type) → List (DataW H) → Bool := fun _ ds => decide (uptoBulkAll ds ≤ 1048576)
def OpenSpec.upto (s : _root_.Go.ChangeSpec) : _root_.Go.OpenSpec := { _root_.Go.OpenSpec.ofChange s with cond := some uptoSmall }

/-- 'laws.FnExactLookTable', WHERE WHAT IT READS IS OF BULK AT MOST 1048576: true; the input reads as it did. -/
def fnExactLookTableUptoRow : OpenClaim := { program := "ytbbejkimgkpfkaa", sum := "d4173c9676abf0597434237330c408fa1ed393fbb3ab74ee52945b7dca2d4b69", func := "loop.example/keyswitches/laws.FnExactLookTable", spec := "fnExactLookTable", apart := false, narrowed := true }
def FnExactLookTableUptoSaid : Prop := fnExactLookTableUptoRow.holds Try.pinned (OpenSpec.upto fnExactLookTableSpec)

/-- 'laws.FnExactLookPages', WHERE WHAT IT READS IS OF BULK AT MOST 1048576: true; the input reads as it did. -/
def fnExactLookPagesUptoRow : OpenClaim := { program := "ytbbejkimgkpfkaa", sum := "d4173c9676abf0597434237330c408fa1ed393fbb3ab74ee52945b7dca2d4b69", func := "loop.example/keyswitches/laws.FnExactLookPages", spec := "fnExactLookPages", unfollowed := true, recurses := true, apart := false, narrowed := true }
def FnExactLookPagesUptoSaid : Prop := fnExactLookPagesUptoRow.holds Try.pinned (OpenSpec.upto fnExactLookPagesSpec)

end Rows
end Go.Proofs.Ytbbejkimgkpfkaa
