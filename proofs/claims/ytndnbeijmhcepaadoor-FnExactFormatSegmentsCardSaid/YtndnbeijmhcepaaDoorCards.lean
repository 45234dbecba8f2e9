/-
  DERIVED. GIVEN WITH THE SEED: THE CARDS: each row of YtndnbeijmhcepaaDoorRows.lean that lists a variable, with what it lists TIED to the program's text (the seventh form; the later family's looks); each row that meets fmt, with fmt's text TOLD by the authors' own Lean function (tested against real Go, not proved from fmt's source: count such statements apart). THE CARD IS WHAT COUNTS. Prove the row's statement (the work); the ties are given (YtndnbeijmhcepaaDoorTie.lean); close each card by the builder's one call (the guide's Derived/Test/ToyasCard.lean, 'card_holds'). Laid BY PROGRAM, IN A SANDBOX (cutbox-door.mjs). By AI agents, Wed Nov 11 2026. No macro, syntax, notation, axiom, sorry.
-/
import Derived.Test.YtndnbeijmhcepaaDoorRows
import GoSem.ClaimSeven
namespace Go.Proofs.YtndnbeijmhcepaaDoor
namespace Rows

/-- THE TIED CARD OF 'laws.FnExactFormatSegments'. -/
def fnExactFormatSegmentsCard : Claim7 := { stood := { row := fnExactFormatSegmentsRow, standIns := [], harness := (true, "4b8ea3ec66c6c1675a3fab2db4ad7054c6cb593c3704a0a5b8452f9fbf51f60b"), looks := true }, kinds := [], alts := [], laidByText := true, laidKinds := [.data, .data, .data], laidTests := true, laidLooks := .later }
def FnExactFormatSegmentsCardSaid : Prop := Claim7.holds Tryd.pinned (.plain (OpenSpec.ofChange fnExactFormatSegmentsSpec)) fnExactFormatSegmentsCard

/-- THE TIED CARD OF 'laws.FnExactEvenTree'. -/
def fnExactEvenTreeCard : Claim7 := { stood := { row := fnExactEvenTreeRow, standIns := [], harness := (true, "4b8ea3ec66c6c1675a3fab2db4ad7054c6cb593c3704a0a5b8452f9fbf51f60b"), looks := true }, kinds := [], alts := [], laidByText := true, laidKinds := [.sentinel], laidTests := true, laidLooks := .later }
def FnExactEvenTreeCardSaid : Prop := Claim7.holds Tryd.pinned (.plain (OpenSpec.ofChange fnExactEvenTreeSpec)) fnExactEvenTreeCard

/-- THE TIED CARD OF 'laws.FnExactHeavyTree'. -/
def fnExactHeavyTreeCard : Claim7 := { stood := { row := fnExactHeavyTreeRow, standIns := [], harness := (true, "4b8ea3ec66c6c1675a3fab2db4ad7054c6cb593c3704a0a5b8452f9fbf51f60b"), looks := true }, kinds := [], alts := [], laidByText := true, laidKinds := [.sentinel], laidTests := true, laidLooks := .later }
def FnExactHeavyTreeCardSaid : Prop := Claim7.holds Tryd.pinned (.plain (OpenSpec.ofChange fnExactHeavyTreeSpec)) fnExactHeavyTreeCard

/-- THE TIED CARD OF 'laws.FnExactSwitchOf'. -/
def fnExactSwitchOfCard : Claim7 := { stood := { row := fnExactSwitchOfRow, standIns := [], harness := (true, "4b8ea3ec66c6c1675a3fab2db4ad7054c6cb593c3704a0a5b8452f9fbf51f60b"), looks := true }, kinds := [], alts := [], laidByText := true, laidKinds := [.data, .data, .data, .sentinel, .sentinel, .sentinel], laidTests := true, laidLooks := .later }
def FnExactSwitchOfCardSaid : Prop := Claim7.holds Tryd.pinned (.plain (OpenSpec.ofChange fnExactSwitchOfSpec)) fnExactSwitchOfCard

/-- THE TIED CARD OF 'laws.FnExactLeastDepth'. -/
def fnExactLeastDepthCard : Claim7 := { stood := { row := fnExactLeastDepthRow, standIns := [], harness := (true, "4b8ea3ec66c6c1675a3fab2db4ad7054c6cb593c3704a0a5b8452f9fbf51f60b"), looks := true }, kinds := [], alts := [], laidByText := true, laidKinds := [.sentinel], laidTests := true, laidLooks := .later }
def FnExactLeastDepthCardSaid : Prop := Claim7.holds Tryd.pinned (.plain (OpenSpec.ofChange fnExactLeastDepthSpec)) fnExactLeastDepthCard

/-- THE SECOND FORM's CARD OF 'laws.FnExactFormatSegments'. -/
def fnExactFormatSegmentsUptoCard : Claim7 := { stood := { row := fnExactFormatSegmentsUptoRow, standIns := [], harness := (true, "4b8ea3ec66c6c1675a3fab2db4ad7054c6cb593c3704a0a5b8452f9fbf51f60b"), looks := true }, kinds := [], alts := [], laidByText := true, laidKinds := [.data, .data, .data], laidTests := true, laidLooks := .later }
def FnExactFormatSegmentsUptoCardSaid : Prop := Claim7.holds Tryd.pinned (.plain (OpenSpec.upto fnExactFormatSegmentsSpec)) fnExactFormatSegmentsUptoCard

/-- THE SECOND FORM's CARD OF 'laws.FnExactEvenTree'. -/
def fnExactEvenTreeUptoCard : Claim7 := { stood := { row := fnExactEvenTreeUptoRow, standIns := [], harness := (true, "4b8ea3ec66c6c1675a3fab2db4ad7054c6cb593c3704a0a5b8452f9fbf51f60b"), looks := true }, kinds := [], alts := [], laidByText := true, laidKinds := [.sentinel], laidTests := true, laidLooks := .later }
def FnExactEvenTreeUptoCardSaid : Prop := Claim7.holds Tryd.pinned (.plain (OpenSpec.upto fnExactEvenTreeSpec)) fnExactEvenTreeUptoCard

/-- THE SECOND FORM's CARD OF 'laws.FnExactHeavyTree'. -/
def fnExactHeavyTreeUptoCard : Claim7 := { stood := { row := fnExactHeavyTreeUptoRow, standIns := [], harness := (true, "4b8ea3ec66c6c1675a3fab2db4ad7054c6cb593c3704a0a5b8452f9fbf51f60b"), looks := true }, kinds := [], alts := [], laidByText := true, laidKinds := [.sentinel], laidTests := true, laidLooks := .later }
def FnExactHeavyTreeUptoCardSaid : Prop := Claim7.holds Tryd.pinned (.plain (OpenSpec.upto fnExactHeavyTreeSpec)) fnExactHeavyTreeUptoCard

/-- THE SECOND FORM's CARD OF 'laws.FnExactSwitchOf'. -/
def fnExactSwitchOfUptoCard : Claim7 := { stood := { row := fnExactSwitchOfUptoRow, standIns := [], harness := (true, "4b8ea3ec66c6c1675a3fab2db4ad7054c6cb593c3704a0a5b8452f9fbf51f60b"), looks := true }, kinds := [], alts := [], laidByText := true, laidKinds := [.data, .data, .data, .sentinel, .sentinel, .sentinel], laidTests := true, laidLooks := .later }
def FnExactSwitchOfUptoCardSaid : Prop := Claim7.holds Tryd.pinned (.plain (OpenSpec.upto fnExactSwitchOfSpec)) fnExactSwitchOfUptoCard

/-- THE SECOND FORM's CARD OF 'laws.FnExactLeastDepth'. -/
def fnExactLeastDepthUptoCard : Claim7 := { stood := { row := fnExactLeastDepthUptoRow, standIns := [], harness := (true, "4b8ea3ec66c6c1675a3fab2db4ad7054c6cb593c3704a0a5b8452f9fbf51f60b"), looks := true }, kinds := [], alts := [], laidByText := true, laidKinds := [.sentinel], laidTests := true, laidLooks := .later }
def FnExactLeastDepthUptoCardSaid : Prop := Claim7.holds Tryd.pinned (.plain (OpenSpec.upto fnExactLeastDepthSpec)) fnExactLeastDepthUptoCard
end Rows
end Go.Proofs.YtndnbeijmhcepaaDoor
