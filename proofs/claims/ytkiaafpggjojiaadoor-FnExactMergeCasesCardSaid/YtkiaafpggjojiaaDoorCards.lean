/-
  DERIVED. GIVEN WITH THE SEED: THE CARDS: each row of YtkiaafpggjojiaaDoorRows.lean that lists a variable, with what it lists TIED to the program's text (the seventh form; the later family's looks); each row that meets fmt, with fmt's text TOLD by the authors' own Lean function (tested against real Go, not proved from fmt's source: count such statements apart). THE CARD IS WHAT COUNTS. Prove the row's statement (the work); the ties are given (YtkiaafpggjojiaaDoorTie.lean); close each card by the builder's one call (the guide's Derived/Test/ToyasCard.lean, 'card_holds'). Laid BY PROGRAM, IN A SANDBOX (cutbox-door.mjs). By AI agents, Wed Nov 11 2026. No macro, syntax, notation, axiom, sorry.
-/
import Derived.Test.YtkiaafpggjojiaaDoorRows
import GoSem.ClaimSeven
namespace Go.Proofs.YtkiaafpggjojiaaDoor
namespace Rows

/-- THE TIED CARD OF 'laws.FnExactTreeValid'. -/
def fnExactTreeValidCard : Claim7 := { stood := { row := fnExactTreeValidRow, standIns := [], harness := (true, "ba9f15bce8cf1e9a4127f8cb93cf2b1516f421b2112cff3bbf4eeedb42669150"), looks := true }, kinds := [], alts := [], laidByText := true, laidKinds := [.data, .data, .data, .sentinel, .sentinel, .sentinel], laidTests := true, laidLooks := .later }
def FnExactTreeValidCardSaid : Prop := Claim7.holds Tryd.pinned (.plain (OpenSpec.ofChange fnExactTreeValidSpec)) fnExactTreeValidCard

/-- THE TIED CARD OF 'laws.FnExactRunTree'. -/
def fnExactRunTreeCard : Claim7 := { stood := { row := fnExactRunTreeRow, standIns := [], harness := (true, "ba9f15bce8cf1e9a4127f8cb93cf2b1516f421b2112cff3bbf4eeedb42669150"), looks := true }, kinds := [], alts := [], laidByText := true, laidKinds := [.data, .data, .data, .sentinel, .sentinel, .sentinel], laidTests := true, laidLooks := .later }
def FnExactRunTreeCardSaid : Prop := Claim7.holds Tryd.pinned (.plain (OpenSpec.ofChange fnExactRunTreeSpec)) fnExactRunTreeCard

/-- THE TIED CARD OF 'laws.FnExactTreeDepth'. -/
def fnExactTreeDepthCard : Claim7 := { stood := { row := fnExactTreeDepthRow, standIns := [], harness := (true, "ba9f15bce8cf1e9a4127f8cb93cf2b1516f421b2112cff3bbf4eeedb42669150"), looks := true }, kinds := [], alts := [], laidByText := true, laidKinds := [.data, .data, .data, .sentinel, .sentinel, .sentinel], laidTests := true, laidLooks := .later }
def FnExactTreeDepthCardSaid : Prop := Claim7.holds Tryd.pinned (.plain (OpenSpec.ofChange fnExactTreeDepthSpec)) fnExactTreeDepthCard

/-- THE TIED CARD OF 'laws.FnExactCountNodes'. -/
def fnExactCountNodesCard : Claim7 := { stood := { row := fnExactCountNodesRow, standIns := [], harness := (true, "ba9f15bce8cf1e9a4127f8cb93cf2b1516f421b2112cff3bbf4eeedb42669150"), looks := true }, kinds := [], alts := [], laidByText := true, laidKinds := [.data, .data, .data, .sentinel, .sentinel, .sentinel], laidTests := true, laidLooks := .later }
def FnExactCountNodesCardSaid : Prop := Claim7.holds Tryd.pinned (.plain (OpenSpec.ofChange fnExactCountNodesSpec)) fnExactCountNodesCard

/-- THE TIED CARD OF 'laws.FnExactTreeCost'. -/
def fnExactTreeCostCard : Claim7 := { stood := { row := fnExactTreeCostRow, standIns := [], harness := (true, "ba9f15bce8cf1e9a4127f8cb93cf2b1516f421b2112cff3bbf4eeedb42669150"), looks := true }, kinds := [], alts := [], laidByText := true, laidKinds := [.data, .data, .data, .sentinel, .sentinel, .sentinel, .sentinel], laidTests := true, laidLooks := .later }
def FnExactTreeCostCardSaid : Prop := Claim7.holds Tryd.pinned (.plain (OpenSpec.ofChange fnExactTreeCostSpec)) fnExactTreeCostCard

/-- THE TIED CARD OF 'laws.FnExactEvenTree'. -/
def fnExactEvenTreeCard : Claim7 := { stood := { row := fnExactEvenTreeRow, standIns := [], harness := (true, "ba9f15bce8cf1e9a4127f8cb93cf2b1516f421b2112cff3bbf4eeedb42669150"), looks := true }, kinds := [], alts := [], laidByText := true, laidKinds := [.sentinel], laidTests := true, laidLooks := .later }
def FnExactEvenTreeCardSaid : Prop := Claim7.holds Tryd.pinned (.plain (OpenSpec.ofChange fnExactEvenTreeSpec)) fnExactEvenTreeCard

/-- THE TIED CARD OF 'laws.FnExactHeavyTree'. -/
def fnExactHeavyTreeCard : Claim7 := { stood := { row := fnExactHeavyTreeRow, standIns := [], harness := (true, "ba9f15bce8cf1e9a4127f8cb93cf2b1516f421b2112cff3bbf4eeedb42669150"), looks := true }, kinds := [], alts := [], laidByText := true, laidKinds := [.sentinel], laidTests := true, laidLooks := .later }
def FnExactHeavyTreeCardSaid : Prop := Claim7.holds Tryd.pinned (.plain (OpenSpec.ofChange fnExactHeavyTreeSpec)) fnExactHeavyTreeCard

/-- THE TIED CARD OF 'laws.FnExactSwitchOf'. -/
def fnExactSwitchOfCard : Claim7 := { stood := { row := fnExactSwitchOfRow, standIns := [], harness := (true, "ba9f15bce8cf1e9a4127f8cb93cf2b1516f421b2112cff3bbf4eeedb42669150"), looks := true }, kinds := [], alts := [], laidByText := true, laidKinds := [.data, .data, .data, .sentinel, .sentinel, .sentinel], laidTests := true, laidLooks := .later }
def FnExactSwitchOfCardSaid : Prop := Claim7.holds Tryd.pinned (.plain (OpenSpec.ofChange fnExactSwitchOfSpec)) fnExactSwitchOfCard

/-- THE TIED CARD OF 'laws.FnExactMergeCases'. -/
def fnExactMergeCasesCard : Claim7 := { stood := { row := fnExactMergeCasesRow, standIns := [], harness := (true, "ba9f15bce8cf1e9a4127f8cb93cf2b1516f421b2112cff3bbf4eeedb42669150"), looks := true }, kinds := [], alts := [], laidByText := true, laidKinds := [.sentinel], laidTests := true, laidLooks := .later }
def FnExactMergeCasesCardSaid : Prop := Claim7.holds Tryd.pinned (.plain (OpenSpec.ofChange fnExactMergeCasesSpec)) fnExactMergeCasesCard

/-- THE TIED CARD OF 'laws.FnExactBordersOf'. -/
def fnExactBordersOfCard : Claim7 := { stood := { row := fnExactBordersOfRow, standIns := [], harness := (true, "ba9f15bce8cf1e9a4127f8cb93cf2b1516f421b2112cff3bbf4eeedb42669150"), looks := true }, kinds := [], alts := [], laidByText := true, laidKinds := [.sentinel], laidTests := true, laidLooks := .later }
def FnExactBordersOfCardSaid : Prop := Claim7.holds Tryd.pinned (.plain (OpenSpec.ofChange fnExactBordersOfSpec)) fnExactBordersOfCard

/-- THE TIED CARD OF 'laws.FnExactFormatSegments'. -/
def fnExactFormatSegmentsCard : Claim7 := { stood := { row := fnExactFormatSegmentsRow, standIns := [], harness := (true, "ba9f15bce8cf1e9a4127f8cb93cf2b1516f421b2112cff3bbf4eeedb42669150"), looks := true }, kinds := [], alts := [], laidByText := true, laidKinds := [.data, .data, .data], laidTests := true, laidLooks := .later }
def FnExactFormatSegmentsCardSaid : Prop := Claim7.holds Tryd.pinned (.plain (OpenSpec.ofChange fnExactFormatSegmentsSpec)) fnExactFormatSegmentsCard

/-- THE SECOND FORM's CARD OF 'laws.FnExactTreeValid'. -/
def fnExactTreeValidUptoCard : Claim7 := { stood := { row := fnExactTreeValidUptoRow, standIns := [], harness := (true, "ba9f15bce8cf1e9a4127f8cb93cf2b1516f421b2112cff3bbf4eeedb42669150"), looks := true }, kinds := [], alts := [], laidByText := true, laidKinds := [.data, .data, .data, .sentinel, .sentinel, .sentinel], laidTests := true, laidLooks := .later }
def FnExactTreeValidUptoCardSaid : Prop := Claim7.holds Tryd.pinned (.plain (OpenSpec.upto fnExactTreeValidSpec)) fnExactTreeValidUptoCard

/-- THE SECOND FORM's CARD OF 'laws.FnExactRunTree'. -/
def fnExactRunTreeUptoCard : Claim7 := { stood := { row := fnExactRunTreeUptoRow, standIns := [], harness := (true, "ba9f15bce8cf1e9a4127f8cb93cf2b1516f421b2112cff3bbf4eeedb42669150"), looks := true }, kinds := [], alts := [], laidByText := true, laidKinds := [.data, .data, .data, .sentinel, .sentinel, .sentinel], laidTests := true, laidLooks := .later }
def FnExactRunTreeUptoCardSaid : Prop := Claim7.holds Tryd.pinned (.plain (OpenSpec.upto fnExactRunTreeSpec)) fnExactRunTreeUptoCard

/-- THE SECOND FORM's CARD OF 'laws.FnExactTreeDepth'. -/
def fnExactTreeDepthUptoCard : Claim7 := { stood := { row := fnExactTreeDepthUptoRow, standIns := [], harness := (true, "ba9f15bce8cf1e9a4127f8cb93cf2b1516f421b2112cff3bbf4eeedb42669150"), looks := true }, kinds := [], alts := [], laidByText := true, laidKinds := [.data, .data, .data, .sentinel, .sentinel, .sentinel], laidTests := true, laidLooks := .later }
def FnExactTreeDepthUptoCardSaid : Prop := Claim7.holds Tryd.pinned (.plain (OpenSpec.upto fnExactTreeDepthSpec)) fnExactTreeDepthUptoCard

/-- THE SECOND FORM's CARD OF 'laws.FnExactCountNodes'. -/
def fnExactCountNodesUptoCard : Claim7 := { stood := { row := fnExactCountNodesUptoRow, standIns := [], harness := (true, "ba9f15bce8cf1e9a4127f8cb93cf2b1516f421b2112cff3bbf4eeedb42669150"), looks := true }, kinds := [], alts := [], laidByText := true, laidKinds := [.data, .data, .data, .sentinel, .sentinel, .sentinel], laidTests := true, laidLooks := .later }
def FnExactCountNodesUptoCardSaid : Prop := Claim7.holds Tryd.pinned (.plain (OpenSpec.upto fnExactCountNodesSpec)) fnExactCountNodesUptoCard

/-- THE SECOND FORM's CARD OF 'laws.FnExactTreeCost'. -/
def fnExactTreeCostUptoCard : Claim7 := { stood := { row := fnExactTreeCostUptoRow, standIns := [], harness := (true, "ba9f15bce8cf1e9a4127f8cb93cf2b1516f421b2112cff3bbf4eeedb42669150"), looks := true }, kinds := [], alts := [], laidByText := true, laidKinds := [.data, .data, .data, .sentinel, .sentinel, .sentinel, .sentinel], laidTests := true, laidLooks := .later }
def FnExactTreeCostUptoCardSaid : Prop := Claim7.holds Tryd.pinned (.plain (OpenSpec.upto fnExactTreeCostSpec)) fnExactTreeCostUptoCard

/-- THE SECOND FORM's CARD OF 'laws.FnExactEvenTree'. -/
def fnExactEvenTreeUptoCard : Claim7 := { stood := { row := fnExactEvenTreeUptoRow, standIns := [], harness := (true, "ba9f15bce8cf1e9a4127f8cb93cf2b1516f421b2112cff3bbf4eeedb42669150"), looks := true }, kinds := [], alts := [], laidByText := true, laidKinds := [.sentinel], laidTests := true, laidLooks := .later }
def FnExactEvenTreeUptoCardSaid : Prop := Claim7.holds Tryd.pinned (.plain (OpenSpec.upto fnExactEvenTreeSpec)) fnExactEvenTreeUptoCard

/-- THE SECOND FORM's CARD OF 'laws.FnExactHeavyTree'. -/
def fnExactHeavyTreeUptoCard : Claim7 := { stood := { row := fnExactHeavyTreeUptoRow, standIns := [], harness := (true, "ba9f15bce8cf1e9a4127f8cb93cf2b1516f421b2112cff3bbf4eeedb42669150"), looks := true }, kinds := [], alts := [], laidByText := true, laidKinds := [.sentinel], laidTests := true, laidLooks := .later }
def FnExactHeavyTreeUptoCardSaid : Prop := Claim7.holds Tryd.pinned (.plain (OpenSpec.upto fnExactHeavyTreeSpec)) fnExactHeavyTreeUptoCard

/-- THE SECOND FORM's CARD OF 'laws.FnExactSwitchOf'. -/
def fnExactSwitchOfUptoCard : Claim7 := { stood := { row := fnExactSwitchOfUptoRow, standIns := [], harness := (true, "ba9f15bce8cf1e9a4127f8cb93cf2b1516f421b2112cff3bbf4eeedb42669150"), looks := true }, kinds := [], alts := [], laidByText := true, laidKinds := [.data, .data, .data, .sentinel, .sentinel, .sentinel], laidTests := true, laidLooks := .later }
def FnExactSwitchOfUptoCardSaid : Prop := Claim7.holds Tryd.pinned (.plain (OpenSpec.upto fnExactSwitchOfSpec)) fnExactSwitchOfUptoCard

/-- THE SECOND FORM's CARD OF 'laws.FnExactMergeCases'. -/
def fnExactMergeCasesUptoCard : Claim7 := { stood := { row := fnExactMergeCasesUptoRow, standIns := [], harness := (true, "ba9f15bce8cf1e9a4127f8cb93cf2b1516f421b2112cff3bbf4eeedb42669150"), looks := true }, kinds := [], alts := [], laidByText := true, laidKinds := [.sentinel], laidTests := true, laidLooks := .later }
def FnExactMergeCasesUptoCardSaid : Prop := Claim7.holds Tryd.pinned (.plain (OpenSpec.upto fnExactMergeCasesSpec)) fnExactMergeCasesUptoCard

/-- THE SECOND FORM's CARD OF 'laws.FnExactBordersOf'. -/
def fnExactBordersOfUptoCard : Claim7 := { stood := { row := fnExactBordersOfUptoRow, standIns := [], harness := (true, "ba9f15bce8cf1e9a4127f8cb93cf2b1516f421b2112cff3bbf4eeedb42669150"), looks := true }, kinds := [], alts := [], laidByText := true, laidKinds := [.sentinel], laidTests := true, laidLooks := .later }
def FnExactBordersOfUptoCardSaid : Prop := Claim7.holds Tryd.pinned (.plain (OpenSpec.upto fnExactBordersOfSpec)) fnExactBordersOfUptoCard

/-- THE SECOND FORM's CARD OF 'laws.FnExactFormatSegments'. -/
def fnExactFormatSegmentsUptoCard : Claim7 := { stood := { row := fnExactFormatSegmentsUptoRow, standIns := [], harness := (true, "ba9f15bce8cf1e9a4127f8cb93cf2b1516f421b2112cff3bbf4eeedb42669150"), looks := true }, kinds := [], alts := [], laidByText := true, laidKinds := [.data, .data, .data], laidTests := true, laidLooks := .later }
def FnExactFormatSegmentsUptoCardSaid : Prop := Claim7.holds Tryd.pinned (.plain (OpenSpec.upto fnExactFormatSegmentsSpec)) fnExactFormatSegmentsUptoCard
end Rows
end Go.Proofs.YtkiaafpggjojiaaDoor
