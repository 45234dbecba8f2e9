/-
  DERIVED. GIVEN WITH THE SEED: THE CARDS: each row of YtlcekocbaffnnaaDoorRows.lean that lists a variable, with what it lists TIED to the program's text (the seventh form; the later family's looks); each row that meets fmt, with fmt's text TOLD by the authors' own Lean function (tested against real Go, not proved from fmt's source: count such statements apart). THE CARD IS WHAT COUNTS. Prove the row's statement (the work); the ties are given (YtlcekocbaffnnaaDoorTie.lean); close each card by the builder's one call (the guide's Derived/Test/ToyasCard.lean, 'card_holds'). Laid BY PROGRAM, IN A SANDBOX (cutbox-door.mjs). By AI agents, Wed Nov 11 2026. No macro, syntax, notation, axiom, sorry.
-/
import Derived.Test.YtlcekocbaffnnaaDoorRows
import GoSem.ClaimSeven
namespace Go.Proofs.YtlcekocbaffnnaaDoor
namespace Rows

/-- THE TIED CARD OF 'laws.FnTargetOf'. -/
def fnTargetOfCard : Claim7 := { stood := { row := fnTargetOfRow, standIns := [], harness := (true, "99b51f2e3df9256d918ced5bef05f76cf393dea49c13629e682fd77caebc6200"), looks := false }, kinds := [], alts := [], laidByText := true, laidKinds := [.sentinel], laidTests := true, laidLooks := .later }
def FnTargetOfCardSaid : Prop := Claim7.holds Tryd.pinned (.plain (OpenSpec.ofChange fnTargetOfSpec)) fnTargetOfCard

/-- THE TIED CARD OF 'laws.FnSegments'. -/
def fnSegmentsCard : Claim7 := { stood := { row := fnSegmentsRow, standIns := [], harness := (true, "99b51f2e3df9256d918ced5bef05f76cf393dea49c13629e682fd77caebc6200"), looks := false }, kinds := [], alts := [], laidByText := true, laidKinds := [.data, .data, .data, .sentinel], laidTests := true, laidLooks := .later }
def FnSegmentsCardSaid : Prop := Claim7.holds Tryd.pinned (.plain (OpenSpec.ofChange fnSegmentsSpec)) fnSegmentsCard

/-- THE TIED CARD OF 'laws.FnMerge'. -/
def fnMergeCard : Claim7 := { stood := { row := fnMergeRow, standIns := [], harness := (true, "99b51f2e3df9256d918ced5bef05f76cf393dea49c13629e682fd77caebc6200"), looks := false }, kinds := [], alts := [], laidByText := true, laidKinds := [.sentinel], laidTests := true, laidLooks := .later }
def FnMergeCardSaid : Prop := Claim7.holds Tryd.pinned (.plain (OpenSpec.ofChange fnMergeSpec)) fnMergeCard

/-- THE TIED CARD OF 'laws.FnFirstOther'. -/
def fnFirstOtherCard : Claim7 := { stood := { row := fnFirstOtherRow, standIns := [], harness := (true, "99b51f2e3df9256d918ced5bef05f76cf393dea49c13629e682fd77caebc6200"), looks := false }, kinds := [], alts := [], laidByText := true, laidKinds := [.sentinel], laidTests := true, laidLooks := .later }
def FnFirstOtherCardSaid : Prop := Claim7.holds Tryd.pinned (.plain (OpenSpec.ofChange fnFirstOtherSpec)) fnFirstOtherCard

/-- THE TIED CARD OF 'laws.FnExactSegmentsOf'. -/
def fnExactSegmentsOfCard : Claim7 := { stood := { row := fnExactSegmentsOfRow, standIns := [], harness := (true, "99b51f2e3df9256d918ced5bef05f76cf393dea49c13629e682fd77caebc6200"), looks := false }, kinds := [], alts := [], laidByText := true, laidKinds := [.sentinel], laidTests := true, laidLooks := .later }
def FnExactSegmentsOfCardSaid : Prop := Claim7.holds Tryd.pinned (.plain (OpenSpec.ofChange fnExactSegmentsOfSpec)) fnExactSegmentsOfCard

/-- THE TIED CARD OF 'laws.FnExactFormatSegments'. -/
def fnExactFormatSegmentsCard : Claim7 := { stood := { row := fnExactFormatSegmentsRow, standIns := [], harness := (true, "99b51f2e3df9256d918ced5bef05f76cf393dea49c13629e682fd77caebc6200"), looks := false }, kinds := [], alts := [], laidByText := true, laidKinds := [.data, .data, .data], laidTests := true, laidLooks := .later }
def FnExactFormatSegmentsCardSaid : Prop := Claim7.holds Tryd.pinned (.plain (OpenSpec.ofChange fnExactFormatSegmentsSpec)) fnExactFormatSegmentsCard

/-- THE TIED CARD OF 'laws.FnExactMergeCases'. -/
def fnExactMergeCasesCard : Claim7 := { stood := { row := fnExactMergeCasesRow, standIns := [], harness := (true, "99b51f2e3df9256d918ced5bef05f76cf393dea49c13629e682fd77caebc6200"), looks := false }, kinds := [], alts := [], laidByText := true, laidKinds := [.sentinel], laidTests := true, laidLooks := .later }
def FnExactMergeCasesCardSaid : Prop := Claim7.holds Tryd.pinned (.plain (OpenSpec.ofChange fnExactMergeCasesSpec)) fnExactMergeCasesCard

/-- THE TIED CARD OF 'laws.FnExactSameTargets'. -/
def fnExactSameTargetsCard : Claim7 := { stood := { row := fnExactSameTargetsRow, standIns := [], harness := (true, "99b51f2e3df9256d918ced5bef05f76cf393dea49c13629e682fd77caebc6200"), looks := false }, kinds := [], alts := [], laidByText := true, laidKinds := [.sentinel], laidTests := true, laidLooks := .later }
def FnExactSameTargetsCardSaid : Prop := Claim7.holds Tryd.pinned (.plain (OpenSpec.ofChange fnExactSameTargetsSpec)) fnExactSameTargetsCard

/-- THE TIED CARD OF 'laws.FnExactFirstOther'. -/
def fnExactFirstOtherCard : Claim7 := { stood := { row := fnExactFirstOtherRow, standIns := [], harness := (true, "99b51f2e3df9256d918ced5bef05f76cf393dea49c13629e682fd77caebc6200"), looks := false }, kinds := [], alts := [], laidByText := true, laidKinds := [.sentinel], laidTests := true, laidLooks := .later }
def FnExactFirstOtherCardSaid : Prop := Claim7.holds Tryd.pinned (.plain (OpenSpec.ofChange fnExactFirstOtherSpec)) fnExactFirstOtherCard

/-- THE TIED CARD OF 'laws.FnExactIsComplete'. -/
def fnExactIsCompleteCard : Claim7 := { stood := { row := fnExactIsCompleteRow, standIns := [], harness := (true, "99b51f2e3df9256d918ced5bef05f76cf393dea49c13629e682fd77caebc6200"), looks := false }, kinds := [], alts := [], laidByText := true, laidKinds := [.sentinel], laidTests := true, laidLooks := .later }
def FnExactIsCompleteCardSaid : Prop := Claim7.holds Tryd.pinned (.plain (OpenSpec.ofChange fnExactIsCompleteSpec)) fnExactIsCompleteCard

/-- THE TIED CARD OF 'laws.FnExactBordersOf'. -/
def fnExactBordersOfCard : Claim7 := { stood := { row := fnExactBordersOfRow, standIns := [], harness := (true, "99b51f2e3df9256d918ced5bef05f76cf393dea49c13629e682fd77caebc6200"), looks := false }, kinds := [], alts := [], laidByText := true, laidKinds := [.sentinel], laidTests := true, laidLooks := .later }
def FnExactBordersOfCardSaid : Prop := Claim7.holds Tryd.pinned (.plain (OpenSpec.ofChange fnExactBordersOfSpec)) fnExactBordersOfCard

/-- THE TIED CARD OF 'laws.FnExactCountGaps'. -/
def fnExactCountGapsCard : Claim7 := { stood := { row := fnExactCountGapsRow, standIns := [], harness := (true, "99b51f2e3df9256d918ced5bef05f76cf393dea49c13629e682fd77caebc6200"), looks := false }, kinds := [], alts := [], laidByText := true, laidKinds := [.sentinel], laidTests := true, laidLooks := .later }
def FnExactCountGapsCardSaid : Prop := Claim7.holds Tryd.pinned (.plain (OpenSpec.ofChange fnExactCountGapsSpec)) fnExactCountGapsCard

/-- THE SECOND FORM's CARD OF 'laws.FnTargetOf'. -/
def fnTargetOfUptoCard : Claim7 := { stood := { row := fnTargetOfUptoRow, standIns := [], harness := (true, "99b51f2e3df9256d918ced5bef05f76cf393dea49c13629e682fd77caebc6200"), looks := false }, kinds := [], alts := [], laidByText := true, laidKinds := [.sentinel], laidTests := true, laidLooks := .later }
def FnTargetOfUptoCardSaid : Prop := Claim7.holds Tryd.pinned (.plain (OpenSpec.upto fnTargetOfSpec)) fnTargetOfUptoCard

/-- THE SECOND FORM's CARD OF 'laws.FnSegments'. -/
def fnSegmentsUptoCard : Claim7 := { stood := { row := fnSegmentsUptoRow, standIns := [], harness := (true, "99b51f2e3df9256d918ced5bef05f76cf393dea49c13629e682fd77caebc6200"), looks := false }, kinds := [], alts := [], laidByText := true, laidKinds := [.data, .data, .data, .sentinel], laidTests := true, laidLooks := .later }
def FnSegmentsUptoCardSaid : Prop := Claim7.holds Tryd.pinned (.plain (OpenSpec.upto fnSegmentsSpec)) fnSegmentsUptoCard

/-- THE SECOND FORM's CARD OF 'laws.FnMerge'. -/
def fnMergeUptoCard : Claim7 := { stood := { row := fnMergeUptoRow, standIns := [], harness := (true, "99b51f2e3df9256d918ced5bef05f76cf393dea49c13629e682fd77caebc6200"), looks := false }, kinds := [], alts := [], laidByText := true, laidKinds := [.sentinel], laidTests := true, laidLooks := .later }
def FnMergeUptoCardSaid : Prop := Claim7.holds Tryd.pinned (.plain (OpenSpec.upto fnMergeSpec)) fnMergeUptoCard

/-- THE SECOND FORM's CARD OF 'laws.FnFirstOther'. -/
def fnFirstOtherUptoCard : Claim7 := { stood := { row := fnFirstOtherUptoRow, standIns := [], harness := (true, "99b51f2e3df9256d918ced5bef05f76cf393dea49c13629e682fd77caebc6200"), looks := false }, kinds := [], alts := [], laidByText := true, laidKinds := [.sentinel], laidTests := true, laidLooks := .later }
def FnFirstOtherUptoCardSaid : Prop := Claim7.holds Tryd.pinned (.plain (OpenSpec.upto fnFirstOtherSpec)) fnFirstOtherUptoCard

/-- THE SECOND FORM's CARD OF 'laws.FnExactSegmentsOf'. -/
def fnExactSegmentsOfUptoCard : Claim7 := { stood := { row := fnExactSegmentsOfUptoRow, standIns := [], harness := (true, "99b51f2e3df9256d918ced5bef05f76cf393dea49c13629e682fd77caebc6200"), looks := false }, kinds := [], alts := [], laidByText := true, laidKinds := [.sentinel], laidTests := true, laidLooks := .later }
def FnExactSegmentsOfUptoCardSaid : Prop := Claim7.holds Tryd.pinned (.plain (OpenSpec.upto fnExactSegmentsOfSpec)) fnExactSegmentsOfUptoCard

/-- THE SECOND FORM's CARD OF 'laws.FnExactFormatSegments'. -/
def fnExactFormatSegmentsUptoCard : Claim7 := { stood := { row := fnExactFormatSegmentsUptoRow, standIns := [], harness := (true, "99b51f2e3df9256d918ced5bef05f76cf393dea49c13629e682fd77caebc6200"), looks := false }, kinds := [], alts := [], laidByText := true, laidKinds := [.data, .data, .data], laidTests := true, laidLooks := .later }
def FnExactFormatSegmentsUptoCardSaid : Prop := Claim7.holds Tryd.pinned (.plain (OpenSpec.upto fnExactFormatSegmentsSpec)) fnExactFormatSegmentsUptoCard

/-- THE SECOND FORM's CARD OF 'laws.FnExactMergeCases'. -/
def fnExactMergeCasesUptoCard : Claim7 := { stood := { row := fnExactMergeCasesUptoRow, standIns := [], harness := (true, "99b51f2e3df9256d918ced5bef05f76cf393dea49c13629e682fd77caebc6200"), looks := false }, kinds := [], alts := [], laidByText := true, laidKinds := [.sentinel], laidTests := true, laidLooks := .later }
def FnExactMergeCasesUptoCardSaid : Prop := Claim7.holds Tryd.pinned (.plain (OpenSpec.upto fnExactMergeCasesSpec)) fnExactMergeCasesUptoCard

/-- THE SECOND FORM's CARD OF 'laws.FnExactSameTargets'. -/
def fnExactSameTargetsUptoCard : Claim7 := { stood := { row := fnExactSameTargetsUptoRow, standIns := [], harness := (true, "99b51f2e3df9256d918ced5bef05f76cf393dea49c13629e682fd77caebc6200"), looks := false }, kinds := [], alts := [], laidByText := true, laidKinds := [.sentinel], laidTests := true, laidLooks := .later }
def FnExactSameTargetsUptoCardSaid : Prop := Claim7.holds Tryd.pinned (.plain (OpenSpec.upto fnExactSameTargetsSpec)) fnExactSameTargetsUptoCard

/-- THE SECOND FORM's CARD OF 'laws.FnExactFirstOther'. -/
def fnExactFirstOtherUptoCard : Claim7 := { stood := { row := fnExactFirstOtherUptoRow, standIns := [], harness := (true, "99b51f2e3df9256d918ced5bef05f76cf393dea49c13629e682fd77caebc6200"), looks := false }, kinds := [], alts := [], laidByText := true, laidKinds := [.sentinel], laidTests := true, laidLooks := .later }
def FnExactFirstOtherUptoCardSaid : Prop := Claim7.holds Tryd.pinned (.plain (OpenSpec.upto fnExactFirstOtherSpec)) fnExactFirstOtherUptoCard

/-- THE SECOND FORM's CARD OF 'laws.FnExactIsComplete'. -/
def fnExactIsCompleteUptoCard : Claim7 := { stood := { row := fnExactIsCompleteUptoRow, standIns := [], harness := (true, "99b51f2e3df9256d918ced5bef05f76cf393dea49c13629e682fd77caebc6200"), looks := false }, kinds := [], alts := [], laidByText := true, laidKinds := [.sentinel], laidTests := true, laidLooks := .later }
def FnExactIsCompleteUptoCardSaid : Prop := Claim7.holds Tryd.pinned (.plain (OpenSpec.upto fnExactIsCompleteSpec)) fnExactIsCompleteUptoCard

/-- THE SECOND FORM's CARD OF 'laws.FnExactBordersOf'. -/
def fnExactBordersOfUptoCard : Claim7 := { stood := { row := fnExactBordersOfUptoRow, standIns := [], harness := (true, "99b51f2e3df9256d918ced5bef05f76cf393dea49c13629e682fd77caebc6200"), looks := false }, kinds := [], alts := [], laidByText := true, laidKinds := [.sentinel], laidTests := true, laidLooks := .later }
def FnExactBordersOfUptoCardSaid : Prop := Claim7.holds Tryd.pinned (.plain (OpenSpec.upto fnExactBordersOfSpec)) fnExactBordersOfUptoCard

/-- THE SECOND FORM's CARD OF 'laws.FnExactCountGaps'. -/
def fnExactCountGapsUptoCard : Claim7 := { stood := { row := fnExactCountGapsUptoRow, standIns := [], harness := (true, "99b51f2e3df9256d918ced5bef05f76cf393dea49c13629e682fd77caebc6200"), looks := false }, kinds := [], alts := [], laidByText := true, laidKinds := [.sentinel], laidTests := true, laidLooks := .later }
def FnExactCountGapsUptoCardSaid : Prop := Claim7.holds Tryd.pinned (.plain (OpenSpec.upto fnExactCountGapsSpec)) fnExactCountGapsUptoCard
end Rows
end Go.Proofs.YtlcekocbaffnnaaDoor
