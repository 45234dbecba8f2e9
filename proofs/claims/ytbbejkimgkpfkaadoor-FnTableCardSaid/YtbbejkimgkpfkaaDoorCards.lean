/-
  DERIVED. GIVEN WITH THE SEED: THE CARDS: each row of YtbbejkimgkpfkaaDoorRows.lean that lists a variable, with what it lists TIED to the program's text (the seventh form; the later family's looks); each row that meets fmt, with fmt's text TOLD by the authors' own Lean function (tested against real Go, not proved from fmt's source: count such statements apart). THE CARD IS WHAT COUNTS. Prove the row's statement (the work); the ties are given (YtbbejkimgkpfkaaDoorTie.lean); close each card by the builder's one call (the guide's Derived/Test/ToyasCard.lean, 'card_holds'). Laid BY PROGRAM, IN A SANDBOX (cutbox-door.mjs). By AI agents, Wed Nov 11 2026. No macro, syntax, notation, axiom, sorry.
-/
import Derived.Test.YtbbejkimgkpfkaaDoorRows
import GoSem.ClaimSeven
namespace Go.Proofs.YtbbejkimgkpfkaaDoor
namespace Rows

/-- THE TIED CARD OF 'laws.FnBestChain'. -/
def fnBestChainCard : Claim7 := { stood := { row := fnBestChainRow, standIns := [], harness := (true, "510d36e18bb67df0b69a65d4c86aec9ec3598a065a127aec219ac89c68aa6306"), looks := false }, kinds := [], alts := [], laidByText := true, laidKinds := [.sentinel], laidTests := true, laidLooks := .later }
def FnBestChainCardSaid : Prop := Claim7.holds Tryd.pinned (.plain (OpenSpec.ofChange fnBestChainSpec)) fnBestChainCard

/-- THE TIED CARD OF 'laws.FnTable'. -/
def fnTableCard : Claim7 := { stood := { row := fnTableRow, standIns := [], harness := (true, "510d36e18bb67df0b69a65d4c86aec9ec3598a065a127aec219ac89c68aa6306"), looks := false }, kinds := [], alts := [], laidByText := true, laidKinds := [.sentinel], laidTests := true, laidLooks := .later }
def FnTableCardSaid : Prop := Claim7.holds Tryd.pinned (.plain (OpenSpec.ofChange fnTableSpec)) fnTableCard

/-- THE TIED CARD OF 'laws.FnDense'. -/
def fnDenseCard : Claim7 := { stood := { row := fnDenseRow, standIns := [], harness := (true, "510d36e18bb67df0b69a65d4c86aec9ec3598a065a127aec219ac89c68aa6306"), looks := false }, kinds := [], alts := [], laidByText := true, laidKinds := [.sentinel], laidTests := true, laidLooks := .later }
def FnDenseCardSaid : Prop := Claim7.holds Tryd.pinned (.plain (OpenSpec.ofChange fnDenseSpec)) fnDenseCard

/-- THE TIED CARD OF 'laws.FnPages'. -/
def fnPagesCard : Claim7 := { stood := { row := fnPagesRow, standIns := [], harness := (true, "510d36e18bb67df0b69a65d4c86aec9ec3598a065a127aec219ac89c68aa6306"), looks := false }, kinds := [], alts := [], laidByText := true, laidKinds := [.sentinel], laidTests := true, laidLooks := .later }
def FnPagesCardSaid : Prop := Claim7.holds Tryd.pinned (.plain (OpenSpec.ofChange fnPagesSpec)) fnPagesCard

/-- THE TIED CARD OF 'laws.FnExactTableFor'. -/
def fnExactTableForCard : Claim7 := { stood := { row := fnExactTableForRow, standIns := [], harness := (true, "510d36e18bb67df0b69a65d4c86aec9ec3598a065a127aec219ac89c68aa6306"), looks := false }, kinds := [], alts := [], laidByText := true, laidKinds := [.sentinel], laidTests := true, laidLooks := .later }
def FnExactTableForCardSaid : Prop := Claim7.holds Tryd.pinned (.plain (OpenSpec.ofChange fnExactTableForSpec)) fnExactTableForCard

/-- THE TIED CARD OF 'laws.FnExactDensity'. -/
def fnExactDensityCard : Claim7 := { stood := { row := fnExactDensityRow, standIns := [], harness := (true, "510d36e18bb67df0b69a65d4c86aec9ec3598a065a127aec219ac89c68aa6306"), looks := false }, kinds := [], alts := [], laidByText := true, laidKinds := [.sentinel], laidTests := true, laidLooks := .later }
def FnExactDensityCardSaid : Prop := Claim7.holds Tryd.pinned (.plain (OpenSpec.ofChange fnExactDensitySpec)) fnExactDensityCard

/-- THE TIED CARD OF 'laws.FnExactDenseCases'. -/
def fnExactDenseCasesCard : Claim7 := { stood := { row := fnExactDenseCasesRow, standIns := [], harness := (true, "510d36e18bb67df0b69a65d4c86aec9ec3598a065a127aec219ac89c68aa6306"), looks := false }, kinds := [], alts := [], laidByText := true, laidKinds := [.sentinel], laidTests := true, laidLooks := .later }
def FnExactDenseCasesCardSaid : Prop := Claim7.holds Tryd.pinned (.plain (OpenSpec.ofChange fnExactDenseCasesSpec)) fnExactDenseCasesCard

/-- THE TIED CARD OF 'laws.FnExactPagesOf'. -/
def fnExactPagesOfCard : Claim7 := { stood := { row := fnExactPagesOfRow, standIns := [], harness := (true, "510d36e18bb67df0b69a65d4c86aec9ec3598a065a127aec219ac89c68aa6306"), looks := false }, kinds := [], alts := [], laidByText := true, laidKinds := [.sentinel], laidTests := true, laidLooks := .later }
def FnExactPagesOfCardSaid : Prop := Claim7.holds Tryd.pinned (.plain (OpenSpec.ofChange fnExactPagesOfSpec)) fnExactPagesOfCard

/-- THE TIED CARD OF 'laws.FnExactPagedSize'. -/
def fnExactPagedSizeCard : Claim7 := { stood := { row := fnExactPagedSizeRow, standIns := [], harness := (true, "510d36e18bb67df0b69a65d4c86aec9ec3598a065a127aec219ac89c68aa6306"), looks := false }, kinds := [], alts := [], laidByText := true, laidKinds := [.sentinel], laidTests := true, laidLooks := .later }
def FnExactPagedSizeCardSaid : Prop := Claim7.holds Tryd.pinned (.plain (OpenSpec.ofChange fnExactPagedSizeSpec)) fnExactPagedSizeCard

/-- THE TIED CARD OF 'laws.FnExactBestPage'. -/
def fnExactBestPageCard : Claim7 := { stood := { row := fnExactBestPageRow, standIns := [], harness := (true, "510d36e18bb67df0b69a65d4c86aec9ec3598a065a127aec219ac89c68aa6306"), looks := false }, kinds := [], alts := [], laidByText := true, laidKinds := [.sentinel], laidTests := true, laidLooks := .later }
def FnExactBestPageCardSaid : Prop := Claim7.holds Tryd.pinned (.plain (OpenSpec.ofChange fnExactBestPageSpec)) fnExactBestPageCard

/-- THE SECOND FORM's CARD OF 'laws.FnBestChain'. -/
def fnBestChainUptoCard : Claim7 := { stood := { row := fnBestChainUptoRow, standIns := [], harness := (true, "510d36e18bb67df0b69a65d4c86aec9ec3598a065a127aec219ac89c68aa6306"), looks := false }, kinds := [], alts := [], laidByText := true, laidKinds := [.sentinel], laidTests := true, laidLooks := .later }
def FnBestChainUptoCardSaid : Prop := Claim7.holds Tryd.pinned (.plain (OpenSpec.upto fnBestChainSpec)) fnBestChainUptoCard

/-- THE SECOND FORM's CARD OF 'laws.FnTable'. -/
def fnTableUptoCard : Claim7 := { stood := { row := fnTableUptoRow, standIns := [], harness := (true, "510d36e18bb67df0b69a65d4c86aec9ec3598a065a127aec219ac89c68aa6306"), looks := false }, kinds := [], alts := [], laidByText := true, laidKinds := [.sentinel], laidTests := true, laidLooks := .later }
def FnTableUptoCardSaid : Prop := Claim7.holds Tryd.pinned (.plain (OpenSpec.upto fnTableSpec)) fnTableUptoCard

/-- THE SECOND FORM's CARD OF 'laws.FnDense'. -/
def fnDenseUptoCard : Claim7 := { stood := { row := fnDenseUptoRow, standIns := [], harness := (true, "510d36e18bb67df0b69a65d4c86aec9ec3598a065a127aec219ac89c68aa6306"), looks := false }, kinds := [], alts := [], laidByText := true, laidKinds := [.sentinel], laidTests := true, laidLooks := .later }
def FnDenseUptoCardSaid : Prop := Claim7.holds Tryd.pinned (.plain (OpenSpec.upto fnDenseSpec)) fnDenseUptoCard

/-- THE SECOND FORM's CARD OF 'laws.FnPages'. -/
def fnPagesUptoCard : Claim7 := { stood := { row := fnPagesUptoRow, standIns := [], harness := (true, "510d36e18bb67df0b69a65d4c86aec9ec3598a065a127aec219ac89c68aa6306"), looks := false }, kinds := [], alts := [], laidByText := true, laidKinds := [.sentinel], laidTests := true, laidLooks := .later }
def FnPagesUptoCardSaid : Prop := Claim7.holds Tryd.pinned (.plain (OpenSpec.upto fnPagesSpec)) fnPagesUptoCard

/-- THE SECOND FORM's CARD OF 'laws.FnExactTableFor'. -/
def fnExactTableForUptoCard : Claim7 := { stood := { row := fnExactTableForUptoRow, standIns := [], harness := (true, "510d36e18bb67df0b69a65d4c86aec9ec3598a065a127aec219ac89c68aa6306"), looks := false }, kinds := [], alts := [], laidByText := true, laidKinds := [.sentinel], laidTests := true, laidLooks := .later }
def FnExactTableForUptoCardSaid : Prop := Claim7.holds Tryd.pinned (.plain (OpenSpec.upto fnExactTableForSpec)) fnExactTableForUptoCard

/-- THE SECOND FORM's CARD OF 'laws.FnExactDensity'. -/
def fnExactDensityUptoCard : Claim7 := { stood := { row := fnExactDensityUptoRow, standIns := [], harness := (true, "510d36e18bb67df0b69a65d4c86aec9ec3598a065a127aec219ac89c68aa6306"), looks := false }, kinds := [], alts := [], laidByText := true, laidKinds := [.sentinel], laidTests := true, laidLooks := .later }
def FnExactDensityUptoCardSaid : Prop := Claim7.holds Tryd.pinned (.plain (OpenSpec.upto fnExactDensitySpec)) fnExactDensityUptoCard

/-- THE SECOND FORM's CARD OF 'laws.FnExactDenseCases'. -/
def fnExactDenseCasesUptoCard : Claim7 := { stood := { row := fnExactDenseCasesUptoRow, standIns := [], harness := (true, "510d36e18bb67df0b69a65d4c86aec9ec3598a065a127aec219ac89c68aa6306"), looks := false }, kinds := [], alts := [], laidByText := true, laidKinds := [.sentinel], laidTests := true, laidLooks := .later }
def FnExactDenseCasesUptoCardSaid : Prop := Claim7.holds Tryd.pinned (.plain (OpenSpec.upto fnExactDenseCasesSpec)) fnExactDenseCasesUptoCard

/-- THE SECOND FORM's CARD OF 'laws.FnExactPagesOf'. -/
def fnExactPagesOfUptoCard : Claim7 := { stood := { row := fnExactPagesOfUptoRow, standIns := [], harness := (true, "510d36e18bb67df0b69a65d4c86aec9ec3598a065a127aec219ac89c68aa6306"), looks := false }, kinds := [], alts := [], laidByText := true, laidKinds := [.sentinel], laidTests := true, laidLooks := .later }
def FnExactPagesOfUptoCardSaid : Prop := Claim7.holds Tryd.pinned (.plain (OpenSpec.upto fnExactPagesOfSpec)) fnExactPagesOfUptoCard

/-- THE SECOND FORM's CARD OF 'laws.FnExactPagedSize'. -/
def fnExactPagedSizeUptoCard : Claim7 := { stood := { row := fnExactPagedSizeUptoRow, standIns := [], harness := (true, "510d36e18bb67df0b69a65d4c86aec9ec3598a065a127aec219ac89c68aa6306"), looks := false }, kinds := [], alts := [], laidByText := true, laidKinds := [.sentinel], laidTests := true, laidLooks := .later }
def FnExactPagedSizeUptoCardSaid : Prop := Claim7.holds Tryd.pinned (.plain (OpenSpec.upto fnExactPagedSizeSpec)) fnExactPagedSizeUptoCard

/-- THE SECOND FORM's CARD OF 'laws.FnExactBestPage'. -/
def fnExactBestPageUptoCard : Claim7 := { stood := { row := fnExactBestPageUptoRow, standIns := [], harness := (true, "510d36e18bb67df0b69a65d4c86aec9ec3598a065a127aec219ac89c68aa6306"), looks := false }, kinds := [], alts := [], laidByText := true, laidKinds := [.sentinel], laidTests := true, laidLooks := .later }
def FnExactBestPageUptoCardSaid : Prop := Claim7.holds Tryd.pinned (.plain (OpenSpec.upto fnExactBestPageSpec)) fnExactBestPageUptoCard
end Rows
end Go.Proofs.YtbbejkimgkpfkaaDoor
