/-
  DERIVED. GIVEN WITH THE SEED: THE CARDS: each row of YtjpcpiffffobcaaDoorRows.lean that lists a variable, with what it lists TIED to the program's text (the seventh form; the later family's looks); each row that meets fmt, with fmt's text TOLD by the authors' own Lean function (tested against real Go, not proved from fmt's source: count such statements apart). THE CARD IS WHAT COUNTS. Prove the row's statement (the work); the ties are given (YtjpcpiffffobcaaDoorTie.lean); close each card by the builder's one call (the guide's Derived/Test/ToyasCard.lean, 'card_holds'). Laid BY PROGRAM, IN A SANDBOX (cutbox-door.mjs). By AI agents, Wed Nov 11 2026. No macro, syntax, notation, axiom, sorry.
-/
import Derived.Test.YtjpcpiffffobcaaDoorRows
import GoSem.ClaimSeven
namespace Go.Proofs.YtjpcpiffffobcaaDoor
namespace Rows

/-- THE TIED CARD OF 'laws.FnExactPriceOf'. -/
def fnExactPriceOfCard : Claim7 := { stood := { row := fnExactPriceOfRow, standIns := [], harness := (true, "623c42d1478a25e32daf0dcfb4fbcb32f5810674285ed2a65e8f8383ed1423d6"), looks := false }, kinds := [], alts := [], laidByText := true, laidKinds := [.sentinel], laidTests := true, laidLooks := .later }
def FnExactPriceOfCardSaid : Prop := Claim7.holds Tryd.pinned (.plain (OpenSpec.ofChange fnExactPriceOfSpec)) fnExactPriceOfCard

/-- THE TIED CARD OF 'laws.FnExactBestKind'. -/
def fnExactBestKindCard : Claim7 := { stood := { row := fnExactBestKindRow, standIns := [], harness := (true, "623c42d1478a25e32daf0dcfb4fbcb32f5810674285ed2a65e8f8383ed1423d6"), looks := false }, kinds := [], alts := [], laidByText := true, laidKinds := [.sentinel], laidTests := true, laidLooks := .later }
def FnExactBestKindCardSaid : Prop := Claim7.holds Tryd.pinned (.plain (OpenSpec.ofChange fnExactBestKindSpec)) fnExactBestKindCard

/-- THE TIED CARD OF 'laws.FnExactPlanValid'. -/
def fnExactPlanValidCard : Claim7 := { stood := { row := fnExactPlanValidRow, standIns := [], harness := (true, "623c42d1478a25e32daf0dcfb4fbcb32f5810674285ed2a65e8f8383ed1423d6"), looks := false }, kinds := [], alts := [], laidByText := true, laidKinds := [.sentinel], laidTests := true, laidLooks := .later }
def FnExactPlanValidCardSaid : Prop := Claim7.holds Tryd.pinned (.plain (OpenSpec.ofChange fnExactPlanValidSpec)) fnExactPlanValidCard

/-- THE TIED CARD OF 'laws.FnExactPlanPrice'. -/
def fnExactPlanPriceCard : Claim7 := { stood := { row := fnExactPlanPriceRow, standIns := [], harness := (true, "623c42d1478a25e32daf0dcfb4fbcb32f5810674285ed2a65e8f8383ed1423d6"), looks := false }, kinds := [], alts := [], laidByText := true, laidKinds := [.sentinel], laidTests := true, laidLooks := .later }
def FnExactPlanPriceCardSaid : Prop := Claim7.holds Tryd.pinned (.plain (OpenSpec.ofChange fnExactPlanPriceSpec)) fnExactPlanPriceCard

/-- THE TIED CARD OF 'laws.FnExactBestPlan'. -/
def fnExactBestPlanCard : Claim7 := { stood := { row := fnExactBestPlanRow, standIns := [], harness := (true, "623c42d1478a25e32daf0dcfb4fbcb32f5810674285ed2a65e8f8383ed1423d6"), looks := false }, kinds := [], alts := [], laidByText := true, laidKinds := [.sentinel], laidTests := true, laidLooks := .later }
def FnExactBestPlanCardSaid : Prop := Claim7.holds Tryd.pinned (.plain (OpenSpec.ofChange fnExactBestPlanSpec)) fnExactBestPlanCard

/-- THE TIED CARD OF 'laws.FnExactLeastPrice'. -/
def fnExactLeastPriceCard : Claim7 := { stood := { row := fnExactLeastPriceRow, standIns := [], harness := (true, "623c42d1478a25e32daf0dcfb4fbcb32f5810674285ed2a65e8f8383ed1423d6"), looks := false }, kinds := [], alts := [], laidByText := true, laidKinds := [.sentinel], laidTests := true, laidLooks := .later }
def FnExactLeastPriceCardSaid : Prop := Claim7.holds Tryd.pinned (.plain (OpenSpec.ofChange fnExactLeastPriceSpec)) fnExactLeastPriceCard

/-- THE TIED CARD OF 'laws.FnExactFormatPlan'. -/
def fnExactFormatPlanCard : Claim7 := { stood := { row := fnExactFormatPlanRow, standIns := [], harness := (true, "623c42d1478a25e32daf0dcfb4fbcb32f5810674285ed2a65e8f8383ed1423d6"), looks := false }, kinds := [], alts := [], laidByText := true, laidKinds := [.data, .data, .data], laidTests := true, laidLooks := .later }
def FnExactFormatPlanCardSaid : Prop := Claim7.holds Tryd.pinned (.plain (OpenSpec.ofChange fnExactFormatPlanSpec)) fnExactFormatPlanCard

/-- THE TIED CARD OF 'laws.FnExactFormatSwitch'. -/
def fnExactFormatSwitchCard : Claim7 := { stood := { row := fnExactFormatSwitchRow, standIns := [], harness := (true, "623c42d1478a25e32daf0dcfb4fbcb32f5810674285ed2a65e8f8383ed1423d6"), looks := false }, kinds := [], alts := [], laidByText := true, laidKinds := [.data, .data, .data, .sentinel], laidTests := true, laidLooks := .later }
def FnExactFormatSwitchCardSaid : Prop := Claim7.holds Tryd.pinned (.plain (OpenSpec.ofChange fnExactFormatSwitchSpec)) fnExactFormatSwitchCard

/-- THE TIED CARD OF 'laws.FnExactFormatSegments'. -/
def fnExactFormatSegmentsCard : Claim7 := { stood := { row := fnExactFormatSegmentsRow, standIns := [], harness := (true, "623c42d1478a25e32daf0dcfb4fbcb32f5810674285ed2a65e8f8383ed1423d6"), looks := false }, kinds := [], alts := [], laidByText := true, laidKinds := [.data, .data, .data], laidTests := true, laidLooks := .later }
def FnExactFormatSegmentsCardSaid : Prop := Claim7.holds Tryd.pinned (.plain (OpenSpec.ofChange fnExactFormatSegmentsSpec)) fnExactFormatSegmentsCard

/-- THE SECOND FORM's CARD OF 'laws.FnExactPriceOf'. -/
def fnExactPriceOfUptoCard : Claim7 := { stood := { row := fnExactPriceOfUptoRow, standIns := [], harness := (true, "623c42d1478a25e32daf0dcfb4fbcb32f5810674285ed2a65e8f8383ed1423d6"), looks := false }, kinds := [], alts := [], laidByText := true, laidKinds := [.sentinel], laidTests := true, laidLooks := .later }
def FnExactPriceOfUptoCardSaid : Prop := Claim7.holds Tryd.pinned (.plain (OpenSpec.upto fnExactPriceOfSpec)) fnExactPriceOfUptoCard

/-- THE SECOND FORM's CARD OF 'laws.FnExactBestKind'. -/
def fnExactBestKindUptoCard : Claim7 := { stood := { row := fnExactBestKindUptoRow, standIns := [], harness := (true, "623c42d1478a25e32daf0dcfb4fbcb32f5810674285ed2a65e8f8383ed1423d6"), looks := false }, kinds := [], alts := [], laidByText := true, laidKinds := [.sentinel], laidTests := true, laidLooks := .later }
def FnExactBestKindUptoCardSaid : Prop := Claim7.holds Tryd.pinned (.plain (OpenSpec.upto fnExactBestKindSpec)) fnExactBestKindUptoCard

/-- THE SECOND FORM's CARD OF 'laws.FnExactPlanValid'. -/
def fnExactPlanValidUptoCard : Claim7 := { stood := { row := fnExactPlanValidUptoRow, standIns := [], harness := (true, "623c42d1478a25e32daf0dcfb4fbcb32f5810674285ed2a65e8f8383ed1423d6"), looks := false }, kinds := [], alts := [], laidByText := true, laidKinds := [.sentinel], laidTests := true, laidLooks := .later }
def FnExactPlanValidUptoCardSaid : Prop := Claim7.holds Tryd.pinned (.plain (OpenSpec.upto fnExactPlanValidSpec)) fnExactPlanValidUptoCard

/-- THE SECOND FORM's CARD OF 'laws.FnExactPlanPrice'. -/
def fnExactPlanPriceUptoCard : Claim7 := { stood := { row := fnExactPlanPriceUptoRow, standIns := [], harness := (true, "623c42d1478a25e32daf0dcfb4fbcb32f5810674285ed2a65e8f8383ed1423d6"), looks := false }, kinds := [], alts := [], laidByText := true, laidKinds := [.sentinel], laidTests := true, laidLooks := .later }
def FnExactPlanPriceUptoCardSaid : Prop := Claim7.holds Tryd.pinned (.plain (OpenSpec.upto fnExactPlanPriceSpec)) fnExactPlanPriceUptoCard

/-- THE SECOND FORM's CARD OF 'laws.FnExactBestPlan'. -/
def fnExactBestPlanUptoCard : Claim7 := { stood := { row := fnExactBestPlanUptoRow, standIns := [], harness := (true, "623c42d1478a25e32daf0dcfb4fbcb32f5810674285ed2a65e8f8383ed1423d6"), looks := false }, kinds := [], alts := [], laidByText := true, laidKinds := [.sentinel], laidTests := true, laidLooks := .later }
def FnExactBestPlanUptoCardSaid : Prop := Claim7.holds Tryd.pinned (.plain (OpenSpec.upto fnExactBestPlanSpec)) fnExactBestPlanUptoCard

/-- THE SECOND FORM's CARD OF 'laws.FnExactLeastPrice'. -/
def fnExactLeastPriceUptoCard : Claim7 := { stood := { row := fnExactLeastPriceUptoRow, standIns := [], harness := (true, "623c42d1478a25e32daf0dcfb4fbcb32f5810674285ed2a65e8f8383ed1423d6"), looks := false }, kinds := [], alts := [], laidByText := true, laidKinds := [.sentinel], laidTests := true, laidLooks := .later }
def FnExactLeastPriceUptoCardSaid : Prop := Claim7.holds Tryd.pinned (.plain (OpenSpec.upto fnExactLeastPriceSpec)) fnExactLeastPriceUptoCard

/-- THE SECOND FORM's CARD OF 'laws.FnExactFormatPlan'. -/
def fnExactFormatPlanUptoCard : Claim7 := { stood := { row := fnExactFormatPlanUptoRow, standIns := [], harness := (true, "623c42d1478a25e32daf0dcfb4fbcb32f5810674285ed2a65e8f8383ed1423d6"), looks := false }, kinds := [], alts := [], laidByText := true, laidKinds := [.data, .data, .data], laidTests := true, laidLooks := .later }
def FnExactFormatPlanUptoCardSaid : Prop := Claim7.holds Tryd.pinned (.plain (OpenSpec.upto fnExactFormatPlanSpec)) fnExactFormatPlanUptoCard

/-- THE SECOND FORM's CARD OF 'laws.FnExactFormatSwitch'. -/
def fnExactFormatSwitchUptoCard : Claim7 := { stood := { row := fnExactFormatSwitchUptoRow, standIns := [], harness := (true, "623c42d1478a25e32daf0dcfb4fbcb32f5810674285ed2a65e8f8383ed1423d6"), looks := false }, kinds := [], alts := [], laidByText := true, laidKinds := [.data, .data, .data, .sentinel], laidTests := true, laidLooks := .later }
def FnExactFormatSwitchUptoCardSaid : Prop := Claim7.holds Tryd.pinned (.plain (OpenSpec.upto fnExactFormatSwitchSpec)) fnExactFormatSwitchUptoCard

/-- THE SECOND FORM's CARD OF 'laws.FnExactFormatSegments'. -/
def fnExactFormatSegmentsUptoCard : Claim7 := { stood := { row := fnExactFormatSegmentsUptoRow, standIns := [], harness := (true, "623c42d1478a25e32daf0dcfb4fbcb32f5810674285ed2a65e8f8383ed1423d6"), looks := false }, kinds := [], alts := [], laidByText := true, laidKinds := [.data, .data, .data], laidTests := true, laidLooks := .later }
def FnExactFormatSegmentsUptoCardSaid : Prop := Claim7.holds Tryd.pinned (.plain (OpenSpec.upto fnExactFormatSegmentsSpec)) fnExactFormatSegmentsUptoCard
end Rows
end Go.Proofs.YtjpcpiffffobcaaDoor
