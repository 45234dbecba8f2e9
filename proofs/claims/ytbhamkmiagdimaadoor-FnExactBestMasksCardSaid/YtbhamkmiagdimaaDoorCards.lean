/-
  DERIVED. GIVEN WITH THE SEED: THE CARDS: each row of YtbhamkmiagdimaaDoorRows.lean that lists a variable, with what it lists TIED to the program's text (the seventh form; the later family's looks); each row that meets fmt, with fmt's text TOLD by the authors' own Lean function (tested against real Go, not proved from fmt's source: count such statements apart). THE CARD IS WHAT COUNTS. Prove the row's statement (the work); the ties are given (YtbhamkmiagdimaaDoorTie.lean); close each card by the builder's one call (the guide's Derived/Test/ToyasCard.lean, 'card_holds'). Laid BY PROGRAM, IN A SANDBOX (cutbox-door.mjs). By AI agents, Wed Nov 11 2026. No macro, syntax, notation, axiom, sorry.
-/
import Derived.Test.YtbhamkmiagdimaaDoorRows
import GoSem.ClaimSeven
namespace Go.Proofs.YtbhamkmiagdimaaDoor
namespace Rows

/-- THE TIED CARD OF 'laws.FnExactPagesOf'. -/
def fnExactPagesOfCard : Claim7 := { stood := { row := fnExactPagesOfRow, standIns := [], harness := (true, "dad1ae9b114a731cc10d08a35a912705e34052443441631355e5b295f24eff8e"), looks := false }, kinds := [], alts := [], laidByText := true, laidKinds := [.sentinel], laidTests := true, laidLooks := .later }
def FnExactPagesOfCardSaid : Prop := Claim7.holds Tryd.pinned (.plain (OpenSpec.ofChange fnExactPagesOfSpec)) fnExactPagesOfCard

/-- THE TIED CARD OF 'laws.FnExactMaskOf'. -/
def fnExactMaskOfCard : Claim7 := { stood := { row := fnExactMaskOfRow, standIns := [], harness := (true, "dad1ae9b114a731cc10d08a35a912705e34052443441631355e5b295f24eff8e"), looks := false }, kinds := [], alts := [], laidByText := true, laidKinds := [.sentinel], laidTests := true, laidLooks := .later }
def FnExactMaskOfCardSaid : Prop := Claim7.holds Tryd.pinned (.plain (OpenSpec.ofChange fnExactMaskOfSpec)) fnExactMaskOfCard

/-- THE TIED CARD OF 'laws.FnExactMaskWeight'. -/
def fnExactMaskWeightCard : Claim7 := { stood := { row := fnExactMaskWeightRow, standIns := [], harness := (true, "dad1ae9b114a731cc10d08a35a912705e34052443441631355e5b295f24eff8e"), looks := false }, kinds := [], alts := [], laidByText := true, laidKinds := [.sentinel], laidTests := true, laidLooks := .later }
def FnExactMaskWeightCardSaid : Prop := Claim7.holds Tryd.pinned (.plain (OpenSpec.ofChange fnExactMaskWeightSpec)) fnExactMaskWeightCard

/-- THE TIED CARD OF 'laws.FnExactRunMasks'. -/
def fnExactRunMasksCard : Claim7 := { stood := { row := fnExactRunMasksRow, standIns := [], harness := (true, "dad1ae9b114a731cc10d08a35a912705e34052443441631355e5b295f24eff8e"), looks := false }, kinds := [], alts := [], laidByText := true, laidKinds := [.sentinel], laidTests := true, laidLooks := .later }
def FnExactRunMasksCardSaid : Prop := Claim7.holds Tryd.pinned (.plain (OpenSpec.ofChange fnExactRunMasksSpec)) fnExactRunMasksCard

/-- THE TIED CARD OF 'laws.FnExactMasksCost'. -/
def fnExactMasksCostCard : Claim7 := { stood := { row := fnExactMasksCostRow, standIns := [], harness := (true, "dad1ae9b114a731cc10d08a35a912705e34052443441631355e5b295f24eff8e"), looks := false }, kinds := [], alts := [], laidByText := true, laidKinds := [.sentinel], laidTests := true, laidLooks := .later }
def FnExactMasksCostCardSaid : Prop := Claim7.holds Tryd.pinned (.plain (OpenSpec.ofChange fnExactMasksCostSpec)) fnExactMasksCostCard

/-- THE TIED CARD OF 'laws.FnExactBestMasks'. -/
def fnExactBestMasksCard : Claim7 := { stood := { row := fnExactBestMasksRow, standIns := [], harness := (true, "dad1ae9b114a731cc10d08a35a912705e34052443441631355e5b295f24eff8e"), looks := false }, kinds := [], alts := [], laidByText := true, laidKinds := [.sentinel], laidTests := true, laidLooks := .later }
def FnExactBestMasksCardSaid : Prop := Claim7.holds Tryd.pinned (.plain (OpenSpec.ofChange fnExactBestMasksSpec)) fnExactBestMasksCard

/-- THE TIED CARD OF 'laws.FnExactSwitchFrom'. -/
def fnExactSwitchFromCard : Claim7 := { stood := { row := fnExactSwitchFromRow, standIns := [], harness := (true, "dad1ae9b114a731cc10d08a35a912705e34052443441631355e5b295f24eff8e"), looks := false }, kinds := [], alts := [], laidByText := true, laidKinds := [.data], laidTests := true, laidLooks := .later }
def FnExactSwitchFromCardSaid : Prop := Claim7.holds Tryd.pinned (.plain (OpenSpec.ofChange fnExactSwitchFromSpec)) fnExactSwitchFromCard

/-- THE SECOND FORM's CARD OF 'laws.FnExactPagesOf'. -/
def fnExactPagesOfUptoCard : Claim7 := { stood := { row := fnExactPagesOfUptoRow, standIns := [], harness := (true, "dad1ae9b114a731cc10d08a35a912705e34052443441631355e5b295f24eff8e"), looks := false }, kinds := [], alts := [], laidByText := true, laidKinds := [.sentinel], laidTests := true, laidLooks := .later }
def FnExactPagesOfUptoCardSaid : Prop := Claim7.holds Tryd.pinned (.plain (OpenSpec.upto fnExactPagesOfSpec)) fnExactPagesOfUptoCard

/-- THE SECOND FORM's CARD OF 'laws.FnExactMaskOf'. -/
def fnExactMaskOfUptoCard : Claim7 := { stood := { row := fnExactMaskOfUptoRow, standIns := [], harness := (true, "dad1ae9b114a731cc10d08a35a912705e34052443441631355e5b295f24eff8e"), looks := false }, kinds := [], alts := [], laidByText := true, laidKinds := [.sentinel], laidTests := true, laidLooks := .later }
def FnExactMaskOfUptoCardSaid : Prop := Claim7.holds Tryd.pinned (.plain (OpenSpec.upto fnExactMaskOfSpec)) fnExactMaskOfUptoCard

/-- THE SECOND FORM's CARD OF 'laws.FnExactMaskWeight'. -/
def fnExactMaskWeightUptoCard : Claim7 := { stood := { row := fnExactMaskWeightUptoRow, standIns := [], harness := (true, "dad1ae9b114a731cc10d08a35a912705e34052443441631355e5b295f24eff8e"), looks := false }, kinds := [], alts := [], laidByText := true, laidKinds := [.sentinel], laidTests := true, laidLooks := .later }
def FnExactMaskWeightUptoCardSaid : Prop := Claim7.holds Tryd.pinned (.plain (OpenSpec.upto fnExactMaskWeightSpec)) fnExactMaskWeightUptoCard

/-- THE SECOND FORM's CARD OF 'laws.FnExactRunMasks'. -/
def fnExactRunMasksUptoCard : Claim7 := { stood := { row := fnExactRunMasksUptoRow, standIns := [], harness := (true, "dad1ae9b114a731cc10d08a35a912705e34052443441631355e5b295f24eff8e"), looks := false }, kinds := [], alts := [], laidByText := true, laidKinds := [.sentinel], laidTests := true, laidLooks := .later }
def FnExactRunMasksUptoCardSaid : Prop := Claim7.holds Tryd.pinned (.plain (OpenSpec.upto fnExactRunMasksSpec)) fnExactRunMasksUptoCard

/-- THE SECOND FORM's CARD OF 'laws.FnExactMasksCost'. -/
def fnExactMasksCostUptoCard : Claim7 := { stood := { row := fnExactMasksCostUptoRow, standIns := [], harness := (true, "dad1ae9b114a731cc10d08a35a912705e34052443441631355e5b295f24eff8e"), looks := false }, kinds := [], alts := [], laidByText := true, laidKinds := [.sentinel], laidTests := true, laidLooks := .later }
def FnExactMasksCostUptoCardSaid : Prop := Claim7.holds Tryd.pinned (.plain (OpenSpec.upto fnExactMasksCostSpec)) fnExactMasksCostUptoCard

/-- THE SECOND FORM's CARD OF 'laws.FnExactBestMasks'. -/
def fnExactBestMasksUptoCard : Claim7 := { stood := { row := fnExactBestMasksUptoRow, standIns := [], harness := (true, "dad1ae9b114a731cc10d08a35a912705e34052443441631355e5b295f24eff8e"), looks := false }, kinds := [], alts := [], laidByText := true, laidKinds := [.sentinel], laidTests := true, laidLooks := .later }
def FnExactBestMasksUptoCardSaid : Prop := Claim7.holds Tryd.pinned (.plain (OpenSpec.upto fnExactBestMasksSpec)) fnExactBestMasksUptoCard

/-- THE SECOND FORM's CARD OF 'laws.FnExactSwitchFrom'. -/
def fnExactSwitchFromUptoCard : Claim7 := { stood := { row := fnExactSwitchFromUptoRow, standIns := [], harness := (true, "dad1ae9b114a731cc10d08a35a912705e34052443441631355e5b295f24eff8e"), looks := false }, kinds := [], alts := [], laidByText := true, laidKinds := [.data], laidTests := true, laidLooks := .later }
def FnExactSwitchFromUptoCardSaid : Prop := Claim7.holds Tryd.pinned (.plain (OpenSpec.upto fnExactSwitchFromSpec)) fnExactSwitchFromUptoCard
end Rows
end Go.Proofs.YtbhamkmiagdimaaDoor
