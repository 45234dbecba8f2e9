/-
  DERIVED. GIVEN WITH THE SEED: THE CARDS: each row of YtnnhnoamhbjcjaaDoorRows.lean that lists a variable, with what it lists TIED to the program's text (the seventh form; the later family's looks); each row that meets fmt, with fmt's text TOLD by the authors' own Lean function (tested against real Go, not proved from fmt's source: count such statements apart). THE CARD IS WHAT COUNTS. Prove the row's statement (the work); the ties are given (YtnnhnoamhbjcjaaDoorTie.lean); close each card by the builder's one call (the guide's Derived/Test/ToyasCard.lean, 'card_holds'). Laid BY PROGRAM, IN A SANDBOX (cutbox-door.mjs). By AI agents, Wed Nov 11 2026. No macro, syntax, notation, axiom, sorry.
-/
import Derived.Test.YtnnhnoamhbjcjaaDoorRows
import GoSem.ClaimSeven
namespace Go.Proofs.YtnnhnoamhbjcjaaDoor
namespace Rows

/-- THE TIED CARD OF 'laws.FnTargetOf'. -/
def fnTargetOfCard : Claim7 := { stood := { row := fnTargetOfRow, standIns := [], harness := (true, "ca456671ae824e8e2019e778ff0b087b626b2fcc8f7888ddab9159596110933d"), looks := false }, kinds := [], alts := [], laidByText := true, laidKinds := [.sentinel], laidTests := true, laidLooks := .later }
def FnTargetOfCardSaid : Prop := Claim7.holds Tryd.pinned (.plain (OpenSpec.ofChange fnTargetOfSpec)) fnTargetOfCard

/-- THE TIED CARD OF 'laws.FnExactSwitchValid'. -/
def fnExactSwitchValidCard : Claim7 := { stood := { row := fnExactSwitchValidRow, standIns := [], harness := (true, "ca456671ae824e8e2019e778ff0b087b626b2fcc8f7888ddab9159596110933d"), looks := false }, kinds := [], alts := [], laidByText := true, laidKinds := [.sentinel], laidTests := true, laidLooks := .later }
def FnExactSwitchValidCardSaid : Prop := Claim7.holds Tryd.pinned (.plain (OpenSpec.ofChange fnExactSwitchValidSpec)) fnExactSwitchValidCard

/-- THE TIED CARD OF 'laws.FnExactFormatSwitch'. -/
def fnExactFormatSwitchCard : Claim7 := { stood := { row := fnExactFormatSwitchRow, standIns := [], harness := (true, "ca456671ae824e8e2019e778ff0b087b626b2fcc8f7888ddab9159596110933d"), looks := false }, kinds := [], alts := [], laidByText := true, laidKinds := [.data, .data, .data, .sentinel], laidTests := true, laidLooks := .later }
def FnExactFormatSwitchCardSaid : Prop := Claim7.holds Tryd.pinned (.plain (OpenSpec.ofChange fnExactFormatSwitchSpec)) fnExactFormatSwitchCard

/-- THE TIED CARD OF 'laws.FnExactTargetOf'. -/
def fnExactTargetOfCard : Claim7 := { stood := { row := fnExactTargetOfRow, standIns := [], harness := (true, "ca456671ae824e8e2019e778ff0b087b626b2fcc8f7888ddab9159596110933d"), looks := false }, kinds := [], alts := [], laidByText := true, laidKinds := [.sentinel], laidTests := true, laidLooks := .later }
def FnExactTargetOfCardSaid : Prop := Claim7.holds Tryd.pinned (.plain (OpenSpec.ofChange fnExactTargetOfSpec)) fnExactTargetOfCard

/-- THE TIED CARD OF 'laws.FnExactCaseOf'. -/
def fnExactCaseOfCard : Claim7 := { stood := { row := fnExactCaseOfRow, standIns := [], harness := (true, "ca456671ae824e8e2019e778ff0b087b626b2fcc8f7888ddab9159596110933d"), looks := false }, kinds := [], alts := [], laidByText := true, laidKinds := [.sentinel], laidTests := true, laidLooks := .later }
def FnExactCaseOfCardSaid : Prop := Claim7.holds Tryd.pinned (.plain (OpenSpec.ofChange fnExactCaseOfSpec)) fnExactCaseOfCard

/-- THE TIED CARD OF 'laws.FnExactTargetsOf'. -/
def fnExactTargetsOfCard : Claim7 := { stood := { row := fnExactTargetsOfRow, standIns := [], harness := (true, "ca456671ae824e8e2019e778ff0b087b626b2fcc8f7888ddab9159596110933d"), looks := false }, kinds := [], alts := [], laidByText := true, laidKinds := [.sentinel], laidTests := true, laidLooks := .later }
def FnExactTargetsOfCardSaid : Prop := Claim7.holds Tryd.pinned (.plain (OpenSpec.ofChange fnExactTargetsOfSpec)) fnExactTargetsOfCard

/-- THE TIED CARD OF 'laws.FnExactCountKeys'. -/
def fnExactCountKeysCard : Claim7 := { stood := { row := fnExactCountKeysRow, standIns := [], harness := (true, "ca456671ae824e8e2019e778ff0b087b626b2fcc8f7888ddab9159596110933d"), looks := false }, kinds := [], alts := [], laidByText := true, laidKinds := [.sentinel], laidTests := true, laidLooks := .later }
def FnExactCountKeysCardSaid : Prop := Claim7.holds Tryd.pinned (.plain (OpenSpec.ofChange fnExactCountKeysSpec)) fnExactCountKeysCard

/-- THE TIED CARD OF 'laws.FnExactTotalWeight'. -/
def fnExactTotalWeightCard : Claim7 := { stood := { row := fnExactTotalWeightRow, standIns := [], harness := (true, "ca456671ae824e8e2019e778ff0b087b626b2fcc8f7888ddab9159596110933d"), looks := false }, kinds := [], alts := [], laidByText := true, laidKinds := [.sentinel], laidTests := true, laidLooks := .later }
def FnExactTotalWeightCardSaid : Prop := Claim7.holds Tryd.pinned (.plain (OpenSpec.ofChange fnExactTotalWeightSpec)) fnExactTotalWeightCard

/-- THE SECOND FORM's CARD OF 'laws.FnTargetOf'. -/
def fnTargetOfUptoCard : Claim7 := { stood := { row := fnTargetOfUptoRow, standIns := [], harness := (true, "ca456671ae824e8e2019e778ff0b087b626b2fcc8f7888ddab9159596110933d"), looks := false }, kinds := [], alts := [], laidByText := true, laidKinds := [.sentinel], laidTests := true, laidLooks := .later }
def FnTargetOfUptoCardSaid : Prop := Claim7.holds Tryd.pinned (.plain (OpenSpec.upto fnTargetOfSpec)) fnTargetOfUptoCard

/-- THE SECOND FORM's CARD OF 'laws.FnExactSwitchValid'. -/
def fnExactSwitchValidUptoCard : Claim7 := { stood := { row := fnExactSwitchValidUptoRow, standIns := [], harness := (true, "ca456671ae824e8e2019e778ff0b087b626b2fcc8f7888ddab9159596110933d"), looks := false }, kinds := [], alts := [], laidByText := true, laidKinds := [.sentinel], laidTests := true, laidLooks := .later }
def FnExactSwitchValidUptoCardSaid : Prop := Claim7.holds Tryd.pinned (.plain (OpenSpec.upto fnExactSwitchValidSpec)) fnExactSwitchValidUptoCard

/-- THE SECOND FORM's CARD OF 'laws.FnExactFormatSwitch'. -/
def fnExactFormatSwitchUptoCard : Claim7 := { stood := { row := fnExactFormatSwitchUptoRow, standIns := [], harness := (true, "ca456671ae824e8e2019e778ff0b087b626b2fcc8f7888ddab9159596110933d"), looks := false }, kinds := [], alts := [], laidByText := true, laidKinds := [.data, .data, .data, .sentinel], laidTests := true, laidLooks := .later }
def FnExactFormatSwitchUptoCardSaid : Prop := Claim7.holds Tryd.pinned (.plain (OpenSpec.upto fnExactFormatSwitchSpec)) fnExactFormatSwitchUptoCard

/-- THE SECOND FORM's CARD OF 'laws.FnExactTargetOf'. -/
def fnExactTargetOfUptoCard : Claim7 := { stood := { row := fnExactTargetOfUptoRow, standIns := [], harness := (true, "ca456671ae824e8e2019e778ff0b087b626b2fcc8f7888ddab9159596110933d"), looks := false }, kinds := [], alts := [], laidByText := true, laidKinds := [.sentinel], laidTests := true, laidLooks := .later }
def FnExactTargetOfUptoCardSaid : Prop := Claim7.holds Tryd.pinned (.plain (OpenSpec.upto fnExactTargetOfSpec)) fnExactTargetOfUptoCard

/-- THE SECOND FORM's CARD OF 'laws.FnExactCaseOf'. -/
def fnExactCaseOfUptoCard : Claim7 := { stood := { row := fnExactCaseOfUptoRow, standIns := [], harness := (true, "ca456671ae824e8e2019e778ff0b087b626b2fcc8f7888ddab9159596110933d"), looks := false }, kinds := [], alts := [], laidByText := true, laidKinds := [.sentinel], laidTests := true, laidLooks := .later }
def FnExactCaseOfUptoCardSaid : Prop := Claim7.holds Tryd.pinned (.plain (OpenSpec.upto fnExactCaseOfSpec)) fnExactCaseOfUptoCard

/-- THE SECOND FORM's CARD OF 'laws.FnExactTargetsOf'. -/
def fnExactTargetsOfUptoCard : Claim7 := { stood := { row := fnExactTargetsOfUptoRow, standIns := [], harness := (true, "ca456671ae824e8e2019e778ff0b087b626b2fcc8f7888ddab9159596110933d"), looks := false }, kinds := [], alts := [], laidByText := true, laidKinds := [.sentinel], laidTests := true, laidLooks := .later }
def FnExactTargetsOfUptoCardSaid : Prop := Claim7.holds Tryd.pinned (.plain (OpenSpec.upto fnExactTargetsOfSpec)) fnExactTargetsOfUptoCard

/-- THE SECOND FORM's CARD OF 'laws.FnExactCountKeys'. -/
def fnExactCountKeysUptoCard : Claim7 := { stood := { row := fnExactCountKeysUptoRow, standIns := [], harness := (true, "ca456671ae824e8e2019e778ff0b087b626b2fcc8f7888ddab9159596110933d"), looks := false }, kinds := [], alts := [], laidByText := true, laidKinds := [.sentinel], laidTests := true, laidLooks := .later }
def FnExactCountKeysUptoCardSaid : Prop := Claim7.holds Tryd.pinned (.plain (OpenSpec.upto fnExactCountKeysSpec)) fnExactCountKeysUptoCard

/-- THE SECOND FORM's CARD OF 'laws.FnExactTotalWeight'. -/
def fnExactTotalWeightUptoCard : Claim7 := { stood := { row := fnExactTotalWeightUptoRow, standIns := [], harness := (true, "ca456671ae824e8e2019e778ff0b087b626b2fcc8f7888ddab9159596110933d"), looks := false }, kinds := [], alts := [], laidByText := true, laidKinds := [.sentinel], laidTests := true, laidLooks := .later }
def FnExactTotalWeightUptoCardSaid : Prop := Claim7.holds Tryd.pinned (.plain (OpenSpec.upto fnExactTotalWeightSpec)) fnExactTotalWeightUptoCard
end Rows
end Go.Proofs.YtnnhnoamhbjcjaaDoor
