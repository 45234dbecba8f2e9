/-
  DERIVED. GIVEN WITH THE SEED: THE CARDS: each row of YtjpcpiffffobcaaGreatDoorRows.lean that lists a variable, with what it lists TIED to the program's text (the seventh form; the later family's looks); each row that meets fmt, with fmt's text TOLD by the authors' own Lean function (tested against real Go, not proved from fmt's source: count such statements apart). THE CARD IS WHAT COUNTS. Prove the row's statement (the work); the ties are given (YtjpcpiffffobcaaGreatDoorTie.lean); close each card by the builder's one call (the guide's Derived/Test/ToyasCard.lean, 'card_holds'). Laid BY PROGRAM, IN A SANDBOX (cutbox-door.mjs). By AI agents, Wed Nov 11 2026. No macro, syntax, notation, axiom, sorry.
-/
import Derived.Test.YtjpcpiffffobcaaGreatDoorRows
import GoSem.ClaimSeven
namespace Go.Proofs.YtjpcpiffffobcaaGreatDoor
namespace Rows

/-- THE TIED CARD OF 'laws.FnExactRunPlan'. -/
def fnExactRunPlanCard : Claim7 := { stood := { row := fnExactRunPlanRow, standIns := [], harness := (true, "ecd92e1c9892beaf0294b4a5b66bfb7611dbe728ff57db35088aa88e1dc3d117"), looks := false }, kinds := [], alts := [], laidByText := true, laidKinds := [.sentinel], laidTests := true, laidLooks := .later }
def FnExactRunPlanCardSaid : Prop := Claim7.holds Tryz.pinned (.plain (OpenSpec.ofChange fnExactRunPlanSpec)) fnExactRunPlanCard

/-- THE TIED CARD OF 'laws.FnPlanPrice'. -/
def fnPlanPriceCard : Claim7 := { stood := { row := fnPlanPriceRow, standIns := [], harness := (true, "ecd92e1c9892beaf0294b4a5b66bfb7611dbe728ff57db35088aa88e1dc3d117"), looks := false }, kinds := [], alts := [], laidByText := true, laidKinds := [.data, .data, .data, .sentinel], laidTests := true, laidLooks := .later }
def FnPlanPriceCardSaid : Prop := Claim7.holds Tryz.pinned (.plain (OpenSpec.ofChange fnPlanPriceSpec)) fnPlanPriceCard

/-- THE TIED CARD OF 'laws.FnRunPlan'. -/
def fnRunPlanCard : Claim7 := { stood := { row := fnRunPlanRow, standIns := [], harness := (true, "ecd92e1c9892beaf0294b4a5b66bfb7611dbe728ff57db35088aa88e1dc3d117"), looks := false }, kinds := [], alts := [], laidByText := true, laidKinds := [.sentinel], laidTests := true, laidLooks := .later }
def FnRunPlanCardSaid : Prop := Claim7.holds Tryz.pinned (.plain (OpenSpec.ofChange fnRunPlanSpec)) fnRunPlanCard

/-- THE SECOND FORM's CARD OF 'laws.FnExactRunPlan'. -/
def fnExactRunPlanUptoCard : Claim7 := { stood := { row := fnExactRunPlanUptoRow, standIns := [], harness := (true, "ecd92e1c9892beaf0294b4a5b66bfb7611dbe728ff57db35088aa88e1dc3d117"), looks := false }, kinds := [], alts := [], laidByText := true, laidKinds := [.sentinel], laidTests := true, laidLooks := .later }
def FnExactRunPlanUptoCardSaid : Prop := Claim7.holds Tryz.pinned (.plain (OpenSpec.upto fnExactRunPlanSpec)) fnExactRunPlanUptoCard

/-- THE SECOND FORM's CARD OF 'laws.FnPlanPrice'. -/
def fnPlanPriceUptoCard : Claim7 := { stood := { row := fnPlanPriceUptoRow, standIns := [], harness := (true, "ecd92e1c9892beaf0294b4a5b66bfb7611dbe728ff57db35088aa88e1dc3d117"), looks := false }, kinds := [], alts := [], laidByText := true, laidKinds := [.data, .data, .data, .sentinel], laidTests := true, laidLooks := .later }
def FnPlanPriceUptoCardSaid : Prop := Claim7.holds Tryz.pinned (.plain (OpenSpec.upto fnPlanPriceSpec)) fnPlanPriceUptoCard

/-- THE SECOND FORM's CARD OF 'laws.FnRunPlan'. -/
def fnRunPlanUptoCard : Claim7 := { stood := { row := fnRunPlanUptoRow, standIns := [], harness := (true, "ecd92e1c9892beaf0294b4a5b66bfb7611dbe728ff57db35088aa88e1dc3d117"), looks := false }, kinds := [], alts := [], laidByText := true, laidKinds := [.sentinel], laidTests := true, laidLooks := .later }
def FnRunPlanUptoCardSaid : Prop := Claim7.holds Tryz.pinned (.plain (OpenSpec.upto fnRunPlanSpec)) fnRunPlanUptoCard
end Rows
end Go.Proofs.YtjpcpiffffobcaaGreatDoor
