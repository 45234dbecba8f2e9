/-
  DERIVED. GIVEN WITH THE SEED: THE CARDS: each row of YtbhamkmiagdimaaGreatDoorRows.lean that lists a variable, with what it lists TIED to the program's text (the seventh form; the later family's looks); each row that meets fmt, with fmt's text TOLD by the authors' own Lean function (tested against real Go, not proved from fmt's source: count such statements apart). THE CARD IS WHAT COUNTS. Prove the row's statement (the work); the ties are given (YtbhamkmiagdimaaGreatDoorTie.lean); close each card by the builder's one call (the guide's Derived/Test/ToyasCard.lean, 'card_holds'). Laid BY PROGRAM, IN A SANDBOX (cutbox-door.mjs). By AI agents, Wed Nov 11 2026. No macro, syntax, notation, axiom, sorry.
-/
import Derived.Test.YtbhamkmiagdimaaGreatDoorRows
import GoSem.ClaimSeven
namespace Go.Proofs.YtbhamkmiagdimaaGreatDoor
namespace Rows

/-- THE TIED CARD OF 'laws.FnMasks'. -/
def fnMasksCard : Claim7 := { stood := { row := fnMasksRow, standIns := [], harness := (true, "ab39c3b09e4779a1b4e07f82117ac0aaa1334b776a26497d9ae8c6f4af25dcba"), looks := false }, kinds := [], alts := [], laidByText := true, laidKinds := [.sentinel], laidTests := true, laidLooks := .later }
def FnMasksCardSaid : Prop := Claim7.holds Tryz.pinned (.plain (OpenSpec.ofChange fnMasksSpec)) fnMasksCard

/-- THE TIED CARD OF 'laws.FnBestMasks'. -/
def fnBestMasksCard : Claim7 := { stood := { row := fnBestMasksRow, standIns := [], harness := (true, "ab39c3b09e4779a1b4e07f82117ac0aaa1334b776a26497d9ae8c6f4af25dcba"), looks := false }, kinds := [], alts := [], laidByText := true, laidKinds := [.sentinel], laidTests := true, laidLooks := .later }
def FnBestMasksCardSaid : Prop := Claim7.holds Tryz.pinned (.plain (OpenSpec.ofChange fnBestMasksSpec)) fnBestMasksCard

/-- THE TIED CARD OF 'laws.FnSwitchFrom'. -/
def fnSwitchFromCard : Claim7 := { stood := { row := fnSwitchFromRow, standIns := [], harness := (true, "ab39c3b09e4779a1b4e07f82117ac0aaa1334b776a26497d9ae8c6f4af25dcba"), looks := false }, kinds := [], alts := [], laidByText := true, laidKinds := [.data, .sentinel], laidTests := true, laidLooks := .later }
def FnSwitchFromCardSaid : Prop := Claim7.holds Tryz.pinned (.plain (OpenSpec.ofChange fnSwitchFromSpec)) fnSwitchFromCard

/-- THE SECOND FORM's CARD OF 'laws.FnMasks'. -/
def fnMasksUptoCard : Claim7 := { stood := { row := fnMasksUptoRow, standIns := [], harness := (true, "ab39c3b09e4779a1b4e07f82117ac0aaa1334b776a26497d9ae8c6f4af25dcba"), looks := false }, kinds := [], alts := [], laidByText := true, laidKinds := [.sentinel], laidTests := true, laidLooks := .later }
def FnMasksUptoCardSaid : Prop := Claim7.holds Tryz.pinned (.plain (OpenSpec.upto fnMasksSpec)) fnMasksUptoCard

/-- THE SECOND FORM's CARD OF 'laws.FnBestMasks'. -/
def fnBestMasksUptoCard : Claim7 := { stood := { row := fnBestMasksUptoRow, standIns := [], harness := (true, "ab39c3b09e4779a1b4e07f82117ac0aaa1334b776a26497d9ae8c6f4af25dcba"), looks := false }, kinds := [], alts := [], laidByText := true, laidKinds := [.sentinel], laidTests := true, laidLooks := .later }
def FnBestMasksUptoCardSaid : Prop := Claim7.holds Tryz.pinned (.plain (OpenSpec.upto fnBestMasksSpec)) fnBestMasksUptoCard

/-- THE SECOND FORM's CARD OF 'laws.FnSwitchFrom'. -/
def fnSwitchFromUptoCard : Claim7 := { stood := { row := fnSwitchFromUptoRow, standIns := [], harness := (true, "ab39c3b09e4779a1b4e07f82117ac0aaa1334b776a26497d9ae8c6f4af25dcba"), looks := false }, kinds := [], alts := [], laidByText := true, laidKinds := [.data, .sentinel], laidTests := true, laidLooks := .later }
def FnSwitchFromUptoCardSaid : Prop := Claim7.holds Tryz.pinned (.plain (OpenSpec.upto fnSwitchFromSpec)) fnSwitchFromUptoCard
end Rows
end Go.Proofs.YtbhamkmiagdimaaGreatDoor
