/-
  DERIVED. GIVEN WITH THE SEED: THE CARDS: each row of YtjmfcnblkojejaaDoorRows.lean that lists a variable, with what it lists TIED to the program's text (the seventh form; the later family's looks); each row that meets fmt, with fmt's text TOLD by the authors' own Lean function (tested against real Go, not proved from fmt's source: count such statements apart). THE CARD IS WHAT COUNTS. Prove the row's statement (the work); the ties are given (YtjmfcnblkojejaaDoorTie.lean); close each card by the builder's one call (the guide's Derived/Test/ToyasCard.lean, 'card_holds'). Laid BY PROGRAM, IN A SANDBOX (cutbox-door.mjs). By AI agents, Wed Nov 11 2026. No macro, syntax, notation, axiom, sorry.
-/
import Derived.Test.YtjmfcnblkojejaaDoorRows
import GoSem.ClaimSeven
namespace Go.Proofs.YtjmfcnblkojejaaDoor
namespace Rows

/-- THE TIED CARD OF 'laws.FnSegments'. -/
def fnSegmentsCard : Claim7 := { stood := { row := fnSegmentsRow, standIns := [], harness := (true, "fb49f50765adc773d160876cf457481bd279569f0c7238b391a33a803534af9d"), looks := false }, kinds := [], alts := [], laidByText := true, laidKinds := [.data, .data, .data, .sentinel], laidTests := true, laidLooks := .later }
def FnSegmentsCardSaid : Prop := Claim7.holds Tryd.pinned (.plain (OpenSpec.ofChange fnSegmentsSpec)) fnSegmentsCard

/-- THE TIED CARD OF 'laws.FnMerge'. -/
def fnMergeCard : Claim7 := { stood := { row := fnMergeRow, standIns := [], harness := (true, "fb49f50765adc773d160876cf457481bd279569f0c7238b391a33a803534af9d"), looks := false }, kinds := [], alts := [], laidByText := true, laidKinds := [.sentinel], laidTests := true, laidLooks := .later }
def FnMergeCardSaid : Prop := Claim7.holds Tryd.pinned (.plain (OpenSpec.ofChange fnMergeSpec)) fnMergeCard

/-- THE TIED CARD OF 'laws.FnRunChain'. -/
def fnRunChainCard : Claim7 := { stood := { row := fnRunChainRow, standIns := [], harness := (true, "fb49f50765adc773d160876cf457481bd279569f0c7238b391a33a803534af9d"), looks := false }, kinds := [], alts := [], laidByText := true, laidKinds := [.sentinel], laidTests := true, laidLooks := .later }
def FnRunChainCardSaid : Prop := Claim7.holds Tryd.pinned (.plain (OpenSpec.ofChange fnRunChainSpec)) fnRunChainCard

/-- THE TIED CARD OF 'laws.FnBestChain'. -/
def fnBestChainCard : Claim7 := { stood := { row := fnBestChainRow, standIns := [], harness := (true, "fb49f50765adc773d160876cf457481bd279569f0c7238b391a33a803534af9d"), looks := false }, kinds := [], alts := [], laidByText := true, laidKinds := [.sentinel], laidTests := true, laidLooks := .later }
def FnBestChainCardSaid : Prop := Claim7.holds Tryd.pinned (.plain (OpenSpec.ofChange fnBestChainSpec)) fnBestChainCard

/-- THE SECOND FORM's CARD OF 'laws.FnSegments'. -/
def fnSegmentsUptoCard : Claim7 := { stood := { row := fnSegmentsUptoRow, standIns := [], harness := (true, "fb49f50765adc773d160876cf457481bd279569f0c7238b391a33a803534af9d"), looks := false }, kinds := [], alts := [], laidByText := true, laidKinds := [.data, .data, .data, .sentinel], laidTests := true, laidLooks := .later }
def FnSegmentsUptoCardSaid : Prop := Claim7.holds Tryd.pinned (.plain (OpenSpec.upto fnSegmentsSpec)) fnSegmentsUptoCard

/-- THE SECOND FORM's CARD OF 'laws.FnMerge'. -/
def fnMergeUptoCard : Claim7 := { stood := { row := fnMergeUptoRow, standIns := [], harness := (true, "fb49f50765adc773d160876cf457481bd279569f0c7238b391a33a803534af9d"), looks := false }, kinds := [], alts := [], laidByText := true, laidKinds := [.sentinel], laidTests := true, laidLooks := .later }
def FnMergeUptoCardSaid : Prop := Claim7.holds Tryd.pinned (.plain (OpenSpec.upto fnMergeSpec)) fnMergeUptoCard

/-- THE SECOND FORM's CARD OF 'laws.FnRunChain'. -/
def fnRunChainUptoCard : Claim7 := { stood := { row := fnRunChainUptoRow, standIns := [], harness := (true, "fb49f50765adc773d160876cf457481bd279569f0c7238b391a33a803534af9d"), looks := false }, kinds := [], alts := [], laidByText := true, laidKinds := [.sentinel], laidTests := true, laidLooks := .later }
def FnRunChainUptoCardSaid : Prop := Claim7.holds Tryd.pinned (.plain (OpenSpec.upto fnRunChainSpec)) fnRunChainUptoCard

/-- THE SECOND FORM's CARD OF 'laws.FnBestChain'. -/
def fnBestChainUptoCard : Claim7 := { stood := { row := fnBestChainUptoRow, standIns := [], harness := (true, "fb49f50765adc773d160876cf457481bd279569f0c7238b391a33a803534af9d"), looks := false }, kinds := [], alts := [], laidByText := true, laidKinds := [.sentinel], laidTests := true, laidLooks := .later }
def FnBestChainUptoCardSaid : Prop := Claim7.holds Tryd.pinned (.plain (OpenSpec.upto fnBestChainSpec)) fnBestChainUptoCard
end Rows
end Go.Proofs.YtjmfcnblkojejaaDoor
