/-
  DERIVED. GIVEN WITH THE SEED: THE CARDS: each row of YthchhgjnelkmhaaDoorRows.lean that lists a variable, with what it lists TIED to the program's text (the seventh form; the later family's looks); each row that meets fmt, with fmt's text TOLD by the authors' own Lean function (tested against real Go, not proved from fmt's source: count such statements apart). THE CARD IS WHAT COUNTS. Prove the row's statement (the work); the ties are given (YthchhgjnelkmhaaDoorTie.lean); close each card by the builder's one call (the guide's Derived/Test/ToyasCard.lean, 'card_holds'). Laid BY PROGRAM, IN A SANDBOX (cutbox-door.mjs). By AI agents, Wed Nov 11 2026. No macro, syntax, notation, axiom, sorry.
-/
import Derived.Test.YthchhgjnelkmhaaDoorRows
import GoSem.ClaimSeven
namespace Go.Proofs.YthchhgjnelkmhaaDoor
namespace Rows

/-- THE TIED CARD OF 'laws.FnExactOrderValid'. -/
def fnExactOrderValidCard : Claim7 := { stood := { row := fnExactOrderValidRow, standIns := [], harness := (true, "96d491ea4ba5aa24964286498c76fb2725b58421c471d096d4b810e36d15bc9c"), looks := false }, kinds := [], alts := [], laidByText := true, laidKinds := [.sentinel], laidTests := true, laidLooks := .later }
def FnExactOrderValidCardSaid : Prop := Claim7.holds Tryd.pinned (.plain (OpenSpec.ofChange fnExactOrderValidSpec)) fnExactOrderValidCard

/-- THE TIED CARD OF 'laws.FnExactTestCost'. -/
def fnExactTestCostCard : Claim7 := { stood := { row := fnExactTestCostRow, standIns := [], harness := (true, "96d491ea4ba5aa24964286498c76fb2725b58421c471d096d4b810e36d15bc9c"), looks := false }, kinds := [], alts := [], laidByText := true, laidKinds := [.sentinel], laidTests := true, laidLooks := .later }
def FnExactTestCostCardSaid : Prop := Claim7.holds Tryd.pinned (.plain (OpenSpec.ofChange fnExactTestCostSpec)) fnExactTestCostCard

/-- THE TIED CARD OF 'laws.FnExactRunChain'. -/
def fnExactRunChainCard : Claim7 := { stood := { row := fnExactRunChainRow, standIns := [], harness := (true, "96d491ea4ba5aa24964286498c76fb2725b58421c471d096d4b810e36d15bc9c"), looks := false }, kinds := [], alts := [], laidByText := true, laidKinds := [.sentinel], laidTests := true, laidLooks := .later }
def FnExactRunChainCardSaid : Prop := Claim7.holds Tryd.pinned (.plain (OpenSpec.ofChange fnExactRunChainSpec)) fnExactRunChainCard

/-- THE TIED CARD OF 'laws.FnExactChainCost'. -/
def fnExactChainCostCard : Claim7 := { stood := { row := fnExactChainCostRow, standIns := [], harness := (true, "96d491ea4ba5aa24964286498c76fb2725b58421c471d096d4b810e36d15bc9c"), looks := false }, kinds := [], alts := [], laidByText := true, laidKinds := [.sentinel], laidTests := true, laidLooks := .later }
def FnExactChainCostCardSaid : Prop := Claim7.holds Tryd.pinned (.plain (OpenSpec.ofChange fnExactChainCostSpec)) fnExactChainCostCard

/-- THE TIED CARD OF 'laws.FnExactBestChain'. -/
def fnExactBestChainCard : Claim7 := { stood := { row := fnExactBestChainRow, standIns := [], harness := (true, "96d491ea4ba5aa24964286498c76fb2725b58421c471d096d4b810e36d15bc9c"), looks := false }, kinds := [], alts := [], laidByText := true, laidKinds := [.sentinel], laidTests := true, laidLooks := .later }
def FnExactBestChainCardSaid : Prop := Claim7.holds Tryd.pinned (.plain (OpenSpec.ofChange fnExactBestChainSpec)) fnExactBestChainCard

/-- THE TIED CARD OF 'laws.FnExactWorstChain'. -/
def fnExactWorstChainCard : Claim7 := { stood := { row := fnExactWorstChainRow, standIns := [], harness := (true, "96d491ea4ba5aa24964286498c76fb2725b58421c471d096d4b810e36d15bc9c"), looks := false }, kinds := [], alts := [], laidByText := true, laidKinds := [.sentinel], laidTests := true, laidLooks := .later }
def FnExactWorstChainCardSaid : Prop := Claim7.holds Tryd.pinned (.plain (OpenSpec.ofChange fnExactWorstChainSpec)) fnExactWorstChainCard

/-- THE TIED CARD OF 'laws.FnExactSwapGain'. -/
def fnExactSwapGainCard : Claim7 := { stood := { row := fnExactSwapGainRow, standIns := [], harness := (true, "96d491ea4ba5aa24964286498c76fb2725b58421c471d096d4b810e36d15bc9c"), looks := false }, kinds := [], alts := [], laidByText := true, laidKinds := [.sentinel], laidTests := true, laidLooks := .later }
def FnExactSwapGainCardSaid : Prop := Claim7.holds Tryd.pinned (.plain (OpenSpec.ofChange fnExactSwapGainSpec)) fnExactSwapGainCard

/-- THE TIED CARD OF 'laws.FnExactReachCosts'. -/
def fnExactReachCostsCard : Claim7 := { stood := { row := fnExactReachCostsRow, standIns := [], harness := (true, "96d491ea4ba5aa24964286498c76fb2725b58421c471d096d4b810e36d15bc9c"), looks := false }, kinds := [], alts := [], laidByText := true, laidKinds := [.sentinel], laidTests := true, laidLooks := .later }
def FnExactReachCostsCardSaid : Prop := Claim7.holds Tryd.pinned (.plain (OpenSpec.ofChange fnExactReachCostsSpec)) fnExactReachCostsCard

/-- THE SECOND FORM's CARD OF 'laws.FnExactOrderValid'. -/
def fnExactOrderValidUptoCard : Claim7 := { stood := { row := fnExactOrderValidUptoRow, standIns := [], harness := (true, "96d491ea4ba5aa24964286498c76fb2725b58421c471d096d4b810e36d15bc9c"), looks := false }, kinds := [], alts := [], laidByText := true, laidKinds := [.sentinel], laidTests := true, laidLooks := .later }
def FnExactOrderValidUptoCardSaid : Prop := Claim7.holds Tryd.pinned (.plain (OpenSpec.upto fnExactOrderValidSpec)) fnExactOrderValidUptoCard

/-- THE SECOND FORM's CARD OF 'laws.FnExactTestCost'. -/
def fnExactTestCostUptoCard : Claim7 := { stood := { row := fnExactTestCostUptoRow, standIns := [], harness := (true, "96d491ea4ba5aa24964286498c76fb2725b58421c471d096d4b810e36d15bc9c"), looks := false }, kinds := [], alts := [], laidByText := true, laidKinds := [.sentinel], laidTests := true, laidLooks := .later }
def FnExactTestCostUptoCardSaid : Prop := Claim7.holds Tryd.pinned (.plain (OpenSpec.upto fnExactTestCostSpec)) fnExactTestCostUptoCard

/-- THE SECOND FORM's CARD OF 'laws.FnExactRunChain'. -/
def fnExactRunChainUptoCard : Claim7 := { stood := { row := fnExactRunChainUptoRow, standIns := [], harness := (true, "96d491ea4ba5aa24964286498c76fb2725b58421c471d096d4b810e36d15bc9c"), looks := false }, kinds := [], alts := [], laidByText := true, laidKinds := [.sentinel], laidTests := true, laidLooks := .later }
def FnExactRunChainUptoCardSaid : Prop := Claim7.holds Tryd.pinned (.plain (OpenSpec.upto fnExactRunChainSpec)) fnExactRunChainUptoCard

/-- THE SECOND FORM's CARD OF 'laws.FnExactChainCost'. -/
def fnExactChainCostUptoCard : Claim7 := { stood := { row := fnExactChainCostUptoRow, standIns := [], harness := (true, "96d491ea4ba5aa24964286498c76fb2725b58421c471d096d4b810e36d15bc9c"), looks := false }, kinds := [], alts := [], laidByText := true, laidKinds := [.sentinel], laidTests := true, laidLooks := .later }
def FnExactChainCostUptoCardSaid : Prop := Claim7.holds Tryd.pinned (.plain (OpenSpec.upto fnExactChainCostSpec)) fnExactChainCostUptoCard

/-- THE SECOND FORM's CARD OF 'laws.FnExactBestChain'. -/
def fnExactBestChainUptoCard : Claim7 := { stood := { row := fnExactBestChainUptoRow, standIns := [], harness := (true, "96d491ea4ba5aa24964286498c76fb2725b58421c471d096d4b810e36d15bc9c"), looks := false }, kinds := [], alts := [], laidByText := true, laidKinds := [.sentinel], laidTests := true, laidLooks := .later }
def FnExactBestChainUptoCardSaid : Prop := Claim7.holds Tryd.pinned (.plain (OpenSpec.upto fnExactBestChainSpec)) fnExactBestChainUptoCard

/-- THE SECOND FORM's CARD OF 'laws.FnExactWorstChain'. -/
def fnExactWorstChainUptoCard : Claim7 := { stood := { row := fnExactWorstChainUptoRow, standIns := [], harness := (true, "96d491ea4ba5aa24964286498c76fb2725b58421c471d096d4b810e36d15bc9c"), looks := false }, kinds := [], alts := [], laidByText := true, laidKinds := [.sentinel], laidTests := true, laidLooks := .later }
def FnExactWorstChainUptoCardSaid : Prop := Claim7.holds Tryd.pinned (.plain (OpenSpec.upto fnExactWorstChainSpec)) fnExactWorstChainUptoCard

/-- THE SECOND FORM's CARD OF 'laws.FnExactSwapGain'. -/
def fnExactSwapGainUptoCard : Claim7 := { stood := { row := fnExactSwapGainUptoRow, standIns := [], harness := (true, "96d491ea4ba5aa24964286498c76fb2725b58421c471d096d4b810e36d15bc9c"), looks := false }, kinds := [], alts := [], laidByText := true, laidKinds := [.sentinel], laidTests := true, laidLooks := .later }
def FnExactSwapGainUptoCardSaid : Prop := Claim7.holds Tryd.pinned (.plain (OpenSpec.upto fnExactSwapGainSpec)) fnExactSwapGainUptoCard

/-- THE SECOND FORM's CARD OF 'laws.FnExactReachCosts'. -/
def fnExactReachCostsUptoCard : Claim7 := { stood := { row := fnExactReachCostsUptoRow, standIns := [], harness := (true, "96d491ea4ba5aa24964286498c76fb2725b58421c471d096d4b810e36d15bc9c"), looks := false }, kinds := [], alts := [], laidByText := true, laidKinds := [.sentinel], laidTests := true, laidLooks := .later }
def FnExactReachCostsUptoCardSaid : Prop := Claim7.holds Tryd.pinned (.plain (OpenSpec.upto fnExactReachCostsSpec)) fnExactReachCostsUptoCard
end Rows
end Go.Proofs.YthchhgjnelkmhaaDoor
