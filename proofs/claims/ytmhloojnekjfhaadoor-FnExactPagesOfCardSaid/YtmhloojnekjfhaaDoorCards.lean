/-
  DERIVED. GIVEN WITH THE SEED: THE CARDS: each row of YtmhloojnekjfhaaDoorRows.lean that lists a variable, with what it lists TIED to the program's text (the seventh form; the later family's looks); each row that meets fmt, with fmt's text TOLD by the authors' own Lean function (tested against real Go, not proved from fmt's source: count such statements apart). THE CARD IS WHAT COUNTS. Prove the row's statement (the work); the ties are given (YtmhloojnekjfhaaDoorTie.lean); close each card by the builder's one call (the guide's Derived/Test/ToyasCard.lean, 'card_holds'). Laid BY PROGRAM, IN A SANDBOX (cutbox-door.mjs). By AI agents, Wed Nov 11 2026. No macro, syntax, notation, axiom, sorry.
-/
import Derived.Test.YtmhloojnekjfhaaDoorRows
import GoSem.ClaimSeven
namespace Go.Proofs.YtmhloojnekjfhaaDoor
namespace Rows

/-- THE TIED CARD OF 'laws.FnPages'. -/
def fnPagesCard : Claim7 := { stood := { row := fnPagesRow, standIns := [], harness := (true, "79cbf69444b547d5cffc98b0373ade8ba4a0b8ef5977a110e6c313887c142cfc"), looks := false }, kinds := [], alts := [], laidByText := true, laidKinds := [.sentinel], laidTests := true, laidLooks := .later }
def FnPagesCardSaid : Prop := Claim7.holds Tryd.pinned (.plain (OpenSpec.ofChange fnPagesSpec)) fnPagesCard

/-- THE TIED CARD OF 'laws.FnExactPagesOf'. -/
def fnExactPagesOfCard : Claim7 := { stood := { row := fnExactPagesOfRow, standIns := [], harness := (true, "79cbf69444b547d5cffc98b0373ade8ba4a0b8ef5977a110e6c313887c142cfc"), looks := false }, kinds := [], alts := [], laidByText := true, laidKinds := [.sentinel], laidTests := true, laidLooks := .later }
def FnExactPagesOfCardSaid : Prop := Claim7.holds Tryd.pinned (.plain (OpenSpec.ofChange fnExactPagesOfSpec)) fnExactPagesOfCard

/-- THE TIED CARD OF 'laws.FnExactPagedSize'. -/
def fnExactPagedSizeCard : Claim7 := { stood := { row := fnExactPagedSizeRow, standIns := [], harness := (true, "79cbf69444b547d5cffc98b0373ade8ba4a0b8ef5977a110e6c313887c142cfc"), looks := false }, kinds := [], alts := [], laidByText := true, laidKinds := [.sentinel], laidTests := true, laidLooks := .later }
def FnExactPagedSizeCardSaid : Prop := Claim7.holds Tryd.pinned (.plain (OpenSpec.ofChange fnExactPagedSizeSpec)) fnExactPagedSizeCard

/-- THE TIED CARD OF 'laws.FnExactBestPage'. -/
def fnExactBestPageCard : Claim7 := { stood := { row := fnExactBestPageRow, standIns := [], harness := (true, "79cbf69444b547d5cffc98b0373ade8ba4a0b8ef5977a110e6c313887c142cfc"), looks := false }, kinds := [], alts := [], laidByText := true, laidKinds := [.sentinel], laidTests := true, laidLooks := .later }
def FnExactBestPageCardSaid : Prop := Claim7.holds Tryd.pinned (.plain (OpenSpec.ofChange fnExactBestPageSpec)) fnExactBestPageCard

/-- THE SECOND FORM's CARD OF 'laws.FnPages'. -/
def fnPagesUptoCard : Claim7 := { stood := { row := fnPagesUptoRow, standIns := [], harness := (true, "79cbf69444b547d5cffc98b0373ade8ba4a0b8ef5977a110e6c313887c142cfc"), looks := false }, kinds := [], alts := [], laidByText := true, laidKinds := [.sentinel], laidTests := true, laidLooks := .later }
def FnPagesUptoCardSaid : Prop := Claim7.holds Tryd.pinned (.plain (OpenSpec.upto fnPagesSpec)) fnPagesUptoCard

/-- THE SECOND FORM's CARD OF 'laws.FnExactPagesOf'. -/
def fnExactPagesOfUptoCard : Claim7 := { stood := { row := fnExactPagesOfUptoRow, standIns := [], harness := (true, "79cbf69444b547d5cffc98b0373ade8ba4a0b8ef5977a110e6c313887c142cfc"), looks := false }, kinds := [], alts := [], laidByText := true, laidKinds := [.sentinel], laidTests := true, laidLooks := .later }
def FnExactPagesOfUptoCardSaid : Prop := Claim7.holds Tryd.pinned (.plain (OpenSpec.upto fnExactPagesOfSpec)) fnExactPagesOfUptoCard

/-- THE SECOND FORM's CARD OF 'laws.FnExactPagedSize'. -/
def fnExactPagedSizeUptoCard : Claim7 := { stood := { row := fnExactPagedSizeUptoRow, standIns := [], harness := (true, "79cbf69444b547d5cffc98b0373ade8ba4a0b8ef5977a110e6c313887c142cfc"), looks := false }, kinds := [], alts := [], laidByText := true, laidKinds := [.sentinel], laidTests := true, laidLooks := .later }
def FnExactPagedSizeUptoCardSaid : Prop := Claim7.holds Tryd.pinned (.plain (OpenSpec.upto fnExactPagedSizeSpec)) fnExactPagedSizeUptoCard

/-- THE SECOND FORM's CARD OF 'laws.FnExactBestPage'. -/
def fnExactBestPageUptoCard : Claim7 := { stood := { row := fnExactBestPageUptoRow, standIns := [], harness := (true, "79cbf69444b547d5cffc98b0373ade8ba4a0b8ef5977a110e6c313887c142cfc"), looks := false }, kinds := [], alts := [], laidByText := true, laidKinds := [.sentinel], laidTests := true, laidLooks := .later }
def FnExactBestPageUptoCardSaid : Prop := Claim7.holds Tryd.pinned (.plain (OpenSpec.upto fnExactBestPageSpec)) fnExactBestPageUptoCard
end Rows
end Go.Proofs.YtmhloojnekjfhaaDoor
