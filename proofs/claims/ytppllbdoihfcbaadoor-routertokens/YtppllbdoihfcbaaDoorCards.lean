/-
  DERIVED. GIVEN WITH THE SEED: THE CARDS: each row of YtppllbdoihfcbaaDoorRows.lean that lists a variable, with what it lists TIED to the program's text (the seventh form; the later family's looks); each row that meets fmt, with fmt's text TOLD by the authors' own Lean function (tested against real Go, not proved from fmt's source: count such statements apart). THE CARD IS WHAT COUNTS. Prove the row's statement (the work); the ties are given (YtppllbdoihfcbaaDoorTie.lean); close each card by the builder's one call (the guide's Derived/Test/ToyasCard.lean, 'card_holds'). Laid BY PROGRAM, IN A SANDBOX (cutbox-door.mjs). By AI agents, Wed Nov 11 2026. No macro, syntax, notation, axiom, sorry.
-/
import Derived.Test.YtppllbdoihfcbaaDoorRows
import GoSem.ClaimSeven
namespace Go.Proofs.YtppllbdoihfcbaaDoor
namespace Rows

/-- THE TIED CARD OF 'pannierlaw23.RouterRoutes'. -/
def routerRoutesCard : Claim7 := { stood := { row := routerRoutesRow, standIns := [], harness := (true, "1a711bc9255593e938aed44fd6ef023d6d02c879bbc987fc403c4106af68c42c"), looks := false }, kinds := [], alts := [], laidByText := true, laidKinds := [.data, .data, .data], laidTests := true, laidLooks := .later }
def RouterRoutesCardSaid : Prop := Claim7.holds Tryd.pinned (.plain (OpenSpec.ofChange routerRoutesSpec)) routerRoutesCard

/-- THE TIED CARD OF 'pannierlaw23.RouterSessions'. -/
def routerSessionsCard : Claim7 := { stood := { row := routerSessionsRow, standIns := [], harness := (true, "1a711bc9255593e938aed44fd6ef023d6d02c879bbc987fc403c4106af68c42c"), looks := false }, kinds := [], alts := [], laidByText := true, laidKinds := [.data, .data, .data], laidTests := true, laidLooks := .later }
def RouterSessionsCardSaid : Prop := Claim7.holds Tryd.pinned (.plain (OpenSpec.ofChange routerSessionsSpec)) routerSessionsCard

/-- THE TIED CARD OF 'pannierlaw23.RouterTokens'. -/
def routerTokensCard : Claim7 := { stood := { row := routerTokensRow, standIns := [], harness := (true, "1a711bc9255593e938aed44fd6ef023d6d02c879bbc987fc403c4106af68c42c"), looks := false }, kinds := [], alts := [], laidByText := true, laidKinds := [.data, .data, .data], laidTests := true, laidLooks := .later }
def RouterTokensCardSaid : Prop := Claim7.holds Tryd.pinned (.plain (OpenSpec.ofChange routerTokensSpec)) routerTokensCard

/-- THE TIED CARD OF 'pannierlaw23.RouterRound'. -/
def routerRoundCard : Claim7 := { stood := { row := routerRoundRow, standIns := [], harness := (true, "1a711bc9255593e938aed44fd6ef023d6d02c879bbc987fc403c4106af68c42c"), looks := false }, kinds := [], alts := [], laidByText := true, laidKinds := [.data, .data, .data], laidTests := true, laidLooks := .later }
def RouterRoundCardSaid : Prop := Claim7.holds Tryd.pinned (.plain (OpenSpec.ofChange routerRoundSpec)) routerRoundCard

/-- THE TIED CARD OF 'pannierlaw23.RouterNobody'. -/
def routerNobodyCard : Claim7 := { stood := { row := routerNobodyRow, standIns := [], harness := (true, "1a711bc9255593e938aed44fd6ef023d6d02c879bbc987fc403c4106af68c42c"), looks := false }, kinds := [], alts := [], laidByText := true, laidKinds := [.data, .data, .data], laidTests := true, laidLooks := .later }
def RouterNobodyCardSaid : Prop := Claim7.holds Tryd.pinned (.plain (OpenSpec.ofChange routerNobodySpec)) routerNobodyCard

/-- THE TIED CARD OF 'pannierlaw23.RouterFiner'. -/
def routerFinerCard : Claim7 := { stood := { row := routerFinerRow, standIns := [], harness := (true, "1a711bc9255593e938aed44fd6ef023d6d02c879bbc987fc403c4106af68c42c"), looks := false }, kinds := [], alts := [], laidByText := true, laidKinds := [.data, .data, .data], laidTests := true, laidLooks := .later }
def RouterFinerCardSaid : Prop := Claim7.holds Tryd.pinned (.plain (OpenSpec.ofChange routerFinerSpec)) routerFinerCard

/-- THE SECOND FORM's CARD OF 'pannierlaw23.RouterRoutes'. -/
def routerRoutesUptoCard : Claim7 := { stood := { row := routerRoutesUptoRow, standIns := [], harness := (true, "1a711bc9255593e938aed44fd6ef023d6d02c879bbc987fc403c4106af68c42c"), looks := false }, kinds := [], alts := [], laidByText := true, laidKinds := [.data, .data, .data], laidTests := true, laidLooks := .later }
def RouterRoutesUptoCardSaid : Prop := Claim7.holds Tryd.pinned (.plain (OpenSpec.upto routerRoutesSpec)) routerRoutesUptoCard

/-- THE SECOND FORM's CARD OF 'pannierlaw23.RouterSessions'. -/
def routerSessionsUptoCard : Claim7 := { stood := { row := routerSessionsUptoRow, standIns := [], harness := (true, "1a711bc9255593e938aed44fd6ef023d6d02c879bbc987fc403c4106af68c42c"), looks := false }, kinds := [], alts := [], laidByText := true, laidKinds := [.data, .data, .data], laidTests := true, laidLooks := .later }
def RouterSessionsUptoCardSaid : Prop := Claim7.holds Tryd.pinned (.plain (OpenSpec.upto routerSessionsSpec)) routerSessionsUptoCard

/-- THE SECOND FORM's CARD OF 'pannierlaw23.RouterTokens'. -/
def routerTokensUptoCard : Claim7 := { stood := { row := routerTokensUptoRow, standIns := [], harness := (true, "1a711bc9255593e938aed44fd6ef023d6d02c879bbc987fc403c4106af68c42c"), looks := false }, kinds := [], alts := [], laidByText := true, laidKinds := [.data, .data, .data], laidTests := true, laidLooks := .later }
def RouterTokensUptoCardSaid : Prop := Claim7.holds Tryd.pinned (.plain (OpenSpec.upto routerTokensSpec)) routerTokensUptoCard

/-- THE SECOND FORM's CARD OF 'pannierlaw23.RouterRound'. -/
def routerRoundUptoCard : Claim7 := { stood := { row := routerRoundUptoRow, standIns := [], harness := (true, "1a711bc9255593e938aed44fd6ef023d6d02c879bbc987fc403c4106af68c42c"), looks := false }, kinds := [], alts := [], laidByText := true, laidKinds := [.data, .data, .data], laidTests := true, laidLooks := .later }
def RouterRoundUptoCardSaid : Prop := Claim7.holds Tryd.pinned (.plain (OpenSpec.upto routerRoundSpec)) routerRoundUptoCard

/-- THE SECOND FORM's CARD OF 'pannierlaw23.RouterNobody'. -/
def routerNobodyUptoCard : Claim7 := { stood := { row := routerNobodyUptoRow, standIns := [], harness := (true, "1a711bc9255593e938aed44fd6ef023d6d02c879bbc987fc403c4106af68c42c"), looks := false }, kinds := [], alts := [], laidByText := true, laidKinds := [.data, .data, .data], laidTests := true, laidLooks := .later }
def RouterNobodyUptoCardSaid : Prop := Claim7.holds Tryd.pinned (.plain (OpenSpec.upto routerNobodySpec)) routerNobodyUptoCard

/-- THE SECOND FORM's CARD OF 'pannierlaw23.RouterFiner'. -/
def routerFinerUptoCard : Claim7 := { stood := { row := routerFinerUptoRow, standIns := [], harness := (true, "1a711bc9255593e938aed44fd6ef023d6d02c879bbc987fc403c4106af68c42c"), looks := false }, kinds := [], alts := [], laidByText := true, laidKinds := [.data, .data, .data], laidTests := true, laidLooks := .later }
def RouterFinerUptoCardSaid : Prop := Claim7.holds Tryd.pinned (.plain (OpenSpec.upto routerFinerSpec)) routerFinerUptoCard
end Rows
end Go.Proofs.YtppllbdoihfcbaaDoor
