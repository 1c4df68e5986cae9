/-
  DERIVED. GIVEN WITH THE SEED: THE CARDS: each row of YtchcjinaagncjaaDoorRows.lean that lists a variable, with what it lists TIED to the program's text (the seventh form; the later family's looks); each row that meets fmt, with fmt's text TOLD by the authors' own Lean function (tested against real Go, not proved from fmt's source: count such statements apart). THE CARD IS WHAT COUNTS. Prove the row's statement (the work); the ties are given (YtchcjinaagncjaaDoorTie.lean); close each card by the builder's one call (the guide's Derived/Test/ToyasCard.lean, 'card_holds'). Laid BY PROGRAM, IN A SANDBOX (cutbox-door.mjs). By AI agents, Wed Nov 11 2026. No macro, syntax, notation, axiom, sorry.
-/
import Derived.Test.YtchcjinaagncjaaDoorRows
import GoSem.ClaimSeven
namespace Go.Proofs.YtchcjinaagncjaaDoor
namespace Rows

/-- THE TIED CARD OF 'burinlaw13.SemLongest'. -/
def semLongestCard : Claim7 := { stood := { row := semLongestRow, standIns := [], harness := (true, "d8994d86e15dbc45c9a890a882fb5b248a348a152fa5fe7c23ea8e5871299ad6"), looks := false }, kinds := [], alts := [], laidByText := true, laidKinds := [.data, .widerDeep], laidTests := true, laidLooks := .later }
def SemLongestCardSaid : Prop := Claim7.holds Tryd.pinned (.plain (OpenSpec.ofChange semLongestSpec)) semLongestCard

/-- THE TIED CARD OF 'burinlaw13.SemParts'. -/
def semPartsCard : Claim7 := { stood := { row := semPartsRow, standIns := [], harness := (true, "d8994d86e15dbc45c9a890a882fb5b248a348a152fa5fe7c23ea8e5871299ad6"), looks := false }, kinds := [], alts := [], laidByText := true, laidKinds := [.data, .widerDeep], laidTests := true, laidLooks := .later }
def SemPartsCardSaid : Prop := Claim7.holds Tryd.pinned (.plain (OpenSpec.ofChange semPartsSpec)) semPartsCard

/-- THE TIED CARD OF 'burinlaw16.VerifyChecks'. -/
def verifyChecksCard : Claim7 := { stood := { row := verifyChecksRow, standIns := [], harness := (true, "d8994d86e15dbc45c9a890a882fb5b248a348a152fa5fe7c23ea8e5871299ad6"), looks := false }, kinds := [], alts := [], laidByText := true, laidKinds := [.data, .wider], laidTests := true, laidLooks := .later }
def VerifyChecksCardSaid : Prop := Claim7.holds Tryd.pinned (.plain (OpenSpec.ofChange verifyChecksSpec)) verifyChecksCard

/-- THE TIED CARD OF 'burinlaw16.VerifyOrders'. -/
def verifyOrdersCard : Claim7 := { stood := { row := verifyOrdersRow, standIns := [], harness := (true, "d8994d86e15dbc45c9a890a882fb5b248a348a152fa5fe7c23ea8e5871299ad6"), looks := false }, kinds := [], alts := [], laidByText := true, laidKinds := [.data, .wider], laidTests := true, laidLooks := .later }
def VerifyOrdersCardSaid : Prop := Claim7.holds Tryd.pinned (.plain (OpenSpec.ofChange verifyOrdersSpec)) verifyOrdersCard

/-- THE TIED CARD OF 'burinlaw16.VerifyLoops'. -/
def verifyLoopsCard : Claim7 := { stood := { row := verifyLoopsRow, standIns := [], harness := (true, "d8994d86e15dbc45c9a890a882fb5b248a348a152fa5fe7c23ea8e5871299ad6"), looks := false }, kinds := [], alts := [], laidByText := true, laidKinds := [.data, .wider], laidTests := true, laidLooks := .later }
def VerifyLoopsCardSaid : Prop := Claim7.holds Tryd.pinned (.plain (OpenSpec.ofChange verifyLoopsSpec)) verifyLoopsCard

/-- THE TIED CARD OF 'burinlaw16.VerifyBytes'. -/
def verifyBytesCard : Claim7 := { stood := { row := verifyBytesRow, standIns := [], harness := (true, "d8994d86e15dbc45c9a890a882fb5b248a348a152fa5fe7c23ea8e5871299ad6"), looks := false }, kinds := [], alts := [], laidByText := true, laidKinds := [.data, .wider], laidTests := true, laidLooks := .later }
def VerifyBytesCardSaid : Prop := Claim7.holds Tryd.pinned (.plain (OpenSpec.ofChange verifyBytesSpec)) verifyBytesCard

/-- THE SECOND FORM's CARD OF 'burinlaw13.SemLongest'. -/
def semLongestUptoCard : Claim7 := { stood := { row := semLongestUptoRow, standIns := [], harness := (true, "d8994d86e15dbc45c9a890a882fb5b248a348a152fa5fe7c23ea8e5871299ad6"), looks := false }, kinds := [], alts := [], laidByText := true, laidKinds := [.data, .widerDeep], laidTests := true, laidLooks := .later }
def SemLongestUptoCardSaid : Prop := Claim7.holds Tryd.pinned (.plain (OpenSpec.upto semLongestSpec)) semLongestUptoCard

/-- THE SECOND FORM's CARD OF 'burinlaw13.SemParts'. -/
def semPartsUptoCard : Claim7 := { stood := { row := semPartsUptoRow, standIns := [], harness := (true, "d8994d86e15dbc45c9a890a882fb5b248a348a152fa5fe7c23ea8e5871299ad6"), looks := false }, kinds := [], alts := [], laidByText := true, laidKinds := [.data, .widerDeep], laidTests := true, laidLooks := .later }
def SemPartsUptoCardSaid : Prop := Claim7.holds Tryd.pinned (.plain (OpenSpec.upto semPartsSpec)) semPartsUptoCard

/-- THE SECOND FORM's CARD OF 'burinlaw16.VerifyChecks'. -/
def verifyChecksUptoCard : Claim7 := { stood := { row := verifyChecksUptoRow, standIns := [], harness := (true, "d8994d86e15dbc45c9a890a882fb5b248a348a152fa5fe7c23ea8e5871299ad6"), looks := false }, kinds := [], alts := [], laidByText := true, laidKinds := [.data, .wider], laidTests := true, laidLooks := .later }
def VerifyChecksUptoCardSaid : Prop := Claim7.holds Tryd.pinned (.plain (OpenSpec.upto verifyChecksSpec)) verifyChecksUptoCard

/-- THE SECOND FORM's CARD OF 'burinlaw16.VerifyOrders'. -/
def verifyOrdersUptoCard : Claim7 := { stood := { row := verifyOrdersUptoRow, standIns := [], harness := (true, "d8994d86e15dbc45c9a890a882fb5b248a348a152fa5fe7c23ea8e5871299ad6"), looks := false }, kinds := [], alts := [], laidByText := true, laidKinds := [.data, .wider], laidTests := true, laidLooks := .later }
def VerifyOrdersUptoCardSaid : Prop := Claim7.holds Tryd.pinned (.plain (OpenSpec.upto verifyOrdersSpec)) verifyOrdersUptoCard

/-- THE SECOND FORM's CARD OF 'burinlaw16.VerifyLoops'. -/
def verifyLoopsUptoCard : Claim7 := { stood := { row := verifyLoopsUptoRow, standIns := [], harness := (true, "d8994d86e15dbc45c9a890a882fb5b248a348a152fa5fe7c23ea8e5871299ad6"), looks := false }, kinds := [], alts := [], laidByText := true, laidKinds := [.data, .wider], laidTests := true, laidLooks := .later }
def VerifyLoopsUptoCardSaid : Prop := Claim7.holds Tryd.pinned (.plain (OpenSpec.upto verifyLoopsSpec)) verifyLoopsUptoCard

/-- THE SECOND FORM's CARD OF 'burinlaw16.VerifyBytes'. -/
def verifyBytesUptoCard : Claim7 := { stood := { row := verifyBytesUptoRow, standIns := [], harness := (true, "d8994d86e15dbc45c9a890a882fb5b248a348a152fa5fe7c23ea8e5871299ad6"), looks := false }, kinds := [], alts := [], laidByText := true, laidKinds := [.data, .wider], laidTests := true, laidLooks := .later }
def VerifyBytesUptoCardSaid : Prop := Claim7.holds Tryd.pinned (.plain (OpenSpec.upto verifyBytesSpec)) verifyBytesUptoCard
end Rows
end Go.Proofs.YtchcjinaagncjaaDoor
