/-
  DERIVED. GIVEN WITH THE SEED: THE CARDS: each row of YtfnimmbmcjgdpaaDoorRows.lean that lists a variable, with what it lists TIED to the program's text (the seventh form; the later family's looks); each row that meets fmt, with fmt's text TOLD by the authors' own Lean function (tested against real Go, not proved from fmt's source: count such statements apart). THE CARD IS WHAT COUNTS. Prove the row's statement (the work); the ties are given (YtfnimmbmcjgdpaaDoorTie.lean); close each card by the builder's one call (the guide's Derived/Test/ToyasCard.lean, 'card_holds'). Laid BY PROGRAM, IN A SANDBOX (cutbox-door.mjs). By AI agents, Wed Nov 11 2026. No macro, syntax, notation, axiom, sorry.
-/
import Derived.Test.YtfnimmbmcjgdpaaDoorRows
import GoSem.ClaimSeven
namespace Go.Proofs.YtfnimmbmcjgdpaaDoor
namespace Rows

/-- THE TIED CARD OF 'burinlaw13.SemLongest'. -/
def semLongestCard : Claim7 := { stood := { row := semLongestRow, standIns := [], harness := (true, "ed82756c8daca98fcb3c98a2bd6b5cb742d449fc75f5e8b862ca5299c4a35d35"), looks := true }, kinds := [], alts := [], laidByText := true, laidKinds := [.data, .widerDeep], laidTests := true, laidLooks := .later }
def SemLongestCardSaid : Prop := Claim7.holds Tryd.pinned (.plain (OpenSpec.ofChange semLongestSpec)) semLongestCard

/-- THE TIED CARD OF 'burinlaw13.SemParts'. -/
def semPartsCard : Claim7 := { stood := { row := semPartsRow, standIns := [], harness := (true, "ed82756c8daca98fcb3c98a2bd6b5cb742d449fc75f5e8b862ca5299c4a35d35"), looks := true }, kinds := [], alts := [], laidByText := true, laidKinds := [.data, .widerDeep], laidTests := true, laidLooks := .later }
def SemPartsCardSaid : Prop := Claim7.holds Tryd.pinned (.plain (OpenSpec.ofChange semPartsSpec)) semPartsCard

/-- THE TIED CARD OF 'burinlaw14.ProgLines'. -/
def progLinesCard : Claim7 := { stood := { row := progLinesRow, standIns := [], harness := (true, "ed82756c8daca98fcb3c98a2bd6b5cb742d449fc75f5e8b862ca5299c4a35d35"), looks := true }, kinds := [], alts := [], laidByText := true, laidKinds := [.data, .data, .data, .sentinel, .sentinel, .wider], laidTests := true, laidLooks := .later }
def ProgLinesCardSaid : Prop := Claim7.holds Tryd.pinned (.plain (OpenSpec.ofChange progLinesSpec)) progLinesCard

/-- THE TIED CARD OF 'burinlaw15.WireCodes'. -/
def wireCodesCard : Claim7 := { stood := { row := wireCodesRow, standIns := [], harness := (true, "ed82756c8daca98fcb3c98a2bd6b5cb742d449fc75f5e8b862ca5299c4a35d35"), looks := true }, kinds := [], alts := [], laidByText := true, laidKinds := [.wider], laidTests := true, laidLooks := .later }
def WireCodesCardSaid : Prop := Claim7.holds Tryd.pinned (.plain (OpenSpec.ofChange wireCodesSpec)) wireCodesCard

/-- THE TIED CARD OF 'burinlaw15.WireBack'. -/
def wireBackCard : Claim7 := { stood := { row := wireBackRow, standIns := [], harness := (true, "ed82756c8daca98fcb3c98a2bd6b5cb742d449fc75f5e8b862ca5299c4a35d35"), looks := true }, kinds := [], alts := [], laidByText := true, laidKinds := [.wider], laidTests := true, laidLooks := .later }
def WireBackCardSaid : Prop := Claim7.holds Tryd.pinned (.plain (OpenSpec.ofChange wireBackSpec)) wireBackCard

/-- THE TIED CARD OF 'burinlaw15.WireOne'. -/
def wireOneCard : Claim7 := { stood := { row := wireOneRow, standIns := [], harness := (true, "ed82756c8daca98fcb3c98a2bd6b5cb742d449fc75f5e8b862ca5299c4a35d35"), looks := true }, kinds := [], alts := [], laidByText := true, laidKinds := [.wider], laidTests := true, laidLooks := .later }
def WireOneCardSaid : Prop := Claim7.holds Tryd.pinned (.plain (OpenSpec.ofChange wireOneSpec)) wireOneCard

/-- THE TIED CARD OF 'burinlaw15.WireShort'. -/
def wireShortCard : Claim7 := { stood := { row := wireShortRow, standIns := [], harness := (true, "ed82756c8daca98fcb3c98a2bd6b5cb742d449fc75f5e8b862ca5299c4a35d35"), looks := true }, kinds := [], alts := [], laidByText := true, laidKinds := [.wider], laidTests := true, laidLooks := .later }
def WireShortCardSaid : Prop := Claim7.holds Tryd.pinned (.plain (OpenSpec.ofChange wireShortSpec)) wireShortCard

/-- THE SECOND FORM's CARD OF 'burinlaw13.SemLongest'. -/
def semLongestUptoCard : Claim7 := { stood := { row := semLongestUptoRow, standIns := [], harness := (true, "ed82756c8daca98fcb3c98a2bd6b5cb742d449fc75f5e8b862ca5299c4a35d35"), looks := true }, kinds := [], alts := [], laidByText := true, laidKinds := [.data, .widerDeep], laidTests := true, laidLooks := .later }
def SemLongestUptoCardSaid : Prop := Claim7.holds Tryd.pinned (.plain (OpenSpec.upto semLongestSpec)) semLongestUptoCard

/-- THE SECOND FORM's CARD OF 'burinlaw13.SemParts'. -/
def semPartsUptoCard : Claim7 := { stood := { row := semPartsUptoRow, standIns := [], harness := (true, "ed82756c8daca98fcb3c98a2bd6b5cb742d449fc75f5e8b862ca5299c4a35d35"), looks := true }, kinds := [], alts := [], laidByText := true, laidKinds := [.data, .widerDeep], laidTests := true, laidLooks := .later }
def SemPartsUptoCardSaid : Prop := Claim7.holds Tryd.pinned (.plain (OpenSpec.upto semPartsSpec)) semPartsUptoCard

/-- THE SECOND FORM's CARD OF 'burinlaw14.ProgLines'. -/
def progLinesUptoCard : Claim7 := { stood := { row := progLinesUptoRow, standIns := [], harness := (true, "ed82756c8daca98fcb3c98a2bd6b5cb742d449fc75f5e8b862ca5299c4a35d35"), looks := true }, kinds := [], alts := [], laidByText := true, laidKinds := [.data, .data, .data, .sentinel, .sentinel, .wider], laidTests := true, laidLooks := .later }
def ProgLinesUptoCardSaid : Prop := Claim7.holds Tryd.pinned (.plain (OpenSpec.upto progLinesSpec)) progLinesUptoCard

/-- THE SECOND FORM's CARD OF 'burinlaw15.WireCodes'. -/
def wireCodesUptoCard : Claim7 := { stood := { row := wireCodesUptoRow, standIns := [], harness := (true, "ed82756c8daca98fcb3c98a2bd6b5cb742d449fc75f5e8b862ca5299c4a35d35"), looks := true }, kinds := [], alts := [], laidByText := true, laidKinds := [.wider], laidTests := true, laidLooks := .later }
def WireCodesUptoCardSaid : Prop := Claim7.holds Tryd.pinned (.plain (OpenSpec.upto wireCodesSpec)) wireCodesUptoCard

/-- THE SECOND FORM's CARD OF 'burinlaw15.WireBack'. -/
def wireBackUptoCard : Claim7 := { stood := { row := wireBackUptoRow, standIns := [], harness := (true, "ed82756c8daca98fcb3c98a2bd6b5cb742d449fc75f5e8b862ca5299c4a35d35"), looks := true }, kinds := [], alts := [], laidByText := true, laidKinds := [.wider], laidTests := true, laidLooks := .later }
def WireBackUptoCardSaid : Prop := Claim7.holds Tryd.pinned (.plain (OpenSpec.upto wireBackSpec)) wireBackUptoCard

/-- THE SECOND FORM's CARD OF 'burinlaw15.WireOne'. -/
def wireOneUptoCard : Claim7 := { stood := { row := wireOneUptoRow, standIns := [], harness := (true, "ed82756c8daca98fcb3c98a2bd6b5cb742d449fc75f5e8b862ca5299c4a35d35"), looks := true }, kinds := [], alts := [], laidByText := true, laidKinds := [.wider], laidTests := true, laidLooks := .later }
def WireOneUptoCardSaid : Prop := Claim7.holds Tryd.pinned (.plain (OpenSpec.upto wireOneSpec)) wireOneUptoCard

/-- THE SECOND FORM's CARD OF 'burinlaw15.WireShort'. -/
def wireShortUptoCard : Claim7 := { stood := { row := wireShortUptoRow, standIns := [], harness := (true, "ed82756c8daca98fcb3c98a2bd6b5cb742d449fc75f5e8b862ca5299c4a35d35"), looks := true }, kinds := [], alts := [], laidByText := true, laidKinds := [.wider], laidTests := true, laidLooks := .later }
def WireShortUptoCardSaid : Prop := Claim7.holds Tryd.pinned (.plain (OpenSpec.upto wireShortSpec)) wireShortUptoCard
end Rows
end Go.Proofs.YtfnimmbmcjgdpaaDoor
