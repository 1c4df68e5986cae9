/-
  DERIVED. GIVEN WITH THE SEED: THE CARDS: each row of YtgonfbfagcajcaaDoorRows.lean that lists a variable, with what it lists TIED to the program's text (the seventh form; the later family's looks); each row that meets fmt, with fmt's text TOLD by the authors' own Lean function (tested against real Go, not proved from fmt's source: count such statements apart). THE CARD IS WHAT COUNTS. Prove the row's statement (the work); the ties are given (YtgonfbfagcajcaaDoorTie.lean); close each card by the builder's one call (the guide's Derived/Test/ToyasCard.lean, 'card_holds'). Laid BY PROGRAM, IN A SANDBOX (cutbox-door.mjs). By AI agents, Wed Nov 11 2026. No macro, syntax, notation, axiom, sorry.
-/
import Derived.Test.YtgonfbfagcajcaaDoorRows
import GoSem.ClaimSeven
namespace Go.Proofs.YtgonfbfagcajcaaDoor
namespace Rows

/-- THE TIED CARD OF 'burinlaw13.SemLongest'. -/
def semLongestCard : Claim7 := { stood := { row := semLongestRow, standIns := [], harness := (true, "63c0618f838f7f7408286bdbd00828e434b4e15aead295a627e55560a4ca0cff"), looks := true }, kinds := [], alts := [], laidByText := true, laidKinds := [.data, .widerDeep], laidTests := true, laidLooks := .later }
def SemLongestCardSaid : Prop := Claim7.holds Tryd.pinned (.plain (OpenSpec.ofChange semLongestSpec)) semLongestCard

/-- THE TIED CARD OF 'burinlaw13.SemParts'. -/
def semPartsCard : Claim7 := { stood := { row := semPartsRow, standIns := [], harness := (true, "63c0618f838f7f7408286bdbd00828e434b4e15aead295a627e55560a4ca0cff"), looks := true }, kinds := [], alts := [], laidByText := true, laidKinds := [.data, .widerDeep], laidTests := true, laidLooks := .later }
def SemPartsCardSaid : Prop := Claim7.holds Tryd.pinned (.plain (OpenSpec.ofChange semPartsSpec)) semPartsCard

/-- THE TIED CARD OF 'burinlaw14.ProgTells'. -/
def progTellsCard : Claim7 := { stood := { row := progTellsRow, standIns := [], harness := (true, "63c0618f838f7f7408286bdbd00828e434b4e15aead295a627e55560a4ca0cff"), looks := true }, kinds := [], alts := [], laidByText := true, laidKinds := [.data, .data, .data, .sentinel, .sentinel, .wider], laidTests := true, laidLooks := .later }
def ProgTellsCardSaid : Prop := Claim7.holds Tryd.pinned (.plain (OpenSpec.ofChange progTellsSpec)) progTellsCard

/-- THE TIED CARD OF 'burinlaw14.ProgLines'. -/
def progLinesCard : Claim7 := { stood := { row := progLinesRow, standIns := [], harness := (true, "63c0618f838f7f7408286bdbd00828e434b4e15aead295a627e55560a4ca0cff"), looks := true }, kinds := [], alts := [], laidByText := true, laidKinds := [.data, .data, .data, .sentinel, .sentinel, .wider], laidTests := true, laidLooks := .later }
def ProgLinesCardSaid : Prop := Claim7.holds Tryd.pinned (.plain (OpenSpec.ofChange progLinesSpec)) progLinesCard

/-- THE TIED CARD OF 'burinlaw14.ProgBack'. -/
def progBackCard : Claim7 := { stood := { row := progBackRow, standIns := [], harness := (true, "63c0618f838f7f7408286bdbd00828e434b4e15aead295a627e55560a4ca0cff"), looks := true }, kinds := [], alts := [], laidByText := true, laidKinds := [.data, .data, .data, .sentinel, .sentinel, .wider], laidTests := true, laidLooks := .later }
def ProgBackCardSaid : Prop := Claim7.holds Tryd.pinned (.plain (OpenSpec.ofChange progBackSpec)) progBackCard

/-- THE TIED CARD OF 'burinlaw14.ProgFields'. -/
def progFieldsCard : Claim7 := { stood := { row := progFieldsRow, standIns := [], harness := (true, "63c0618f838f7f7408286bdbd00828e434b4e15aead295a627e55560a4ca0cff"), looks := true }, kinds := [], alts := [], laidByText := true, laidKinds := [.data, .data, .data, .sentinel, .sentinel, .wider], laidTests := true, laidLooks := .later }
def ProgFieldsCardSaid : Prop := Claim7.holds Tryd.pinned (.plain (OpenSpec.ofChange progFieldsSpec)) progFieldsCard

/-- THE SECOND FORM's CARD OF 'burinlaw13.SemLongest'. -/
def semLongestUptoCard : Claim7 := { stood := { row := semLongestUptoRow, standIns := [], harness := (true, "63c0618f838f7f7408286bdbd00828e434b4e15aead295a627e55560a4ca0cff"), looks := true }, kinds := [], alts := [], laidByText := true, laidKinds := [.data, .widerDeep], laidTests := true, laidLooks := .later }
def SemLongestUptoCardSaid : Prop := Claim7.holds Tryd.pinned (.plain (OpenSpec.upto semLongestSpec)) semLongestUptoCard

/-- THE SECOND FORM's CARD OF 'burinlaw13.SemParts'. -/
def semPartsUptoCard : Claim7 := { stood := { row := semPartsUptoRow, standIns := [], harness := (true, "63c0618f838f7f7408286bdbd00828e434b4e15aead295a627e55560a4ca0cff"), looks := true }, kinds := [], alts := [], laidByText := true, laidKinds := [.data, .widerDeep], laidTests := true, laidLooks := .later }
def SemPartsUptoCardSaid : Prop := Claim7.holds Tryd.pinned (.plain (OpenSpec.upto semPartsSpec)) semPartsUptoCard

/-- THE SECOND FORM's CARD OF 'burinlaw14.ProgTells'. -/
def progTellsUptoCard : Claim7 := { stood := { row := progTellsUptoRow, standIns := [], harness := (true, "63c0618f838f7f7408286bdbd00828e434b4e15aead295a627e55560a4ca0cff"), looks := true }, kinds := [], alts := [], laidByText := true, laidKinds := [.data, .data, .data, .sentinel, .sentinel, .wider], laidTests := true, laidLooks := .later }
def ProgTellsUptoCardSaid : Prop := Claim7.holds Tryd.pinned (.plain (OpenSpec.upto progTellsSpec)) progTellsUptoCard

/-- THE SECOND FORM's CARD OF 'burinlaw14.ProgLines'. -/
def progLinesUptoCard : Claim7 := { stood := { row := progLinesUptoRow, standIns := [], harness := (true, "63c0618f838f7f7408286bdbd00828e434b4e15aead295a627e55560a4ca0cff"), looks := true }, kinds := [], alts := [], laidByText := true, laidKinds := [.data, .data, .data, .sentinel, .sentinel, .wider], laidTests := true, laidLooks := .later }
def ProgLinesUptoCardSaid : Prop := Claim7.holds Tryd.pinned (.plain (OpenSpec.upto progLinesSpec)) progLinesUptoCard

/-- THE SECOND FORM's CARD OF 'burinlaw14.ProgBack'. -/
def progBackUptoCard : Claim7 := { stood := { row := progBackUptoRow, standIns := [], harness := (true, "63c0618f838f7f7408286bdbd00828e434b4e15aead295a627e55560a4ca0cff"), looks := true }, kinds := [], alts := [], laidByText := true, laidKinds := [.data, .data, .data, .sentinel, .sentinel, .wider], laidTests := true, laidLooks := .later }
def ProgBackUptoCardSaid : Prop := Claim7.holds Tryd.pinned (.plain (OpenSpec.upto progBackSpec)) progBackUptoCard

/-- THE SECOND FORM's CARD OF 'burinlaw14.ProgFields'. -/
def progFieldsUptoCard : Claim7 := { stood := { row := progFieldsUptoRow, standIns := [], harness := (true, "63c0618f838f7f7408286bdbd00828e434b4e15aead295a627e55560a4ca0cff"), looks := true }, kinds := [], alts := [], laidByText := true, laidKinds := [.data, .data, .data, .sentinel, .sentinel, .wider], laidTests := true, laidLooks := .later }
def ProgFieldsUptoCardSaid : Prop := Claim7.holds Tryd.pinned (.plain (OpenSpec.upto progFieldsSpec)) progFieldsUptoCard
end Rows
end Go.Proofs.YtgonfbfagcajcaaDoor
