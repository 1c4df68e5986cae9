/-
  DERIVED. GIVEN WITH THE SEED: THE CARDS: each row of YtanffablfgnioaaDoorRows.lean that lists a variable, with what it lists TIED to the program's text (the seventh form; the later family's looks); each row that meets fmt, with fmt's text TOLD by the authors' own Lean function (tested against real Go, not proved from fmt's source: count such statements apart). THE CARD IS WHAT COUNTS. Prove the row's statement (the work); the ties are given (YtanffablfgnioaaDoorTie.lean); close each card by the builder's one call (the guide's Derived/Test/ToyasCard.lean, 'card_holds'). Laid BY PROGRAM, IN A SANDBOX (cutbox-door.mjs). By AI agents, Wed Nov 11 2026. No macro, syntax, notation, axiom, sorry.
-/
import Derived.Test.YtanffablfgnioaaDoorRows
import GoSem.ClaimSeven
namespace Go.Proofs.YtanffablfgnioaaDoor
namespace Rows

/-- THE TIED CARD OF 'burinlaw12.EdgeTells'. -/
def edgeTellsCard : Claim7 := { stood := { row := edgeTellsRow, standIns := [], harness := (true, "c71770e90de313364204a844146ed4cdb6bb41afb2bfe638d6ce3b3bdb48af36"), looks := false }, kinds := [], alts := [], laidByText := true, laidKinds := [.data], laidTests := true, laidLooks := .later }
def EdgeTellsCardSaid : Prop := Claim7.holds Tryd.pinned (.plain (OpenSpec.ofChange edgeTellsSpec)) edgeTellsCard

/-- THE TIED CARD OF 'burinlaw12.EdgeTurns'. -/
def edgeTurnsCard : Claim7 := { stood := { row := edgeTurnsRow, standIns := [], harness := (true, "c71770e90de313364204a844146ed4cdb6bb41afb2bfe638d6ce3b3bdb48af36"), looks := false }, kinds := [], alts := [], laidByText := true, laidKinds := [.data], laidTests := true, laidLooks := .later }
def EdgeTurnsCardSaid : Prop := Claim7.holds Tryd.pinned (.plain (OpenSpec.ofChange edgeTurnsSpec)) edgeTurnsCard

/-- THE TIED CARD OF 'burinlaw12.EdgeTexts'. -/
def edgeTextsCard : Claim7 := { stood := { row := edgeTextsRow, standIns := [], harness := (true, "c71770e90de313364204a844146ed4cdb6bb41afb2bfe638d6ce3b3bdb48af36"), looks := false }, kinds := [], alts := [], laidByText := true, laidKinds := [.data], laidTests := true, laidLooks := .later }
def EdgeTextsCardSaid : Prop := Claim7.holds Tryd.pinned (.plain (OpenSpec.ofChange edgeTextsSpec)) edgeTextsCard

/-- THE TIED CARD OF 'burinlaw12.EdgeNear'. -/
def edgeNearCard : Claim7 := { stood := { row := edgeNearRow, standIns := [], harness := (true, "c71770e90de313364204a844146ed4cdb6bb41afb2bfe638d6ce3b3bdb48af36"), looks := false }, kinds := [], alts := [], laidByText := true, laidKinds := [.data], laidTests := true, laidLooks := .later }
def EdgeNearCardSaid : Prop := Claim7.holds Tryd.pinned (.plain (OpenSpec.ofChange edgeNearSpec)) edgeNearCard

/-- THE SECOND FORM's CARD OF 'burinlaw12.EdgeTells'. -/
def edgeTellsUptoCard : Claim7 := { stood := { row := edgeTellsUptoRow, standIns := [], harness := (true, "c71770e90de313364204a844146ed4cdb6bb41afb2bfe638d6ce3b3bdb48af36"), looks := false }, kinds := [], alts := [], laidByText := true, laidKinds := [.data], laidTests := true, laidLooks := .later }
def EdgeTellsUptoCardSaid : Prop := Claim7.holds Tryd.pinned (.plain (OpenSpec.upto edgeTellsSpec)) edgeTellsUptoCard

/-- THE SECOND FORM's CARD OF 'burinlaw12.EdgeTurns'. -/
def edgeTurnsUptoCard : Claim7 := { stood := { row := edgeTurnsUptoRow, standIns := [], harness := (true, "c71770e90de313364204a844146ed4cdb6bb41afb2bfe638d6ce3b3bdb48af36"), looks := false }, kinds := [], alts := [], laidByText := true, laidKinds := [.data], laidTests := true, laidLooks := .later }
def EdgeTurnsUptoCardSaid : Prop := Claim7.holds Tryd.pinned (.plain (OpenSpec.upto edgeTurnsSpec)) edgeTurnsUptoCard

/-- THE SECOND FORM's CARD OF 'burinlaw12.EdgeTexts'. -/
def edgeTextsUptoCard : Claim7 := { stood := { row := edgeTextsUptoRow, standIns := [], harness := (true, "c71770e90de313364204a844146ed4cdb6bb41afb2bfe638d6ce3b3bdb48af36"), looks := false }, kinds := [], alts := [], laidByText := true, laidKinds := [.data], laidTests := true, laidLooks := .later }
def EdgeTextsUptoCardSaid : Prop := Claim7.holds Tryd.pinned (.plain (OpenSpec.upto edgeTextsSpec)) edgeTextsUptoCard

/-- THE SECOND FORM's CARD OF 'burinlaw12.EdgeNear'. -/
def edgeNearUptoCard : Claim7 := { stood := { row := edgeNearUptoRow, standIns := [], harness := (true, "c71770e90de313364204a844146ed4cdb6bb41afb2bfe638d6ce3b3bdb48af36"), looks := false }, kinds := [], alts := [], laidByText := true, laidKinds := [.data], laidTests := true, laidLooks := .later }
def EdgeNearUptoCardSaid : Prop := Claim7.holds Tryd.pinned (.plain (OpenSpec.upto edgeNearSpec)) edgeNearUptoCard
end Rows
end Go.Proofs.YtanffablfgnioaaDoor
