/-
  DERIVED. GIVEN WITH THE SEED: THE CARDS: each row of YtdcielcniboloaaDoorRows.lean that lists a variable, with what it lists TIED to the program's text (the seventh form; the later family's looks); each row that meets fmt, with fmt's text TOLD by the authors' own Lean function (tested against real Go, not proved from fmt's source: count such statements apart). THE CARD IS WHAT COUNTS. Prove the row's statement (the work); the ties are given (YtdcielcniboloaaDoorTie.lean); close each card by the builder's one call (the guide's Derived/Test/ToyasCard.lean, 'card_holds'). Laid BY PROGRAM, IN A SANDBOX (cutbox-door.mjs). By AI agents, Wed Nov 11 2026. No macro, syntax, notation, axiom, sorry.
-/
import Derived.Test.YtdcielcniboloaaDoorRows
import GoSem.ClaimSeven
namespace Go.Proofs.YtdcielcniboloaaDoor
namespace Rows

/-- THE TIED CARD OF 'burinlaw10.ShowWrites'. -/
def showWritesCard : Claim7 := { stood := { row := showWritesRow, standIns := [], harness := (true, "fe1996df33a143676d1d755512b59f8f69fb326d003c91ffd0270470f3a79e63"), looks := true }, kinds := [], alts := [], laidByText := true, laidKinds := [.data, .data, .data], laidTests := true, laidLooks := .later }
def ShowWritesCardSaid : Prop := Claim7.holds Tryd.pinned (.plain (OpenSpec.ofChange showWritesSpec)) showWritesCard

/-- THE TIED CARD OF 'burinlaw10.ShowLong'. -/
def showLongCard : Claim7 := { stood := { row := showLongRow, standIns := [], harness := (true, "fe1996df33a143676d1d755512b59f8f69fb326d003c91ffd0270470f3a79e63"), looks := true }, kinds := [], alts := [], laidByText := true, laidKinds := [.data, .data, .data], laidTests := true, laidLooks := .later }
def ShowLongCardSaid : Prop := Claim7.holds Tryd.pinned (.plain (OpenSpec.ofChange showLongSpec)) showLongCard

/-- THE SECOND FORM's CARD OF 'burinlaw10.ShowWrites'. -/
def showWritesUptoCard : Claim7 := { stood := { row := showWritesUptoRow, standIns := [], harness := (true, "fe1996df33a143676d1d755512b59f8f69fb326d003c91ffd0270470f3a79e63"), looks := true }, kinds := [], alts := [], laidByText := true, laidKinds := [.data, .data, .data], laidTests := true, laidLooks := .later }
def ShowWritesUptoCardSaid : Prop := Claim7.holds Tryd.pinned (.plain (OpenSpec.upto showWritesSpec)) showWritesUptoCard

/-- THE SECOND FORM's CARD OF 'burinlaw10.ShowLong'. -/
def showLongUptoCard : Claim7 := { stood := { row := showLongUptoRow, standIns := [], harness := (true, "fe1996df33a143676d1d755512b59f8f69fb326d003c91ffd0270470f3a79e63"), looks := true }, kinds := [], alts := [], laidByText := true, laidKinds := [.data, .data, .data], laidTests := true, laidLooks := .later }
def ShowLongUptoCardSaid : Prop := Claim7.holds Tryd.pinned (.plain (OpenSpec.upto showLongSpec)) showLongUptoCard
end Rows
end Go.Proofs.YtdcielcniboloaaDoor
