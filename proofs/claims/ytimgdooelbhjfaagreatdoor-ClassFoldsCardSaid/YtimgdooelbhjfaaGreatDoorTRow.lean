/- Rows of texts in memory; the names of the properties. -/
import Derived.Test.YtimgdooelbhjfaaGreatDoorRgI
namespace Go.Proofs.YtimgdooelbhjfaaGreatDoor
open Go.RowKit
set_option linter.unusedVariables false
/-- A value that reads as a list of texts (their bytes). -/
def TRow (W : World) (v : Value) (L : List (List UInt8)) : Prop :=
  ∃ a cap, v = .slice a L.length cap ∧ L.length ≤ cap ∧ cap ≤ 9223372036854775807 ∧ ∀ j, j < L.length → ∃ b s, a = some ⟨b, 0, none⟩ ∧ b < W.heap.size ∧ W.cell? ⟨b, j, none⟩ = some (.string s) ∧ s.toList = L[j]?.getD []
theorem TRow.below {W W' : World} {v : Value} {L : List (List UInt8)} (h : TRow W v L) {B : Nat} (hB : W.heap.size ≤ B) (hb : Below B W W') : TRow W' v L := by
  obtain ⟨a, cap, hv, h1, h2, hc⟩ := h
  refine ⟨a, cap, hv, h1, h2, fun j hj => ?_⟩
  obtain ⟨b, s, ha, hlt, hcell, hs⟩ := hc j hj
  exact ⟨b, s, ha, Nat.lt_of_lt_of_le hlt hb.size, (hb.cell (p := ⟨b, j, none⟩) (by show b < B; omega)).trans hcell, hs⟩
/-- The names of the properties. -/
def namesB : List ByteArray := [⟨#[65, 110, 121]⟩, ⟨#[67, 121, 114, 105, 108, 108, 105, 99]⟩, ⟨#[71, 114, 101, 101, 107]⟩, ⟨#[76]⟩, ⟨#[76, 97, 116, 105, 110]⟩, ⟨#[76, 108]⟩, ⟨#[76, 117]⟩, ⟨#[78, 100]⟩]
def namesL : List (List UInt8) := namesB.map fun s => s.data.toList
end Go.Proofs.YtimgdooelbhjfaaGreatDoor
