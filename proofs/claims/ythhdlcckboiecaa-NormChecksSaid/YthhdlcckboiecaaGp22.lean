/- The landed norm: slices.Clone of a node's parts. -/
import Derived.Test.YthhdlcckboiecaaGp21
import Derived.Test.YthhdlcckboiecaaGp5
namespace Go.Proofs.Ythhdlcckboiecaa
open Go.RowKit
set_option linter.unusedVariables false
theorem drop_take8 (Y : List (List Value)) (h8 : ∀ x ∈ Y, x.length = 8) (hl : Y.flatten.length = Y.length * 8) (j : Nat) (x : List Value) (hx : Y[j]? = some x) : (Y.flatten.drop (j * 8)).take 8 = x := by
  have hj : j < Y.length := (List.getElem?_eq_some_iff.1 hx).1
  have hx8 : x.length = 8 := h8 x (List.mem_of_getElem? hx)
  apply List.ext_getElem?
  intro q
  by_cases hq : q < 8
  · rw [List.getElem?_take_of_lt hq, List.getElem?_drop]
    exact flat8_at Y h8 j q x hx hq
  · rw [List.getElem?_eq_none (by rw [List.length_take]; omega), List.getElem?_eq_none (by omega)]
/-- What a clone of a node's row is: nothing, or a row of its own with the same cells. -/
def ClRow (base : Nat) (w : World) (v : Value) (l : List Nd) (Y : List (List Value)) : Prop :=
  (l.length = 0 ∧ ∃ a c, v = .slice a 0 c) ∨ (0 < l.length ∧ ∃ g cap, v = .slice (some ⟨g, 0, none⟩) l.length cap ∧ base ≤ g ∧ l.length ≤ cap ∧ RowC w g l.length (fun j => Y.getD j []))
theorem cloneNd_row {S : Nat → Prop} (W : World) (l : List Nd) (Y : List (List Value)) (a : Option Addr) (cap : Nat) (hY : NdsOn S W l Y) (hl : l.length ≤ 1000000)
    (hr : 0 < l.length → ∃ b off, a = some ⟨b, off, none⟩ ∧ S b ∧ b < W.heap.size ∧ ∀ j u, Y.flatten[j]? = some u → W.cell? ((⟨b, off, none⟩ : Addr).add j) = some u) :
    Calls Try.prog 71 #[.slice a l.length cap] W fun e w' => ∃ v, e = .returned v ∧ ClRow W.heap.size w' v l Y ∧ Below W.heap.size W w' := by
  by_cases h0 : l.length = 0
  · rw [h0]
    cases a with
    | none =>
      refine (cloneNd_nilc W _ _).mono ?_
      rintro e w' ⟨rfl, rfl⟩
      exact ⟨_, rfl, .inl ⟨h0, none, 0, rfl⟩, Below.refl _ _⟩
    | some ad =>
      refine (cloneNd_zero W ad cap).mono ?_
      rintro e w' ⟨v, rfl, ho, hb⟩
      refine ⟨v, rfl, .inl ⟨h0, ?_⟩, hb⟩
      rcases ho.2 with ⟨e, _⟩ | ⟨g, c, cur, e, _⟩
      · exact ⟨none, 0, e⟩
      · exact ⟨_, c, e⟩
  · obtain ⟨b, off, rfl, -, hb, hc⟩ := hr (by omega)
    refine (cloneNd_any W b off l.length cap Y.flatten hY.flatLen (by omega) hl (ndsOn_oneN hY) (fun j v hv => by have := hc j v hv; rw [Addr.add_lit] at this; exact this) hb).mono ?_
    rintro e w' ⟨v, rfl, ho, hb'⟩
    obtain ⟨g, c, rfl, hg, hcap, hR⟩ := rowC_of ho (by omega)
    refine ⟨_, rfl, .inr ⟨by omega, g, c, rfl, hg, hcap, ?_⟩, hb'⟩
    obtain ⟨cur, h1, h2, h3⟩ := hR
    refine ⟨cur, h1, h2, fun j hj q hq => ?_⟩
    rw [h3 j hj q hq]
    obtain ⟨x, hx, -⟩ := hY.2 j hj
    show ((Y.flatten.drop (j * 8)).take 8)[q]? = (Y.getD j [])[q]?
    rw [drop_take8 Y hY.is.len8 (by rw [hY.flatLen, hY.1]) j x hx, List.getD, hx]
    rfl
end Go.Proofs.Ythhdlcckboiecaa
