/- An argument that is a tree, opened over this program. -/
import Derived.Test.YthhijakclinjaaaGp5
import Derived.Test.YthhijakclinjaaaGp30
namespace Go.Proofs.Ythhijakclinjaaa
open Go.ChangeShapes Go.WideShapes Go.ChangeAt Go.RowKit
set_option linter.unusedVariables false
theorem rgTypes6 : RgTypes Try.prog 22 62 3 :=
  ⟨Try.underlying22, rangeStruct, Try.underlying3, rangeCells, intCells, rangeBytes⟩
theorem ndTypes : NdTypes Try.prog 25 23 22 62 3 9 4 :=
  ⟨rgTypes6, ⟨_, _, _, _, _, _, _, _, Try.underlying25, ⟨rfl, rfl, rfl, rfl, rfl, rfl, rfl, rfl⟩, rfl, rfl, rfl, rfl, rfl, rfl, rfl, rfl⟩, Try.underlying23, Try.underlying9, Try.underlying4,
    ⟨by kernel_rfl, by kernel_rfl, by kernel_rfl, by kernel_rfl, by kernel_rfl, by kernel_rfl⟩, by kernel_rfl⟩
set_option maxRecDepth 100000 in
theorem open_node {H : Type} {enc : TypeId × Value → H} {W : World} {base : Nat} {v : Value} {d : DataW H} {p : List MemPlace} (hv : Value.okWide Try.prog W .any base 25 v)
    (h : DataW.Trod enc Try.prog W 0 (fun _ => true) true 25 v d p) (hs : ∀ n ∈ d.weights Try.prog 25, n ≤ reachBytes) : ∃ cs n, v = .agg cs.toArray ∧ NdIs W n cs := by
  obtain ⟨fuel, hf⟩ := h
  obtain ⟨cs, rfl, hsz⟩ := okWide_struct Try.underlying25 hv
  obtain ⟨n, hn⟩ := open_node_g ndTypes fuel hf hs
  exact ⟨cs.toList, n, by simp, hn⟩
end Go.Proofs.Ythhijakclinjaaa
