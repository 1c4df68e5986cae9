/- An argument that is a list of ranges, opened. · An argument that is a tree, opened over this program. -/
import Derived.Test.YtecmeeobabadeaaGreatDoorGp1
import Derived.Deep.SlicePairs
import Derived.ProofKit
import Derived.SizedLaws
import Derived.Lib.RowBridge
import Derived.Test.YtecmeeobabadeaaGreatDoorGp2
namespace Go.Proofs.YtecmeeobabadeaaGreatDoor
open Go.ChangeShapes Go.WideShapes Go.ChangeAt Go.RowKit
set_option linter.unusedVariables false
theorem laidOut : laidOutB Tryz.prog = true := by kernel_rfl
theorem rangeStruct : ∃ f0 f1 : Field, Tryz.prog.underlying 77 = some (.struct #[f0, f1]) ∧ f0.offset = 0 ∧ f1.offset = 1 ∧ f0.type = 3 ∧ f1.type = 3 := ⟨_, _, Tryz.underlying77, rfl, rfl, rfl, rfl⟩
theorem rangeCells : Tryz.prog.cellsOf 77 = 2 := by kernel_rfl
theorem intCells : Tryz.prog.cellsOf 3 = 1 := by kernel_rfl
theorem rangeBytes : Tryz.prog.bytesOf 77 = 16 := by kernel_rfl
end Go.Proofs.YtecmeeobabadeaaGreatDoor
namespace Go.Proofs.YtecmeeobabadeaaGreatDoor
open Go.ChangeShapes Go.WideShapes Go.ChangeAt Go.RowKit
set_option linter.unusedVariables false
theorem rgTypes6 : RgTypes Tryz.prog 23 77 3 :=
  ⟨Tryz.underlying23, rangeStruct, Tryz.underlying3, rangeCells, intCells, rangeBytes⟩
theorem ndTypes : NdTypes Tryz.prog 26 24 23 77 3 9 4 :=
  ⟨rgTypes6, ⟨_, _, _, _, _, _, _, _, Tryz.underlying26, ⟨rfl, rfl, rfl, rfl, rfl, rfl, rfl, rfl⟩, rfl, rfl, rfl, rfl, rfl, rfl, rfl, rfl⟩, Tryz.underlying24, Tryz.underlying9, Tryz.underlying4,
    ⟨by kernel_rfl, by kernel_rfl, by kernel_rfl, by kernel_rfl, by kernel_rfl, by kernel_rfl⟩, by kernel_rfl⟩
set_option maxRecDepth 100000 in
theorem open_node {H : Type} {enc : TypeId × Value → H} {W : World} {base : Nat} {v : Value} {d : DataW H} {p : List MemPlace} (hv : Value.okWide Tryz.prog W .any base 26 v)
    (h : DataW.Trod enc Tryz.prog W 0 (fun _ => true) true 26 v d p) (hs : ∀ n ∈ d.weights Tryz.prog 26, n ≤ reachBytes) : ∃ cs n, v = .agg cs.toArray ∧ NdIs W n cs := by
  obtain ⟨fuel, hf⟩ := h
  obtain ⟨cs, rfl, hsz⟩ := okWide_struct Tryz.underlying26 hv
  obtain ⟨n, hn⟩ := open_node_g ndTypes fuel hf hs
  exact ⟨cs.toList, n, by simp, hn⟩
end Go.Proofs.YtecmeeobabadeaaGreatDoor
