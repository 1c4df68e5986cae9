/- A tree that is small has few nodes: from Great's 'no' to the bounds of All. · An argument that is a list of ranges, opened. · An argument that is a tree, opened over this program. -/
import Derived.Test.YtcomjkoaieeidaaGp9
import Derived.Test.YtcomjkoaieeidaaGp7
import Derived.Test.YtcomjkoaieeidaaGp4
import Derived.Deep.SlicePairs
import Derived.ProofKit
import Derived.SizedLaws
import Derived.Lib.RowBridge
import Derived.Test.YtcomjkoaieeidaaGp6
namespace Go.Proofs.Ytcomjkoaieeidaa
set_option linter.unusedVariables false
namespace Td
theorem flat_sum_le (f : Nd → List (Nat × Nd)) (g : Nd → Nat) : ∀ (l : List Nd), (∀ m ∈ l, (f m).length ≤ g m) → (l.flatMap f).length ≤ (l.map g).sum
  | [], _ => by simp
  | m :: l, h => by
    have h1 := h m (by simp)
    have h2 := flat_sum_le f g l (fun x hx => h x (List.mem_cons_of_mem _ hx))
    rw [List.flatMap_cons, List.length_append, List.map_cons, List.sum_cons]; omega
theorem all_le_wgt : ∀ (k j d : Nat) (n : Nd), fit k n → (all j d n).length ≤ wgt k n
  | 0, _, _, _, h => h.elim
  | k + 1, 0, _, _, _ => by simp [all]
  | k + 1, j + 1, d, n, h => by
    rw [all, wgt, List.length_cons]
    have := flat_sum_le (all j (d + 1)) (wgt k) (subs n) (fun m hm => all_le_wgt k j (d + 1) m (h.2.2.2 m hm))
    omega
theorem all_small (n : Nd) (most : Int) (hm : most ≤ 1000000) (h : (wgt 40 n : Int) ≤ most ∧ fit 40 n) (d : Nat) : (all 1000 d n).length ≤ 1000000 := by
  have := all_le_wgt 40 1000 d n h.2
  omega
/-- The depth of a tree that is no deeper than k. -/
theorem dep_fit : ∀ (k j : Nat) (n : Nd), fit k n → dep j n ≤ k
  | 0, _, _, h => h.elim
  | k + 1, 0, _, _ => by simp [dep]
  | k + 1, j + 1, n, h => by
    rw [dep]
    have := foldl_max_le ((subs n).map (dep j)) 0 k (fun x hx => by
      obtain ⟨m, hm, rfl⟩ := List.mem_map.1 hx
      exact dep_fit k j m (h.2.2.2 m hm)) (by omega)
    omega
end Td
end Go.Proofs.Ytcomjkoaieeidaa
namespace Go.Proofs.Ytcomjkoaieeidaa
open Go.ChangeShapes Go.WideShapes Go.ChangeAt Go.RowKit
set_option linter.unusedVariables false
theorem laidOut : laidOutB Try.prog = true := by kernel_rfl
theorem rangeStruct : ∃ f0 f1 : Field, Try.prog.underlying 50 = some (.struct #[f0, f1]) ∧ f0.offset = 0 ∧ f1.offset = 1 ∧ f0.type = 3 ∧ f1.type = 3 := ⟨_, _, Try.underlying50, rfl, rfl, rfl, rfl⟩
theorem rangeCells : Try.prog.cellsOf 50 = 2 := by kernel_rfl
theorem intCells : Try.prog.cellsOf 3 = 1 := by kernel_rfl
theorem rangeBytes : Try.prog.bytesOf 50 = 16 := by kernel_rfl
theorem choose_pairs {α : Type} {n : Nat} {p : Nat → α → Prop} [Inhabited α] (h : ∀ i, i < n → ∃ x, p i x) : ∃ f : Nat → α, ∀ i, i < n → p i (f i) := by
  classical
  exact ⟨fun i => if hi : i < n then (h i hi).choose else default, fun i hi => by simp only [dif_pos hi]; exact (h i hi).choose_spec⟩
set_option maxRecDepth 100000 in
theorem open_ranges {H : Type} {enc : TypeId × Value → H} {W : World} {base : Nat} {v : Value} {d : DataW H} {p : List MemPlace} (hv : Value.okWide Try.prog W .any base 22 v)
    (h : DataW.Trod enc Try.prog W 0 (fun _ => true) true 22 v d p) (hs : ∀ elems spare, d = .slice elems spare → (elems.length + spare.length) * 16 ≤ 140737488351232) : ∃ l, RRow W v l := by
  obtain ⟨fuel, hf⟩ := h
  obtain ⟨f0, f1, he, o0, o1, t0, t1⟩ := rangeStruct
  obtain ⟨a0, len0, cap0, rfl⟩ := okWide_slice Try.underlying22 hv
  rcases Deep.open_slice_pairs Try.underlying22 he rangeCells o0 o1 (by rw [t0]; exact intCells) (by rw [t1]; exact intCells) hf with ⟨hcs, hx⟩ | ⟨a, len, cap, m, n, V0, V1, D0, D1, P0, P1, hcs, hb, hl, hm, hmm, hx, hi⟩
  · simp [Value.cells] at hcs
    obtain ⟨rfl, rfl, rfl⟩ := hcs
    exact ⟨[], RRow.nil W⟩
  · simp [Value.cells] at hcs
    obtain ⟨rfl, rfl, rfl⟩ := hcs
    simp only [if_true] at hmm
    subst hmm
    simp only [Prod.mk.injEq] at hx
    have hsz := hs _ _ hx.1
    simp only [List.length_map, List.length_range] at hsz
    have each : ∀ i, i < m → ∃ x : Int × Int, V0 i = .int .i64 x.1 ∧ V1 i = .int .i64 x.2 ∧ (Lit.int .i64 x.1).wf = true ∧ (Lit.int .i64 x.2).wf = true := by
      intro i him
      obtain ⟨_, _, h3, h4⟩ := hi i him
      rw [t0] at h3
      rw [t1] at h4
      obtain ⟨z0, e0, _, w0⟩ := DataW.trod_int Try.underlying3 h3
      obtain ⟨z1, e1, _, w1⟩ := DataW.trod_int Try.underlying3 h4
      exact ⟨(z0, z1), by simpa using e0, by simpa using e1, w0, w1⟩
    obtain ⟨f, hf2⟩ := choose_pairs each
    refine ⟨(List.range len0).map f, _, _, by rw [List.length_map, List.length_range], by rw [List.length_map, List.length_range]; omega, fun q hq => ?_, fun j hj => ?_⟩
    · obtain ⟨i, hir, rfl⟩ := List.mem_map.1 hq
      have hil := List.mem_range.1 hir
      obtain ⟨_, _, w0, w1⟩ := hf2 i (by omega)
      have h1 : IntKind.i64.min = -9223372036854775808 := rfl
      have h2 : IntKind.i64.max = 9223372036854775807 := rfl
      simp [Lit.wf, h1, h2] at w0 w1
      omega
    · rw [List.length_map, List.length_range] at hj
      obtain ⟨c0, c1, _, _⟩ := hi j (by omega)
      obtain ⟨b, off, spot⟩ := a
      have hspot : spot = none := by simpa [Addr.add] using World.cell?_spot (hi 0 (by omega)).1
      subst hspot
      obtain ⟨e0, e1, _, _⟩ := hf2 j (by omega)
      rw [e0, add_plain] at c0
      rw [e1, add_plain] at c1
      have hg : ((List.range len0).map f)[j]?.getD (0, 0) = f j := by simp [hj]
      rw [hg]
      exact ⟨b, off, rfl, World.block_lt_of_cell? W _ c0, c0, by rw [Nat.add_assoc]; exact c1⟩
end Go.Proofs.Ytcomjkoaieeidaa
namespace Go.Proofs.Ytcomjkoaieeidaa
open Go.ChangeShapes Go.WideShapes Go.ChangeAt Go.RowKit
set_option linter.unusedVariables false
theorem rgTypes6 : RgTypes Try.prog 22 50 3 :=
  ⟨Try.underlying22, rangeStruct, Try.underlying3, rangeCells, intCells, rangeBytes⟩
theorem ndTypes : NdTypes Try.prog 25 23 22 50 3 9 4 :=
  ⟨rgTypes6, ⟨_, _, _, _, _, _, _, _, Try.underlying25, ⟨rfl, rfl, rfl, rfl, rfl, rfl, rfl, rfl⟩, rfl, rfl, rfl, rfl, rfl, rfl, rfl, rfl⟩, Try.underlying23, Try.underlying9, Try.underlying4,
    ⟨by kernel_rfl, by kernel_rfl, by kernel_rfl, by kernel_rfl, by kernel_rfl, by kernel_rfl⟩, by kernel_rfl⟩
set_option maxRecDepth 100000 in
theorem open_node {H : Type} {enc : TypeId × Value → H} {W : World} {base : Nat} {v : Value} {d : DataW H} {p : List MemPlace} (hv : Value.okWide Try.prog W .any base 25 v)
    (h : DataW.Trod enc Try.prog W 0 (fun _ => true) true 25 v d p) (hs : ∀ n ∈ d.weights Try.prog 25, n ≤ reachBytes) : ∃ cs n, v = .agg cs.toArray ∧ NdIs W n cs := by
  obtain ⟨fuel, hf⟩ := h
  obtain ⟨cs, rfl, hsz⟩ := okWide_struct Try.underlying25 hv
  obtain ⟨n, hn⟩ := open_node_g ndTypes fuel hf hs
  exact ⟨cs.toList, n, by simp, hn⟩
end Go.Proofs.Ytcomjkoaieeidaa
