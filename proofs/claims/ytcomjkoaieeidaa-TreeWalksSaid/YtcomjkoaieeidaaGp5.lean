/- Arguments that are lists of ranges, or lists of such lists, opened: over any program that has the types. -/
import Derived.Test.YtcomjkoaieeidaaGp4
import Derived.Deep.SlicePairs
import Derived.ProofKit
import Derived.SizedLaws
import Derived.Lib.RowBridge
namespace Go.Proofs.Ytcomjkoaieeidaa
open Go.ChangeShapes Go.WideShapes Go.ChangeAt Go.RowKit
set_option linter.unusedVariables false
theorem choose_each {α : Type} {n : Nat} {p : Nat → α → Prop} [Inhabited α] (h : ∀ i, i < n → ∃ x, p i x) : ∃ f : Nat → α, ∀ i, i < n → p i (f i) := by
  classical
  exact ⟨fun i => if hi : i < n then (h i hi).choose else default, fun i hi => by simp only [dif_pos hi]; exact (h i hi).choose_spec⟩
/-- What is asked of a program's types: a list of pairs of integers. -/
structure RgTypes (P : Program) (tr ts ti : TypeId) : Prop where
  list : P.underlying tr = some (.slice ts)
  pair : ∃ f0 f1 : Field, P.underlying ts = some (.struct #[f0, f1]) ∧ f0.offset = 0 ∧ f1.offset = 1 ∧ f0.type = ti ∧ f1.type = ti
  int : P.underlying ti = some (.int .i64)
  cells : P.cellsOf ts = 2
  one : P.cellsOf ti = 1
  bytes : P.bytesOf ts = 16
theorem open_ranges_g {H : Type} {enc : TypeId × Value → H} {P : Program} {tr ts ti : TypeId} (T : RgTypes P tr ts ti) {W : World} {fuel : Nat} {u : Value} {d : DataW H} {p : List MemPlace}
    (hf : DataW.trod enc P W 0 (fun _ => true) true fuel tr [u] = some (d, p)) (hw : ∀ n ∈ d.weights P tr, n ≤ reachBytes) : ∃ l, RRow W u l := by
  obtain ⟨f0, f1, he, o0, o1, t0, t1⟩ := T.pair
  rcases Deep.open_slice_pairs T.list he T.cells o0 o1 (by rw [t0]; exact T.one) (by rw [t1]; exact T.one) hf with ⟨hcs, hx⟩ | ⟨a, len, cap, m, n, V0, V1, D0, D1, P0, P1, hcs, hb, hl, hm, hmm, hx, hi⟩
  · simp at hcs
    subst hcs
    exact ⟨[], RRow.nil W⟩
  · simp at hcs
    subst hcs
    simp only [if_true] at hmm
    subst hmm
    simp only [Prod.mk.injEq] at hx
    have hsz := hw (((((List.range len).map fun i => DataW.agg [D0 i, D1 i]).length + ((List.range (m - len)).map fun j => DataW.agg [D0 (len + j), D1 (len + j)]).length)) * P.bytesOf ts) (by rw [hx.1]; simp [DataW.weights, T.list])
    rw [T.bytes] at hsz
    simp only [List.length_map, List.length_range, reachBytes] at hsz
    have each : ∀ i, i < m → ∃ x : Int × Int, V0 i = .int .i64 x.1 ∧ V1 i = .int .i64 x.2 ∧ (Lit.int .i64 x.1).wf = true ∧ (Lit.int .i64 x.2).wf = true := by
      intro i him
      obtain ⟨_, _, h3, h4⟩ := hi i him
      rw [t0] at h3
      rw [t1] at h4
      obtain ⟨z0, e0, _, w0⟩ := DataW.trod_int T.int h3
      obtain ⟨z1, e1, _, w1⟩ := DataW.trod_int T.int h4
      exact ⟨(z0, z1), by simpa using e0, by simpa using e1, w0, w1⟩
    obtain ⟨f, hf2⟩ := choose_each each
    refine ⟨(List.range len).map f, _, _, by rw [List.length_map, List.length_range], by rw [List.length_map, List.length_range]; omega, fun q hq => ?_, fun j hj => ?_⟩
    · obtain ⟨i, hir, rfl⟩ := List.mem_map.1 hq
      have hil := List.mem_range.1 hir
      obtain ⟨_, _, w0, w1⟩ := hf2 i (by omega)
      have h1 : IntKind.i64.min = -9223372036854775808 := rfl
      have h2 : IntKind.i64.max = 9223372036854775807 := rfl
      simp [Lit.wf, h1, h2] at w0 w1
      omega
    · rw [List.length_map, List.length_range] at hj
      obtain ⟨c0, c1, _, _⟩ := hi j (by omega)
      obtain ⟨b, off, spot⟩ := a
      have hspot : spot = none := by simpa [Addr.add] using World.cell?_spot (hi 0 (by omega)).1
      subst hspot
      obtain ⟨e0, e1, _, _⟩ := hf2 j (by omega)
      rw [e0, add_plain] at c0
      rw [e1, add_plain] at c1
      have hg : ((List.range len).map f)[j]?.getD (0, 0) = f j := by simp [hj]
      rw [hg]
      exact ⟨b, off, rfl, World.block_lt_of_cell? W _ c0, c0, by rw [Nat.add_assoc]; exact c1⟩
theorem weights_all {H : Type} {P : Program} {e : TypeId} : ∀ {ds : List (DataW H)} {d : DataW H}, d ∈ ds → ∀ n ∈ d.weights P e, n ∈ DataW.weightsAll P e ds
  | [], d, h, n, hn => by cases h
  | x :: ds, d, h, n, hn => by
    simp only [DataW.weightsAll, List.mem_append]
    rcases List.mem_cons.1 h with rfl | h
    · exact .inl hn
    · exact .inr (weights_all h n hn)
/-- A list of lists of ranges, opened. -/
theorem open_seqs_g {H : Type} {enc : TypeId × Value → H} {P : Program} {tq tr ts ti : TypeId} (T : RgTypes P tr ts ti) (hq : P.underlying tq = some (.slice tr)) (cr : P.cellsOf tr = 1) (br : P.bytesOf tr = 24) {W : World} {fuel : Nat} {u : Value} {d : DataW H} {p : List MemPlace}
    (hf : DataW.trod enc P W 0 (fun _ => true) true fuel tq [u] = some (d, p)) (hw : ∀ n ∈ d.weights P tq, n ≤ reachBytes) : ∃ L, QRow W u L := by
  rcases DataW.trod_slice hq hf with ⟨hcs, hx⟩ | ⟨a, len, cap, elems, rest, n, rfl, hcs, hx, hb, hl, hm, hel, hi, _, _⟩
  · simp at hcs
    subst hcs
    exact ⟨[], none, 0, rfl, by simp, fun j hj => by simp at hj⟩
  · simp at hcs
    subst hcs
    simp only [Prod.mk.injEq] at hx
    rw [hx.1] at hw
    have hsz := hw (((elems.map (·.1)).length + (rest.map (·.1)).length) * P.bytesOf tr) (by simp [DataW.weights, hq])
    rw [br] at hsz
    simp only [List.length_map, reachBytes] at hsz
    have each : ∀ i, i < len → ∃ x : Value × List (Int × Int), W.cell? (a.add i) = some x.1 ∧ RRow W x.1 x.2 := by
      intro i hil
      have h1 := hi i hil
      rw [cr, Nat.mul_one] at h1
      have hei : i < elems.length := by omega
      rw [List.getElem?_eq_getElem hei] at h1
      rw [Option.bind_eq_some_iff] at h1
      obtain ⟨cs, hcs, htr⟩ := h1
      have e0 : (a.add i).add 0 = a.add i := by simp [Addr.add]
      have : ∃ c, cs = [c] ∧ W.cell? (a.add i) = some c := by
        unfold World.cells? at hcs
        split at hcs
        · simp only [List.range_succ, List.range_zero, List.nil_append, List.mapM_cons, List.mapM_nil, e0] at hcs
          cases hcc : W.cell? (a.add i) with
          | none => simp [hcc] at hcs
          | some c => simp [hcc] at hcs; exact ⟨c, hcs.symm, rfl⟩
        · cases hcs
      obtain ⟨c, rfl, hcell⟩ := this
      obtain ⟨l, hl⟩ := open_ranges_g T (d := elems[i].1) (p := elems[i].2) htr (fun n hn => hw n (by
        simp only [DataW.weights, hq, List.mem_cons, List.mem_append]
        exact .inr (.inl (weights_all (List.mem_map.2 ⟨elems[i], List.getElem_mem _, rfl⟩) n hn))))
      exact ⟨(c, l), hcell, hl⟩
    obtain ⟨f, hf2⟩ := choose_each each
    refine ⟨(List.range len).map fun i => (f i).2, some a, cap, by rw [List.length_map, List.length_range], by rw [List.length_map, List.length_range]; omega, fun j hj => ?_⟩
    rw [List.length_map, List.length_range] at hj
    obtain ⟨c0, r0⟩ := hf2 j hj
    obtain ⟨b, off, spot⟩ := a
    have hspot : spot = none := by simpa [Addr.add] using World.cell?_spot (hf2 0 (by omega)).1
    subst hspot
    rw [add_plain] at c0
    have hg : ((List.range len).map fun i => (f i).2)[j]?.getD [] = (f j).2 := by simp [hj]
    rw [hg]
    exact ⟨b, off, _, rfl, World.block_lt_of_cell? W _ c0, c0, r0⟩
end Go.Proofs.Ytcomjkoaieeidaa
