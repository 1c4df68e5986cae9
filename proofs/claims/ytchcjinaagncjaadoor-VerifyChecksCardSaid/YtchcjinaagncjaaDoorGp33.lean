/- The landed prog: Show. · The landed prog: strings.Cut, strconv.Atoi; number, opOf. · The table of prog's operations, out of the datum that a row lists. · An argument that is a list of ranges, opened. -/
import Derived.Test.YtchcjinaagncjaaDoorGp8
import Derived.Deep.RegionHeld3
import Derived.Lib.ConvBytes
import Derived.LaidMore
import Derived.Stop.Joined
import Derived.Stop.LaidErr
import Derived.Lib.LaidTab
import Derived.Lib.AppendIntMem
import Derived.ProofKit
import Derived.OpenShut
import Derived.HandedShaped
import Derived.Handed
import Derived.Test.YtchcjinaagncjaaDoorGp2
import Derived.Deep.SlicePairs
import Derived.SizedLaws
import Derived.Lib.RowBridge
namespace Go.Proofs.YtchcjinaagncjaaDoor
open Go.RowKit
set_option linter.unusedVariables false
namespace Pgm
theorem wB_list (o : Nat) : (wB o).data.toList = wBytes (o : Int) := by simp [wB]
end Pgm
end Go.Proofs.YtchcjinaagncjaaDoor
namespace Go.Proofs.YtchcjinaagncjaaDoor
open Go.RowKit Go.Shelf
set_option linter.unusedVariables false
namespace Pgm
























































































theorem opAll_at (o q : Nat) (ho : o < 7) (hq : q < 9) : opAll[o * 9 + q]? = (opC o)[q]? := by
  have : o = 0 ∨ o = 1 ∨ o = 2 ∨ o = 3 ∨ o = 4 ∨ o = 5 ∨ o = 6 := by omega
  have h2 : q = 0 ∨ q = 1 ∨ q = 2 ∨ q = 3 ∨ q = 4 ∨ q = 5 ∨ q = 6 ∨ q = 7 ∨ q = 8 := by omega
  rcases this with rfl | rfl | rfl | rfl | rfl | rfl | rfl <;> rcases h2 with rfl | rfl | rfl | rfl | rfl | rfl | rfl | rfl | rfl <;> rfl
end Pgm
end Go.Proofs.YtchcjinaagncjaaDoor
namespace Go.Proofs.YtchcjinaagncjaaDoor
open Go.RowKit
set_option linter.unusedVariables false
namespace Pgm
section
variable {H : Type} {enc : TypeId × Value → H} {w : World} {base : Nat} {sp : Nat → Bool} {held : Bool} {fuel : Nat} {cs : List Value} {p : List MemPlace}
theorem pair_eq {a b : DataW H × List MemPlace} (h : a = b) : a.1 = b.1 := by rw [h]
set_option maxRecDepth 100000 in
theorem span_cells {a b : Int} (h : DataW.trod enc Tryd.prog w base sp held fuel 143 cs = some (.agg [.lit (.int .i64 a), .lit (.int .i64 b)], p)) : cs = [.int .i64 a, .int .i64 b] := by
  obtain ⟨f0, f1, hn, o0, o1, t0, t1⟩ : ∃ f0 f1 : Field, Tryd.prog.underlying 143 = some (.struct #[f0, f1]) ∧ f0.offset = 0 ∧ f1.offset = 1 ∧ f0.type = 3 ∧ f1.type = 3 := ⟨_, _, Tryd.underlying143, rfl, rfl, rfl, rfl⟩
  obtain ⟨xs, m, _, hx, hcl, hxl, hf⟩ := DataW.trod_struct hn h
  have hc2 : cs.length = 2 := hcl.trans (by kernel_rfl)
  have hx2 : xs.length = 2 := hxl.trans (by rfl)
  have ci : Tryd.prog.cellsOf 3 = 1 := by kernel_rfl
  match cs, hc2, xs, hx2 with
  | [u, v], _, [x0, x1], _ =>
    have e0 := hf 0 f0 rfl
    have e1 := hf 1 f1 rfl
    rw [o0, t0, ci] at e0
    rw [o1, t1, ci] at e1
    simp only [List.drop_zero, List.drop_succ_cons, List.take_succ_cons, List.take_zero, List.getElem?_cons_zero, List.getElem?_cons_succ] at e0 e1
    obtain ⟨z0, s0, y0, _⟩ := DataW.trod_int Tryd.underlying3 e0
    obtain ⟨z1, s1, y1, _⟩ := DataW.trod_int Tryd.underlying3 e1
    have hx1 := pair_eq hx
    simp only [List.map_cons, List.map_nil, DataW.agg.injEq, List.cons.injEq, and_true, y0, y1, DataW.lit.injEq, Lit.int.injEq, true_and] at hx1
    simp only [List.cons.injEq, and_true] at s0 s1
    rw [s0, s1, hx1.1, hx1.2]
/-- An operation's datum. -/
def opDat (o : Nat) : DataW H := .agg [.lit (.string (wBytes (o : Int))), .agg [.agg [.lit (.int .i64 (spA o 0)), .lit (.int .i64 (spB o 0))], .agg [.lit (.int .i64 (spA o 1)), .lit (.int .i64 (spB o 1))], .agg [.lit (.int .i64 (spA o 2)), .lit (.int .i64 (spB o 2))], .agg [.lit (.int .i64 (spA o 3)), .lit (.int .i64 (spB o 3))]]]
theorem spans_cells {d0 d1 d2 d3 e0 e1 e2 e3 : Int} (h : DataW.trod enc Tryd.prog w base sp held fuel 144 cs = some (.agg [.agg [.lit (.int .i64 d0), .lit (.int .i64 e0)], .agg [.lit (.int .i64 d1), .lit (.int .i64 e1)], .agg [.lit (.int .i64 d2), .lit (.int .i64 e2)], .agg [.lit (.int .i64 d3), .lit (.int .i64 e3)]], p)) :
    cs = [.int .i64 d0, .int .i64 e0, .int .i64 d1, .int .i64 e1, .int .i64 d2, .int .i64 e2, .int .i64 d3, .int .i64 e3] := by
  obtain ⟨xs, m, _, hx, hcl, hxl, hf⟩ := DataW.trod_array (n := 4) (e := 143) (by kernel_rfl) h
  have hc8 : cs.length = 8 := hcl.trans (by kernel_rfl)
  have ci : Tryd.prog.cellsOf 143 = 2 := by kernel_rfl
  rw [ci] at hf
  match cs, hc8, xs, hxl with
  | [a0, a1, a2, a3, a4, a5, a6, a7], _, [x0, x1, x2, x3], _ =>
    have hx1 := pair_eq hx
    simp only [List.map_cons, List.map_nil, DataW.agg.injEq, List.cons.injEq, and_true] at hx1
    obtain ⟨y0, y1, y2, y3⟩ := hx1
    have g : ∀ (x : DataW H × List MemPlace) (d : DataW H), d = x.1 → x = (d, x.2) := fun x d e => by rw [e]
    have k0 := hf 0 (by omega)
    have k1 := hf 1 (by omega)
    have k2 := hf 2 (by omega)
    have k3 := hf 3 (by omega)
    simp only [List.drop_zero, Nat.reduceMul, List.drop_succ_cons, List.take_succ_cons, List.take_zero, List.getElem?_cons_zero, List.getElem?_cons_succ, Nat.zero_mul, Nat.one_mul] at k0 k1 k2 k3
    rw [g x0 _ y0] at k0
    rw [g x1 _ y1] at k1
    rw [g x2 _ y2] at k2
    rw [g x3 _ y3] at k3
    have r0 := span_cells k0
    have r1 := span_cells k1
    have r2 := span_cells k2
    have r3 := span_cells k3
    simp only [List.cons.injEq, and_true] at r0 r1 r2 r3
    rw [r0.1, r0.2, r1.1, r1.2, r2.1, r2.2, r3.1, r3.2]
set_option maxRecDepth 100000 in
theorem op_cells {o : Nat} (h : DataW.trod enc Tryd.prog w base sp held fuel 146 cs = some (opDat o, p)) : cs = opC o := by
  obtain ⟨f0, f1, hn, o0, o1, t0, t1⟩ : ∃ f0 f1 : Field, Tryd.prog.underlying 146 = some (.struct #[f0, f1]) ∧ f0.offset = 0 ∧ f1.offset = 1 ∧ f0.type = 9 ∧ f1.type = 144 := ⟨_, _, Tryd.underlying146, rfl, rfl, rfl, rfl⟩
  obtain ⟨xs, m, _, hx, hcl, hxl, hf⟩ := DataW.trod_struct hn h
  have hc9 : cs.length = 9 := hcl.trans (by kernel_rfl)
  have hx2 : xs.length = 2 := hxl.trans (by rfl)
  have ci : Tryd.prog.cellsOf 9 = 1 := by kernel_rfl
  have ck : Tryd.prog.cellsOf 144 = 8 := by kernel_rfl
  match cs, hc9, xs, hx2 with
  | u :: v, hc, [x0, x1], _ =>
    have hv : v.length = 8 := by simpa using hc
    have e0 := hf 0 f0 rfl
    have e1 := hf 1 f1 rfl
    rw [o0, t0, ci] at e0
    rw [o1, t1, ck] at e1
    simp only [List.drop_zero, List.drop_succ_cons, List.take_succ_cons, List.take_zero, List.getElem?_cons_zero, List.getElem?_cons_succ] at e0 e1
    rw [List.take_of_length_le (by omega)] at e1
    obtain ⟨s0, q0, y0, _⟩ := DataW.trod_string Tryd.underlying9 e0
    have hx1 := pair_eq hx
    unfold opDat at hx1
    simp only [List.map_cons, List.map_nil, DataW.agg.injEq, List.cons.injEq, and_true, y0, DataW.lit.injEq, Lit.string.injEq] at hx1
    have g : ∀ (x : DataW H × List MemPlace) (d : DataW H), d = x.1 → x = (d, x.2) := fun x d e => by rw [e]
    rw [g x1 _ hx1.2] at e1
    have r := spans_cells e1
    simp only [List.cons.injEq, and_true] at q0
    have hs : s0 = wB o := by
      apply ByteArray.ext
      apply Array.toList_inj.1
      rw [wB_list, hx1.1]
    rw [q0, r, hs]
    rfl
theorem ops_cells (h : DataW.trod enc Tryd.prog w base sp held fuel 147 cs = some (.agg ((List.range 7).map opDat), p)) : cs = opAll := by
  obtain ⟨xs, m, _, hx, hcl, hxl, hf⟩ := DataW.trod_array (n := 7) (e := 146) (by kernel_rfl) h
  have hcn : cs.length = 63 := hcl.trans (by kernel_rfl)
  have ci : Tryd.prog.cellsOf 146 = 9 := by kernel_rfl
  rw [ci] at hf
  have hx1 := pair_eq hx
  simp only [DataW.agg.injEq] at hx1
  have hk : ∀ i, i < 7 → (cs.drop (i * 9)).take 9 = opC i := fun i hi => by
    have h1 := hf i hi
    have h2 : (xs.map (·.1))[i]? = some (opDat i) := by rw [← hx1]; simp [hi]
    rw [List.getElem?_map, Option.map_eq_some_iff] at h2
    obtain ⟨x, h3, h4⟩ := h2
    rw [h3, show x = (opDat i, x.2) by rw [← h4]] at h1
    exact op_cells h1
  apply List.ext_getElem?
  intro k
  by_cases hk63 : k < 63
  · have e : k / 9 * 9 + k % 9 = k := by omega
    have h1 := congrArg (·[k % 9]?) (hk (k / 9) (by omega))
    simp only [List.getElem?_take_of_lt (show k % 9 < 9 by omega), List.getElem?_drop] at h1
    rw [e] at h1
    have h2 := opAll_at (k / 9) (k % 9) (by omega) (by omega)
    rw [e] at h2
    rw [h1, h2]
  · rw [List.getElem?_eq_none (by omega), List.getElem?_eq_none (by show opAll.length ≤ k; rw [show opAll.length = 63 by kernel_rfl]; omega)]
end
theorem laid_ops14 : (Rows.laid_burin_prog_operations : DataW Unit) = .agg ((List.range 7).map opDat) := by kernel_rfl
theorem evO_of {W : World} (h : laidMet Tryd.prog [("burin/prog.operations", Rows.laid_burin_prog_operations)] W) : EvO W := by
  rw [laid_ops14] at h
  obtain ⟨ps, ⟨g', t', cs, fuel, p, q, hg', ht', hvar, hd, _, _⟩, _⟩ := h
  obtain rfl := Option.some.inj ((show Tryd.prog.globalNamed "burin/prog.operations" = some 1 by kernel_rfl).symm.trans hg')
  obtain rfl := Option.some.inj ((show (Tryd.prog.globals[1]?).map (·.type) = some 147 by kernel_rfl).symm.trans ht')
  have hc := ops_cells hd
  obtain rfl : cs = opAll.toArray := by rw [← hc]
  have hblk : ∃ t fr, W.heap[1]? = some (.cells opAll.toArray t fr) := by
    simp only [World.var?, hg', Option.bind_some] at hvar
    split at hvar
    · rename_i c t f hh
      simp only [Option.some.injEq] at hvar
      subst hvar
      exact ⟨t, f, hh⟩
    · cases hvar
  refine ⟨?_, fun o q ho hq => ?_, hblk⟩
  · obtain ⟨t, fr, hh⟩ := hblk
    exact (Array.getElem?_eq_some_iff.1 hh).1
  · rw [World.var?_cell hg' hvar, List.getElem?_toArray]
    exact opAll_at o q ho hq
end Pgm
end Go.Proofs.YtchcjinaagncjaaDoor
namespace Go.Proofs.YtchcjinaagncjaaDoor
open Go.ChangeShapes Go.WideShapes Go.ChangeAt Go.RowKit
set_option linter.unusedVariables false
theorem laidOut : laidOutB Tryd.prog = true := by kernel_rfl
end Go.Proofs.YtchcjinaagncjaaDoor
