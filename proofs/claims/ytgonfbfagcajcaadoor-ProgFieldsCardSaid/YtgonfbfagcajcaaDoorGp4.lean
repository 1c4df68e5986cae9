/- Programs in memory: how one reads; an argument that is one, opened: over any program that has the types. · A row of instructions that is owned. -/
import Derived.Test.YtgonfbfagcajcaaDoorGp1
import Derived.Test.YtgonfbfagcajcaaDoorGp3
import Derived.Deep.AppendLies
namespace Go.Proofs.YtgonfbfagcajcaaDoor
open Go.ChangeShapes Go.WideShapes Go.ChangeAt Go.RowKit
set_option linter.unusedVariables false
namespace Pgm
def In.cs (i : In) : List Value := [.int .i64 i.op, .int .i64 i.lo, .int .i64 i.hi, .int .i64 i.x, .int .i64 i.y]
def In.v (i : In) : Value := .agg #[.int .i64 i.op, .int .i64 i.lo, .int .i64 i.hi, .int .i64 i.x, .int .i64 i.y]
def In.bd (i : In) : Prop := I64 i.op ∧ I64 i.lo ∧ I64 i.hi ∧ I64 i.x ∧ I64 i.y
instance : Inhabited In := ⟨⟨0, 0, 0, 0, 0⟩⟩
/-- A value that reads as a list of instructions. -/
def InRow (W : World) (v : Value) (l : List In) : Prop :=
  ∃ a cap, v = .slice a l.length cap ∧ l.length ≤ 3518437208883 ∧ (∀ i ∈ l, i.bd) ∧ ∀ j (h : j < l.length), ∃ b off, a = some ⟨b, off, none⟩ ∧ b < W.heap.size ∧ ∀ q, q < 5 → W.cell? ⟨b, off + j * 5 + q, none⟩ = l[j].cs[q]?
theorem InRow.nil (W : World) : InRow W (.slice none 0 0) [] := ⟨none, 0, rfl, by simp, by simp, fun j h => absurd h (by simp)⟩
theorem InRow.below {W W' : World} {v : Value} {l : List In} (h : InRow W v l) {B : Nat} (hB : W.heap.size ≤ B) (hb : Below B W W') : InRow W' v l := by
  obtain ⟨a, cap, hv, hl, hw, hc⟩ := h
  refine ⟨a, cap, hv, hl, hw, fun j hj => ?_⟩
  obtain ⟨b, off, ha, hlt, h1⟩ := hc j hj
  exact ⟨b, off, ha, Nat.lt_of_lt_of_le hlt hb.size, fun q hq => (hb.cell (p := ⟨b, off + j * 5 + q, none⟩) (by show b < B; omega)).trans (h1 q hq)⟩
/-- What is asked of a program's types. -/
structure PgTypes (P : Program) (tp tr ts ti : TypeId) : Prop where
  prog : ∃ f0 f1 f2 : Field, P.underlying tp = some (.struct #[f0, f1, f2]) ∧ (f0.offset = 0 ∧ f1.offset = 1 ∧ f2.offset = 2) ∧ (f0.type = tr ∧ f1.type = ti ∧ f2.type = ti)
  list : P.underlying tr = some (.slice ts)
  inst : ∃ f0 f1 f2 f3 f4 : Field, P.underlying ts = some (.struct #[f0, f1, f2, f3, f4]) ∧ (f0.offset = 0 ∧ f1.offset = 1 ∧ f2.offset = 2 ∧ f3.offset = 3 ∧ f4.offset = 4) ∧ (f0.type = ti ∧ f1.type = ti ∧ f2.type = ti ∧ f3.type = ti ∧ f4.type = ti)
  int : P.underlying ti = some (.int .i64)
  cells : P.cellsOf tp = 3 ∧ P.cellsOf tr = 1 ∧ P.cellsOf ts = 5 ∧ P.cellsOf ti = 1
  bytes : P.bytesOf ts = 40
theorem i64_of_wf {z : Int} (hz : (Lit.int .i64 z).wf = true) : I64 z := by
  have q1 : IntKind.i64.min = -9223372036854775808 := rfl
  have q2 : IntKind.i64.max = 9223372036854775807 := rfl
  simp [Lit.wf, q1, q2] at hz
  exact hz
theorem open_inst_g {H : Type} {enc : TypeId × Value → H} {P : Program} {tp tr ts ti : TypeId} (T : PgTypes P tp tr ts ti) {W : World} {fuel : Nat} {cs : List Value} {d : DataW H} {p : List MemPlace}
    (hf : DataW.trod enc P W 0 (fun _ => true) true fuel ts cs = some (d, p)) : ∃ i : In, cs = i.cs ∧ i.bd := by
  obtain ⟨f0, f1, f2, f3, f4, hn, ⟨o0, o1, o2, o3, o4⟩, t0, t1, t2, t3, t4⟩ := T.inst
  obtain ⟨_, _, c5, ci⟩ := T.cells
  obtain ⟨xs, m, rfl, hx, hcl, hxl, hfield⟩ := DataW.trod_struct hn hf
  rw [c5] at hcl
  have hxl5 : xs.length = 5 := by rw [hxl]; rfl
  match cs, hcl, xs, hxl5 with
  | [v0, v1, v2, v3, v4], _, [x0, x1, x2, x3, x4], _ =>
    have e0 := hfield 0 f0 rfl
    have e1 := hfield 1 f1 rfl
    have e2 := hfield 2 f2 rfl
    have e3 := hfield 3 f3 rfl
    have e4 := hfield 4 f4 rfl
    rw [o0, t0, ci] at e0; rw [o1, t1, ci] at e1; rw [o2, t2, ci] at e2; rw [o3, t3, ci] at e3; rw [o4, t4, ci] at e4
    simp only [List.drop_zero, List.drop_succ_cons, List.take_succ_cons, List.take_zero, List.getElem?_cons_zero, List.getElem?_cons_succ] at e0 e1 e2 e3 e4
    obtain ⟨z0, s0, _, w0⟩ := DataW.trod_int T.int e0
    obtain ⟨z1, s1, _, w1⟩ := DataW.trod_int T.int e1
    obtain ⟨z2, s2, _, w2⟩ := DataW.trod_int T.int e2
    obtain ⟨z3, s3, _, w3⟩ := DataW.trod_int T.int e3
    obtain ⟨z4, s4, _, w4⟩ := DataW.trod_int T.int e4
    simp only [List.cons.injEq, and_true] at s0 s1 s2 s3 s4
    subst s0; subst s1; subst s2; subst s3; subst s4
    exact ⟨⟨z0, z1, z2, z3, z4⟩, rfl, i64_of_wf w0, i64_of_wf w1, i64_of_wf w2, i64_of_wf w3, i64_of_wf w4⟩
end Pgm
end Go.Proofs.YtgonfbfagcajcaaDoor
namespace Go.Proofs.YtgonfbfagcajcaaDoor
open Go.RowKit
set_option linter.unusedVariables false
namespace Pgm
theorem infoInst : (Tryd.prog.info? 45).map (fun i => (i.zero, i.size, i.bytes)) = some (some (.agg #[.int .i64 0, .int .i64 0, .int .i64 0, .int .i64 0, .int .i64 0]), 5, 40) := by kernel_rfl
theorem underInsts : Tryd.prog.underlying 46 = some (.slice 45) := by kernel_rfl
def InOwn (W : World) (base : Nat) (v : Value) (l : List In) : Prop := W.ownsRow base 45 5 v l.length (l.flatMap In.cs)
theorem InOwn.nil (W : World) (base : Nat) : InOwn W base (.slice none 0 0) [] := World.ownsRow_nil _ _ _ _
theorem flatIn_at : ∀ (l : List In) (i : Nat) (x : In) (q : Nat), l[i]? = some x → q < 5 → (l.flatMap In.cs)[i * 5 + q]? = x.cs[q]?
  | [], i, x, q, h, _ => by simp at h
  | y :: l, 0, x, q, h, hq => by
    simp at h; subst h
    rw [List.flatMap_cons, List.getElem?_append_left (by show 0 * 5 + q < 5; omega)]; simp
  | y :: l, i + 1, x, q, h, hq => by
    rw [List.flatMap_cons, List.getElem?_append_right (by show 5 ≤ _; omega)]
    have : (i + 1) * 5 + q - y.cs.length = i * 5 + q := by show (i + 1) * 5 + q - 5 = _; omega
    rw [this]
    exact flatIn_at l i x q (by simpa using h) hq
theorem InOwn.slice {W : World} {base : Nat} {v : Value} {l : List In} (h : InOwn W base v l) : ∃ a cap, v = .slice a l.length cap := by
  rcases h.2 with ⟨e, e0⟩ | ⟨g, cap, cur, e, _⟩
  · exact ⟨none, 0, by rw [e, e0]⟩
  · exact ⟨_, _, e⟩
theorem InOwn.lt {W : World} {base : Nat} {v : Value} {l : List In} (h : InOwn W base v l) : ∀ b, v.ownBlock = some b → base ≤ b ∧ b < W.heap.size := fun b hb => World.ownsRow.lt h b hb
theorem InOwn.below {W W' : World} {base : Nat} {v : Value} {l : List In} (h : InOwn W base v l) {B : Nat} (hb : Below B W W') (hB : W.heap.size ≤ B) : InOwn W' base v l :=
  World.ownsRow.kept h (row := none) ⟨hb.os, hb.tape, hb.output, hb.size, fun k hk _ => hb.block k (Nat.lt_of_lt_of_le hk hB)⟩ (by cases hv : v.ownBlock <;> simp)
theorem InOwn.mono {W : World} {base base' : Nat} {v : Value} {l : List In} (h : InOwn W base v l) (hb : base' ≤ base) : InOwn W base' v l := by
  refine ⟨h.1, ?_⟩
  rcases h.2 with e | ⟨g, cap, cur, e, h1, h2⟩
  · exact .inl e
  · exact .inr ⟨g, cap, cur, e, Nat.le_trans hb h1, h2⟩
theorem InOwn.row {W : World} {base : Nat} {v : Value} {l : List In} (h : InOwn W base v l) (hl : l.length ≤ 1000000) (hb : ∀ i ∈ l, i.bd) : InRow W v l := by
  rcases h.2 with ⟨e, e0⟩ | ⟨g, cap, cur, e, hbg, hg, hnc, hcm, hcs, hz⟩
  · have := List.eq_nil_of_length_eq_zero e0
    subst this
    rw [e]; exact .nil W
  · refine ⟨_, cap, e, by omega, hb, fun j hj => ⟨g, 0, rfl, (Array.getElem?_eq_some_iff.1 hg).1, fun q hq => ?_⟩⟩
    have h9 := World.ownsRow.cellAt (e ▸ h : W.ownsRow base 45 5 (.slice (some ⟨g, 0, none⟩) l.length cap) l.length (l.flatMap In.cs)) (j * 5 + q) (by omega)
    rw [Nat.zero_add]
    exact h9.trans (flatIn_at l j l[j] q (List.getElem?_eq_getElem hj) hq)
theorem cs_one (i : In) : ∀ u ∈ i.cs, u.oneCell' = true := fun u hu => by
  simp only [In.cs, List.mem_cons, List.not_mem_nil, or_false] at hu
  rcases hu with rfl | rfl | rfl | rfl | rfl <;> rfl
/-- One instruction more. -/
theorem append_in (W : World) (base : Nat) (v : Value) (l : List In) (hv : InOwn W base v l) (hb0 : base ≤ W.heap.size) (hl : l.length ≤ 1000000) (i : In) (bt : Nat) (hnews : ∀ j u, i.cs[j]? = some u → W.cell? ((⟨bt, 0, none⟩ : Addr).add j) = some u) (c : Nat) :
    ∃ v' W', (Builtin.append_ #[46, 46] 46 #[v, .slice (some ⟨bt, 0, none⟩) 1 c]).run Tryd.prog W = .ok v' W' ∧ InOwn W' base v' (l ++ [i]) ∧ Below base W W' ∧ W.grownBy W' v.ownBlock := by
  obtain ⟨i0, hi, hz0, hz1, hz2⟩ := info_parts infoInst
  obtain ⟨gg, cap2, W2, hrun, hown, hgrow, hat, hlt2⟩ := run_append_lies (P := Tryd.prog) W 46 46 base 45 i0 _ 5 40 underInsts hi hz0 hz1 hz2 rfl (by omega) v _ _ hv
    ⟨bt, 0, none⟩ 1 c i.cs rfl hnews (cs_one i) (by omega) (by unfold maxLen; omega) (by omega) hb0 _ rfl
  refine ⟨_, _, hrun, ?_, (Below.refl base W).grown hgrow hb0 fun j ej => (World.ownsRow.lt hv j ej).1, hgrow⟩
  unfold InOwn
  rw [List.length_append, List.flatMap_append]
  simpa using hown
end Pgm
end Go.Proofs.YtgonfbfagcajcaaDoor
