/- Trees of patterns in memory (api.Node): how one reads; an argument that is one, opened: over any program that has the types. · Programs in memory: how one reads; an argument that is one, opened: over any program that has the types. -/
import Derived.Test.YtchcjinaagncjaaDoorGp2
import Derived.Lib.LaidTab
import Derived.Test.YtchcjinaagncjaaDoorGp1
namespace Go.Proofs.YtchcjinaagncjaaDoor
open Go.ChangeShapes Go.WideShapes Go.ChangeAt Go.RowKit
set_option linter.unusedVariables false
/-- A tree. -/
inductive Nd where
  | mk (kind : Int) (set : List (Int × Int)) (num : Int) (name : ByteArray) (mn mx : Int) (lazy : Bool) (subs : List Nd) : Nd
def I64 (x : Int) : Prop := -9223372036854775808 ≤ x ∧ x ≤ 9223372036854775807
/-- Eight cells that read as a tree; its parts lie in a row, eight cells each. -/
inductive NdIs (W : World) : Nd → List Value → Prop where
  | mk {k num mn mx : Int} {set : List (Int × Int)} {name : ByteArray} {lz : Bool} {subs : List Nd} {vs : Value} {a : Option Addr} {cap : Nat} (cs : Nat → List Value)
      (hk : I64 k ∧ I64 num ∧ I64 mn ∧ I64 mx) (hset : RRow W vs set) (hname : name.size ≤ 140737488351232) (hlen : subs.length ≤ 8796093022208)
      (hrow : ∀ j, j < subs.length → ∃ b off, a = some ⟨b, off, none⟩ ∧ b < W.heap.size ∧ (cs j).length = 8 ∧ ∀ i, i < 8 → W.cell? ⟨b, off + j * 8 + i, none⟩ = (cs j)[i]?)
      (hsub : ∀ j (h : j < subs.length), NdIs W subs[j] (cs j)) :
      NdIs W (.mk k set num name mn mx lz subs) [.int .i64 k, vs, .int .i64 num, .string name, .int .i64 mn, .int .i64 mx, .bool lz, .slice a subs.length cap]
theorem NdIs.kept {W W' : World} (hb : Below W.heap.size W W') : ∀ {n : Nd} {cs : List Value}, NdIs W n cs → NdIs W' n cs := by
  intro n cs h
  induction h with
  | mk cs hk hset hname hlen hrow hsub ih =>
    refine .mk cs hk (hset.below (Nat.le_refl _) hb) hname hlen (fun j hj => ?_) ih
    obtain ⟨b, off, ha, hlt, hl, hc⟩ := hrow j hj
    exact ⟨b, off, ha, Nat.lt_of_lt_of_le hlt hb.size, hl, fun i hi => (hb.cell (p := ⟨b, off + j * 8 + i, none⟩) hlt).trans (hc i hi)⟩
theorem NdIs.len {W : World} {n : Nd} {cs : List Value} (h : NdIs W n cs) : cs.length = 8 := by cases h; rfl
/-- What is asked of a program's types. -/
structure NdTypes (P : Program) (tn tns tr ts ti tstr tb : TypeId) : Prop where
  rg : RgTypes P tr ts ti
  node : ∃ f0 f1 f2 f3 f4 f5 f6 f7 : Field, P.underlying tn = some (.struct #[f0, f1, f2, f3, f4, f5, f6, f7]) ∧ (f0.offset = 0 ∧ f1.offset = 1 ∧ f2.offset = 2 ∧ f3.offset = 3 ∧ f4.offset = 4 ∧ f5.offset = 5 ∧ f6.offset = 6 ∧ f7.offset = 7) ∧
    (f0.type = ti ∧ f1.type = tr ∧ f2.type = ti ∧ f3.type = tstr ∧ f4.type = ti ∧ f5.type = ti ∧ f6.type = tb ∧ f7.type = tns)
  list : P.underlying tns = some (.slice tn)
  str : P.underlying tstr = some .string
  bool : P.underlying tb = some .bool
  cells : P.cellsOf tn = 8 ∧ P.cellsOf tr = 1 ∧ P.cellsOf ti = 1 ∧ P.cellsOf tstr = 1 ∧ P.cellsOf tb = 1 ∧ P.cellsOf tns = 1
  bytes : P.bytesOf tn = 104
theorem weights_each {H : Type} {P : Program} {ts : List TypeId} {ds : List (DataW H)} {j : Nat} {t : TypeId} {d : DataW H} (ht : ts[j]? = some t) (hd : ds[j]? = some d) : ∀ n ∈ d.weights P t, n ∈ DataW.weightsEach P ts ds := DataW.weights_mem_each ht hd
theorem cells_all {W : World} {base : Nat} {a : Addr} {n : Nat} {cs : List Value} (h : W.cells? base a n = some cs) : cs.length = n ∧ ∀ i, i < n → W.cell? (a.add i) = cs[i]? := by
  unfold World.cells? at h
  split at h
  · refine ⟨?_, fun i hi => ?_⟩
    · have := Lib.mapM_length h; simpa using this
    · obtain ⟨b, hb, hf⟩ := Lib.mapM_at h i i (by simp [hi])
      rw [hb]; exact hf
  · cases h
end Go.Proofs.YtchcjinaagncjaaDoor
namespace Go.Proofs.YtchcjinaagncjaaDoor
open Go.ChangeShapes Go.WideShapes Go.ChangeAt Go.RowKit
set_option linter.unusedVariables false
namespace Pgm
def In.cs (i : In) : List Value := [.int .i64 i.op, .int .i64 i.lo, .int .i64 i.hi, .int .i64 i.x, .int .i64 i.y]
def In.v (i : In) : Value := .agg #[.int .i64 i.op, .int .i64 i.lo, .int .i64 i.hi, .int .i64 i.x, .int .i64 i.y]
def In.bd (i : In) : Prop := I64 i.op ∧ I64 i.lo ∧ I64 i.hi ∧ I64 i.x ∧ I64 i.y
instance : Inhabited In := ⟨⟨0, 0, 0, 0, 0⟩⟩
/-- A value that reads as a list of instructions. -/
def InRow (W : World) (v : Value) (l : List In) : Prop :=
  ∃ a cap, v = .slice a l.length cap ∧ l.length ≤ 3518437208883 ∧ (∀ i ∈ l, i.bd) ∧ ∀ j (h : j < l.length), ∃ b off, a = some ⟨b, off, none⟩ ∧ b < W.heap.size ∧ ∀ q, q < 5 → W.cell? ⟨b, off + j * 5 + q, none⟩ = l[j].cs[q]?
theorem InRow.nil (W : World) : InRow W (.slice none 0 0) [] := ⟨none, 0, rfl, by simp, by simp, fun j h => absurd h (by simp)⟩
theorem InRow.below {W W' : World} {v : Value} {l : List In} (h : InRow W v l) {B : Nat} (hB : W.heap.size ≤ B) (hb : Below B W W') : InRow W' v l := by
  obtain ⟨a, cap, hv, hl, hw, hc⟩ := h
  refine ⟨a, cap, hv, hl, hw, fun j hj => ?_⟩
  obtain ⟨b, off, ha, hlt, h1⟩ := hc j hj
  exact ⟨b, off, ha, Nat.lt_of_lt_of_le hlt hb.size, fun q hq => (hb.cell (p := ⟨b, off + j * 5 + q, none⟩) (by show b < B; omega)).trans (h1 q hq)⟩
/-- What is asked of a program's types. -/
structure PgTypes (P : Program) (tp tr ts ti : TypeId) : Prop where
  prog : ∃ f0 f1 f2 : Field, P.underlying tp = some (.struct #[f0, f1, f2]) ∧ (f0.offset = 0 ∧ f1.offset = 1 ∧ f2.offset = 2) ∧ (f0.type = tr ∧ f1.type = ti ∧ f2.type = ti)
  list : P.underlying tr = some (.slice ts)
  inst : ∃ f0 f1 f2 f3 f4 : Field, P.underlying ts = some (.struct #[f0, f1, f2, f3, f4]) ∧ (f0.offset = 0 ∧ f1.offset = 1 ∧ f2.offset = 2 ∧ f3.offset = 3 ∧ f4.offset = 4) ∧ (f0.type = ti ∧ f1.type = ti ∧ f2.type = ti ∧ f3.type = ti ∧ f4.type = ti)
  int : P.underlying ti = some (.int .i64)
  cells : P.cellsOf tp = 3 ∧ P.cellsOf tr = 1 ∧ P.cellsOf ts = 5 ∧ P.cellsOf ti = 1
  bytes : P.bytesOf ts = 40
theorem i64_of_wf {z : Int} (hz : (Lit.int .i64 z).wf = true) : I64 z := by
  have q1 : IntKind.i64.min = -9223372036854775808 := rfl
  have q2 : IntKind.i64.max = 9223372036854775807 := rfl
  simp [Lit.wf, q1, q2] at hz
  exact hz
theorem open_inst_g {H : Type} {enc : TypeId × Value → H} {P : Program} {tp tr ts ti : TypeId} (T : PgTypes P tp tr ts ti) {W : World} {fuel : Nat} {cs : List Value} {d : DataW H} {p : List MemPlace}
    (hf : DataW.trod enc P W 0 (fun _ => true) true fuel ts cs = some (d, p)) : ∃ i : In, cs = i.cs ∧ i.bd := by
  obtain ⟨f0, f1, f2, f3, f4, hn, ⟨o0, o1, o2, o3, o4⟩, t0, t1, t2, t3, t4⟩ := T.inst
  obtain ⟨_, _, c5, ci⟩ := T.cells
  obtain ⟨xs, m, rfl, hx, hcl, hxl, hfield⟩ := DataW.trod_struct hn hf
  rw [c5] at hcl
  have hxl5 : xs.length = 5 := by rw [hxl]; rfl
  match cs, hcl, xs, hxl5 with
  | [v0, v1, v2, v3, v4], _, [x0, x1, x2, x3, x4], _ =>
    have e0 := hfield 0 f0 rfl
    have e1 := hfield 1 f1 rfl
    have e2 := hfield 2 f2 rfl
    have e3 := hfield 3 f3 rfl
    have e4 := hfield 4 f4 rfl
    rw [o0, t0, ci] at e0; rw [o1, t1, ci] at e1; rw [o2, t2, ci] at e2; rw [o3, t3, ci] at e3; rw [o4, t4, ci] at e4
    simp only [List.drop_zero, List.drop_succ_cons, List.take_succ_cons, List.take_zero, List.getElem?_cons_zero, List.getElem?_cons_succ] at e0 e1 e2 e3 e4
    obtain ⟨z0, s0, _, w0⟩ := DataW.trod_int T.int e0
    obtain ⟨z1, s1, _, w1⟩ := DataW.trod_int T.int e1
    obtain ⟨z2, s2, _, w2⟩ := DataW.trod_int T.int e2
    obtain ⟨z3, s3, _, w3⟩ := DataW.trod_int T.int e3
    obtain ⟨z4, s4, _, w4⟩ := DataW.trod_int T.int e4
    simp only [List.cons.injEq, and_true] at s0 s1 s2 s3 s4
    subst s0; subst s1; subst s2; subst s3; subst s4
    exact ⟨⟨z0, z1, z2, z3, z4⟩, rfl, i64_of_wf w0, i64_of_wf w1, i64_of_wf w2, i64_of_wf w3, i64_of_wf w4⟩
theorem open_prog_g {H : Type} {enc : TypeId × Value → H} {P : Program} {tp tr ts ti : TypeId} (T : PgTypes P tp tr ts ti) {W : World} {fuel : Nat} {cs : List Value} {d : DataW H} {p : List MemPlace}
    (hf : DataW.trod enc P W 0 (fun _ => true) true fuel tp cs = some (d, p)) (hw : ∀ n ∈ d.weights P tp, n ≤ reachBytes) : ∃ (vs : Value) (l : List In) (st sl : Int), cs = [vs, .int .i64 st, .int .i64 sl] ∧ InRow W vs l ∧ I64 st ∧ I64 sl := by
  obtain ⟨f0, f1, f2, hn, ⟨o0, o1, o2⟩, t0, t1, t2⟩ := T.prog
  obtain ⟨c3, cr, c5, ci⟩ := T.cells
  obtain ⟨xs, m, rfl, hx, hcl, hxl, hfield⟩ := DataW.trod_struct hn hf
  rw [c3] at hcl
  have hxl3 : xs.length = 3 := by rw [hxl]; rfl
  match cs, hcl, xs, hxl3 with
  | [v0, v1, v2], _, [x0, x1, x2], _ =>
    have e0 := hfield 0 f0 rfl
    have e1 := hfield 1 f1 rfl
    have e2 := hfield 2 f2 rfl
    rw [o0, t0, cr] at e0; rw [o1, t1, ci] at e1; rw [o2, t2, ci] at e2
    simp only [List.drop_zero, List.drop_succ_cons, List.take_succ_cons, List.take_zero, List.getElem?_cons_zero, List.getElem?_cons_succ] at e0 e1 e2
    simp only [Prod.mk.injEq] at hx
    have hwt : ∀ (j : Nat) (t : TypeId) (dd : DataW H), ([f0, f1, f2].map (·.type))[j]? = some t → (([x0, x1, x2].map (·.1)))[j]? = some dd → ∀ n ∈ dd.weights P t, n ≤ reachBytes := fun j t dd h1 h2 n hn' =>
      hw n (by rw [hx.1]; simp only [DataW.weights, hn]; exact weights_each h1 h2 n hn')
    obtain ⟨z1, s1, _, w1⟩ := DataW.trod_int T.int e1
    obtain ⟨z2, s2, _, w2⟩ := DataW.trod_int T.int e2
    simp only [List.cons.injEq, and_true] at s1 s2
    subst s1; subst s2
    refine ⟨v0, ?_⟩
    have key : ∃ l, InRow W v0 l := by
      rcases DataW.trod_slice T.list e0 with ⟨hcs, hx0⟩ | ⟨a, len, cap, elems, rest, m', rfl, hcs, hx0, hb0, hl0, hm0, hel, hi, _, _⟩
      · simp only [List.cons.injEq, and_true] at hcs
        subst hcs
        exact ⟨[], .nil W⟩
      · simp only [List.cons.injEq, and_true] at hcs
        subst hcs
        have hw0 := hwt 0 tr x0.1 (by simp [t0]) rfl
        rw [hx0] at hw0
        have hsz := hw0 (((elems.map (·.1)).length + (rest.map (·.1)).length) * P.bytesOf ts) (by simp [DataW.weights, T.list])
        rw [T.bytes] at hsz
        simp only [List.length_map, reachBytes] at hsz
        have each : ∀ i, i < len → ∃ x : In, (∀ q, q < 5 → W.cell? ((a.add (i * 5)).add q) = x.cs[q]?) ∧ x.bd := by
          intro i hil
          have h1 := hi i hil
          rw [c5] at h1
          have hei : i < elems.length := by omega
          rw [List.getElem?_eq_getElem hei, Option.bind_eq_some_iff] at h1
          obtain ⟨cs, hcs, htr⟩ := h1
          obtain ⟨x, rfl, hb⟩ := open_inst_g T htr
          exact ⟨x, (cells_all hcs).2, hb⟩
        obtain ⟨f, hf2⟩ := choose_each each
        have hlen : ((List.range len).map f).length = len := by simp
        refine ⟨(List.range len).map f, some a, cap, by rw [hlen], by rw [hlen]; omega, fun q hq => ?_, fun j hj => ?_⟩
        · obtain ⟨i, hir, rfl⟩ := List.mem_map.1 hq
          exact (hf2 i (List.mem_range.1 hir)).2
        · rw [hlen] at hj
          obtain ⟨hc, _⟩ := hf2 j hj
          obtain ⟨b, off, spot⟩ := a
          have hspot : spot = none := by
            have h00 := (hf2 0 (by omega)).1 0 (by omega)
            simpa [Addr.add, In.cs] using World.cell?_spot h00
          subst hspot
          have hq : ∀ q, q < 5 → W.cell? ⟨b, off + j * 5 + q, none⟩ = (f j).cs[q]? := fun q hq => by
            have := hc q hq
            rw [add_plain, add_plain] at this
            exact this
          refine ⟨b, off, rfl, ?_, fun q h => ?_⟩
          · have h0 := hq 0 (by omega)
            exact World.block_lt_of_cell? W _ h0
          · rw [List.getElem_map, List.getElem_range]
            exact hq q h
    obtain ⟨l, hl⟩ := key
    exact ⟨l, z1, z2, rfl, hl, i64_of_wf w1, i64_of_wf w2⟩
end Pgm
end Go.Proofs.YtchcjinaagncjaaDoor
