/- Lists of integers in memory, owned or read, and small laws on worlds. · Lists of sequences of ranges in memory; burinbook.SameSeqs. · Arguments that are lists of ranges, or lists of such lists, opened: over any program that has the types. · Trees of patterns in memory (api.Node): how one reads; an argument that is one, opened: over any program that has the types. -/
import Derived.Test.YtchcjinaagncjaaDoorGp2
import Derived.Deep.SlicePairs
import Derived.ProofKit
import Derived.SizedLaws
import Derived.Lib.RowBridge
import Derived.Lib.LaidTab
namespace Go.Proofs.YtchcjinaagncjaaDoor
open Go.RowKit
set_option linter.unusedVariables false
theorem RgOwn.alloc {W : World} {base : Nat} {v : Value} {l : List (Int × Int)} (h : RgOwn W base v l) (o : Obj) : RgOwn (W.alloc o) base v l := World.ownsRow.alloc h o
theorem RgOwn.lower {W : World} {base base' : Nat} {v : Value} {l : List (Int × Int)} (h : RgOwn W base v l) (hb : base' ≤ base) : RgOwn W base' v l :=
  ⟨h.1, h.2.imp id (fun ⟨g, cap, cur, h1, h2, h3⟩ => ⟨g, cap, cur, h1, Nat.le_trans hb h2, h3⟩)⟩
abbrev flat1 (T : List Int) : List Value := T.map (Value.int .i64)
/-- A list of integers that a call owns. -/
def IOwn (W : World) (base : Nat) (v : Value) (T : List Int) : Prop := W.ownsRow base 3 1 v T.length (flat1 T)
/-- A value that reads as a list of integers. -/
def IRow (W : World) (v : Value) (T : List Int) : Prop :=
  ∃ a cap, v = .slice a T.length cap ∧ T.length ≤ cap ∧ cap ≤ 9223372036854775807 ∧ ∀ j, j < T.length → ∃ b, a = some ⟨b, 0, none⟩ ∧ b < W.heap.size ∧ W.cell? ⟨b, j, none⟩ = some (.int .i64 (T[j]?.getD 0))
theorem IOwn.nil {W : World} {base : Nat} : IOwn W base (.slice none 0 0) [] := World.ownsRow_nil _ _ _ _
theorem IOwn.below {W W' : World} {base : Nat} {v : Value} {T : List Int} (h : IOwn W base v T) (hb : Below W.heap.size W W') : IOwn W' base v T :=
  h.kept ⟨hb.os, hb.tape, hb.output, hb.size, fun k hk _ => hb.block k hk⟩ (row := none) (by cases hv : v.ownBlock <;> simp)
theorem IOwn.alloc {W : World} {base : Nat} {v : Value} {T : List Int} (h : IOwn W base v T) (o : Obj) : IOwn (W.alloc o) base v T := World.ownsRow.alloc h o
theorem IOwn.lower {W : World} {base base' : Nat} {v : Value} {T : List Int} (h : IOwn W base v T) (hb : base' ≤ base) : IOwn W base' v T :=
  ⟨h.1, h.2.imp id (fun ⟨g, cap, cur, h1, h2, h3⟩ => ⟨g, cap, cur, h1, Nat.le_trans hb h2, h3⟩)⟩
theorem IOwn.row {W : World} {base : Nat} {v : Value} {T : List Int} (h : IOwn W base v T) : IRow W v T := by
  rcases h.2 with ⟨hv, h0⟩ | ⟨g, cap, cur, hv, hb, hg, hnc, hcm, hcs, _⟩
  · exact ⟨none, 0, by rw [h0]; exact hv, by omega, by omega, fun j hj => by omega⟩
  · refine ⟨_, cap, hv, hnc, by simpa [maxLen] using hcm, fun j hj => ⟨g, rfl, (Array.getElem?_eq_some_iff.1 hg).1, ?_⟩⟩
    subst hv
    rw [World.ownsRow.cellAt h j (by omega)]
    simp [flat1, List.getElem?_eq_getElem hj]
theorem IRow.below {W W' : World} {v : Value} {T : List Int} (h : IRow W v T) {B : Nat} (hB : W.heap.size ≤ B) (hb : Below B W W') : IRow W' v T := by
  obtain ⟨a, cap, hv, h1, h2, hc⟩ := h
  refine ⟨a, cap, hv, h1, h2, fun j hj => ?_⟩
  obtain ⟨b, ha, hlt, hcell⟩ := hc j hj
  exact ⟨b, ha, Nat.lt_of_lt_of_le hlt hb.size, (hb.cell (p := ⟨b, j, none⟩) (by show b < B; omega)).trans hcell⟩
end Go.Proofs.YtchcjinaagncjaaDoor
namespace Go.Proofs.YtchcjinaagncjaaDoor
open Go.RowKit
set_option linter.unusedVariables false
/-- A value that reads as a list of lists of ranges. -/
def QRow (W : World) (v : Value) (L : List (List (Int × Int))) : Prop :=
  ∃ a cap, v = .slice a L.length cap ∧ L.length ≤ 8796093022208 ∧ ∀ j, j < L.length → ∃ b off u, a = some ⟨b, off, none⟩ ∧ b < W.heap.size ∧ W.cell? ⟨b, off + j, none⟩ = some u ∧ RRow W u (L[j]?.getD [])
theorem QRow.below {W W' : World} {v : Value} {L : List (List (Int × Int))} (h : QRow W v L) (hb : Below W.heap.size W W') : QRow W' v L := by
  obtain ⟨a, cap, hv, hl, hc⟩ := h
  refine ⟨a, cap, hv, hl, fun j hj => ?_⟩
  obtain ⟨b, off, u, ha, hlt, h1, h2⟩ := hc j hj
  exact ⟨b, off, u, ha, Nat.lt_of_lt_of_le hlt hb.size, (hb.cell (p := ⟨b, off + j, none⟩) hlt).trans h1, h2.below (Nat.le_refl _) hb⟩
end Go.Proofs.YtchcjinaagncjaaDoor
namespace Go.Proofs.YtchcjinaagncjaaDoor
open Go.ChangeShapes Go.WideShapes Go.ChangeAt Go.RowKit
set_option linter.unusedVariables false
theorem choose_each {α : Type} {n : Nat} {p : Nat → α → Prop} [Inhabited α] (h : ∀ i, i < n → ∃ x, p i x) : ∃ f : Nat → α, ∀ i, i < n → p i (f i) := by
  classical
  exact ⟨fun i => if hi : i < n then (h i hi).choose else default, fun i hi => by simp only [dif_pos hi]; exact (h i hi).choose_spec⟩
/-- What is asked of a program's types: a list of pairs of integers. -/
structure RgTypes (P : Program) (tr ts ti : TypeId) : Prop where
  list : P.underlying tr = some (.slice ts)
  pair : ∃ f0 f1 : Field, P.underlying ts = some (.struct #[f0, f1]) ∧ f0.offset = 0 ∧ f1.offset = 1 ∧ f0.type = ti ∧ f1.type = ti
  int : P.underlying ti = some (.int .i64)
  cells : P.cellsOf ts = 2
  one : P.cellsOf ti = 1
  bytes : P.bytesOf ts = 16
end Go.Proofs.YtchcjinaagncjaaDoor
namespace Go.Proofs.YtchcjinaagncjaaDoor
open Go.ChangeShapes Go.WideShapes Go.ChangeAt Go.RowKit
set_option linter.unusedVariables false
/-- A tree. -/
inductive Nd where
  | mk (kind : Int) (set : List (Int × Int)) (num : Int) (name : ByteArray) (mn mx : Int) (lazy : Bool) (subs : List Nd) : Nd
def I64 (x : Int) : Prop := -9223372036854775808 ≤ x ∧ x ≤ 9223372036854775807
/-- Eight cells that read as a tree; its parts lie in a row, eight cells each. -/
inductive NdIs (W : World) : Nd → List Value → Prop where
  | mk {k num mn mx : Int} {set : List (Int × Int)} {name : ByteArray} {lz : Bool} {subs : List Nd} {vs : Value} {a : Option Addr} {cap : Nat} (cs : Nat → List Value)
      (hk : I64 k ∧ I64 num ∧ I64 mn ∧ I64 mx) (hset : RRow W vs set) (hname : name.size ≤ 140737488351232) (hlen : subs.length ≤ 8796093022208)
      (hrow : ∀ j, j < subs.length → ∃ b off, a = some ⟨b, off, none⟩ ∧ b < W.heap.size ∧ (cs j).length = 8 ∧ ∀ i, i < 8 → W.cell? ⟨b, off + j * 8 + i, none⟩ = (cs j)[i]?)
      (hsub : ∀ j (h : j < subs.length), NdIs W subs[j] (cs j)) :
      NdIs W (.mk k set num name mn mx lz subs) [.int .i64 k, vs, .int .i64 num, .string name, .int .i64 mn, .int .i64 mx, .bool lz, .slice a subs.length cap]
theorem NdIs.kept {W W' : World} (hb : Below W.heap.size W W') : ∀ {n : Nd} {cs : List Value}, NdIs W n cs → NdIs W' n cs := by
  intro n cs h
  induction h with
  | mk cs hk hset hname hlen hrow hsub ih =>
    refine .mk cs hk (hset.below (Nat.le_refl _) hb) hname hlen (fun j hj => ?_) ih
    obtain ⟨b, off, ha, hlt, hl, hc⟩ := hrow j hj
    exact ⟨b, off, ha, Nat.lt_of_lt_of_le hlt hb.size, hl, fun i hi => (hb.cell (p := ⟨b, off + j * 8 + i, none⟩) hlt).trans (hc i hi)⟩
theorem NdIs.len {W : World} {n : Nd} {cs : List Value} (h : NdIs W n cs) : cs.length = 8 := by cases h; rfl
/-- What is asked of a program's types. -/
structure NdTypes (P : Program) (tn tns tr ts ti tstr tb : TypeId) : Prop where
  rg : RgTypes P tr ts ti
  node : ∃ f0 f1 f2 f3 f4 f5 f6 f7 : Field, P.underlying tn = some (.struct #[f0, f1, f2, f3, f4, f5, f6, f7]) ∧ (f0.offset = 0 ∧ f1.offset = 1 ∧ f2.offset = 2 ∧ f3.offset = 3 ∧ f4.offset = 4 ∧ f5.offset = 5 ∧ f6.offset = 6 ∧ f7.offset = 7) ∧
    (f0.type = ti ∧ f1.type = tr ∧ f2.type = ti ∧ f3.type = tstr ∧ f4.type = ti ∧ f5.type = ti ∧ f6.type = tb ∧ f7.type = tns)
  list : P.underlying tns = some (.slice tn)
  str : P.underlying tstr = some .string
  bool : P.underlying tb = some .bool
  cells : P.cellsOf tn = 8 ∧ P.cellsOf tr = 1 ∧ P.cellsOf ti = 1 ∧ P.cellsOf tstr = 1 ∧ P.cellsOf tb = 1 ∧ P.cellsOf tns = 1
  bytes : P.bytesOf tn = 104
theorem weights_each {H : Type} {P : Program} {ts : List TypeId} {ds : List (DataW H)} {j : Nat} {t : TypeId} {d : DataW H} (ht : ts[j]? = some t) (hd : ds[j]? = some d) : ∀ n ∈ d.weights P t, n ∈ DataW.weightsEach P ts ds := DataW.weights_mem_each ht hd
theorem cells_all {W : World} {base : Nat} {a : Addr} {n : Nat} {cs : List Value} (h : W.cells? base a n = some cs) : cs.length = n ∧ ∀ i, i < n → W.cell? (a.add i) = cs[i]? := by
  unfold World.cells? at h
  split at h
  · refine ⟨?_, fun i hi => ?_⟩
    · have := Lib.mapM_length h; simpa using this
    · obtain ⟨b, hb, hf⟩ := Lib.mapM_at h i i (by simp [hi])
      rw [hb]; exact hf
  · cases h
end Go.Proofs.YtchcjinaagncjaaDoor
