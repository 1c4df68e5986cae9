/- A row of instructions that is owned. · Programs and their texts: what is read from a program's text is that program. · The landed prog: the table of operations; values, isIn, has. -/
import Derived.Test.YtchcjinaagncjaaDoorGp3
import Derived.Test.YtchcjinaagncjaaDoorGp2
import Derived.Deep.AppendLies
import Derived.Test.YtchcjinaagncjaaDoorGp1
import Derived.Laws.Rows
import Derived.Laws.StructEq
import Derived.Deep.QuietTactic
import Derived.BigQuiet
namespace Go.Proofs.YtchcjinaagncjaaDoor
open Go.RowKit
set_option linter.unusedVariables false
namespace Pgm
theorem infoInst : (Tryd.prog.info? 60).map (fun i => (i.zero, i.size, i.bytes)) = some (some (.agg #[.int .i64 0, .int .i64 0, .int .i64 0, .int .i64 0, .int .i64 0]), 5, 40) := by kernel_rfl
theorem underInsts : Tryd.prog.underlying 44 = some (.slice 60) := by kernel_rfl
def InOwn (W : World) (base : Nat) (v : Value) (l : List In) : Prop := W.ownsRow base 60 5 v l.length (l.flatMap In.cs)
theorem InOwn.nil (W : World) (base : Nat) : InOwn W base (.slice none 0 0) [] := World.ownsRow_nil _ _ _ _
theorem flatIn_len (l : List In) : (l.flatMap In.cs).length = l.length * 5 := by
  induction l with
  | nil => rfl
  | cons a L ih => rw [List.flatMap_cons, List.length_append, ih, List.length_cons]; show 5 + _ = _; omega
theorem flatIn_at : ∀ (l : List In) (i : Nat) (x : In) (q : Nat), l[i]? = some x → q < 5 → (l.flatMap In.cs)[i * 5 + q]? = x.cs[q]?
  | [], i, x, q, h, _ => by simp at h
  | y :: l, 0, x, q, h, hq => by
    simp at h; subst h
    rw [List.flatMap_cons, List.getElem?_append_left (by show 0 * 5 + q < 5; omega)]; simp
  | y :: l, i + 1, x, q, h, hq => by
    rw [List.flatMap_cons, List.getElem?_append_right (by show 5 ≤ _; omega)]
    have : (i + 1) * 5 + q - y.cs.length = i * 5 + q := by show (i + 1) * 5 + q - 5 = _; omega
    rw [this]
    exact flatIn_at l i x q (by simpa using h) hq
theorem InOwn.slice {W : World} {base : Nat} {v : Value} {l : List In} (h : InOwn W base v l) : ∃ a cap, v = .slice a l.length cap := by
  rcases h.2 with ⟨e, e0⟩ | ⟨g, cap, cur, e, _⟩
  · exact ⟨none, 0, by rw [e, e0]⟩
  · exact ⟨_, _, e⟩
theorem InOwn.lt {W : World} {base : Nat} {v : Value} {l : List In} (h : InOwn W base v l) : ∀ b, v.ownBlock = some b → base ≤ b ∧ b < W.heap.size := fun b hb => World.ownsRow.lt h b hb
theorem InOwn.below {W W' : World} {base : Nat} {v : Value} {l : List In} (h : InOwn W base v l) {B : Nat} (hb : Below B W W') (hB : W.heap.size ≤ B) : InOwn W' base v l :=
  World.ownsRow.kept h (row := none) ⟨hb.os, hb.tape, hb.output, hb.size, fun k hk _ => hb.block k (Nat.lt_of_lt_of_le hk hB)⟩ (by cases hv : v.ownBlock <;> simp)
theorem InOwn.drewN {W : World} {base : Nat} {v : Value} {l : List In} (h : InOwn W base v l) (n : Nat) : InOwn (W.drewN n) base v l := h.below (below_drewN (Below.refl W.heap.size W) n) (Nat.le_refl _)
theorem InOwn.mono {W : World} {base base' : Nat} {v : Value} {l : List In} (h : InOwn W base v l) (hb : base' ≤ base) : InOwn W base' v l := by
  refine ⟨h.1, ?_⟩
  rcases h.2 with e | ⟨g, cap, cur, e, h1, h2⟩
  · exact .inl e
  · exact .inr ⟨g, cap, cur, e, Nat.le_trans hb h1, h2⟩
theorem InOwn.row {W : World} {base : Nat} {v : Value} {l : List In} (h : InOwn W base v l) (hl : l.length ≤ 1000000) (hb : ∀ i ∈ l, i.bd) : InRow W v l := by
  rcases h.2 with ⟨e, e0⟩ | ⟨g, cap, cur, e, hbg, hg, hnc, hcm, hcs, hz⟩
  · have := List.eq_nil_of_length_eq_zero e0
    subst this
    rw [e]; exact .nil W
  · refine ⟨_, cap, e, by omega, hb, fun j hj => ⟨g, 0, rfl, (Array.getElem?_eq_some_iff.1 hg).1, fun q hq => ?_⟩⟩
    have h9 := World.ownsRow.cellAt (e ▸ h : W.ownsRow base 60 5 (.slice (some ⟨g, 0, none⟩) l.length cap) l.length (l.flatMap In.cs)) (j * 5 + q) (by omega)
    rw [Nat.zero_add]
    exact h9.trans (flatIn_at l j l[j] q (List.getElem?_eq_getElem hj) hq)
theorem cs_one (i : In) : ∀ u ∈ i.cs, u.oneCell' = true := fun u hu => by
  simp only [In.cs, List.mem_cons, List.not_mem_nil, or_false] at hu
  rcases hu with rfl | rfl | rfl | rfl | rfl <;> rfl
end Pgm
end Go.Proofs.YtchcjinaagncjaaDoor
namespace Go.Proofs.YtchcjinaagncjaaDoor.Pgm
set_option linter.unusedVariables false
end Go.Proofs.YtchcjinaagncjaaDoor.Pgm
namespace Go.Proofs.YtchcjinaagncjaaDoor
open Go.RowKit
set_option linter.unusedVariables false
namespace Pgm
/-- The least and the greatest number of each field of an Op; no number but 0: it has none. -/
def spA (o f : Nat) : Int := if o = 4 ∧ f = 0 then 1 else 0
def spB (o f : Nat) : Int :=
  if o = 1 then (if f = 0 ∨ f = 1 then 255 else if f = 2 then 3999 else 0) else
  if o = 2 then (if f = 2 ∨ f = 3 then 3999 else 0) else
  if o = 3 then (if f = 0 then 63 else if f = 2 then 3999 else 0) else
  if o = 4 then (if f = 0 then 6 else if f = 2 then 3999 else 0) else 0
def wB (o : Nat) : ByteArray := ⟨(wBytes (o : Int)).toArray⟩
/-- The cells of an operation. -/
def opC (o : Nat) : List Value := [.string (wB o), .int .i64 (spA o 0), .int .i64 (spB o 0), .int .i64 (spA o 1), .int .i64 (spB o 1), .int .i64 (spA o 2), .int .i64 (spB o 2), .int .i64 (spA o 3), .int .i64 (spB o 3)]
theorem blkp {W : World} {B : Nat} {cs : Array Value} {t : TypeId} (h : W.heap[B]? = some (.cells cs t (0, 0))) (i : Nat) : W.cell? ⟨B, i, none⟩ = cs[i]? := by simp [World.cell?, h]
/-- The cells of the whole table. -/
def opAll : List Value := (List.range 7).flatMap opC
/-- The table of operations. -/
structure EvO (W : World) : Prop where
  lt : 1 < W.heap.size
  cell : ∀ o q, o < 7 → q < 9 → W.cell? ⟨1, o * 9 + q, none⟩ = (opC o)[q]?
  whole : ∃ t fr, W.heap[1]? = some (.cells opAll.toArray t fr)
theorem EvO.below {W W' : World} {B : Nat} (h : EvO W) (hB : W.heap.size ≤ B) (hb : Below B W W') : EvO W' :=
  ⟨by have := hb.size; have := h.lt; omega, fun o q ho hq => (hb.cell (p := ⟨1, o * 9 + q, none⟩) (Nat.lt_of_lt_of_le h.lt hB)).trans (h.cell o q ho hq), by
    obtain ⟨t, fr, hw⟩ := h.whole
    exact ⟨t, fr, (hb.block _ (Nat.lt_of_lt_of_le h.lt hB)).trans hw⟩⟩
/-- The way out of a function whose one result is an aggregate in a box. -/
theorem ret_box1 {fn : Func} {p : Tmp} {T : TypeId} {R : Ending → World → Prop} {a : Act} {w : World} (h : fn.results = #[.cell p T]) (g : Nat) (cs : Array Value)
    (hl : (loadVar T ⟨g, 0, none⟩).run Tryd.prog w = .ok (.agg cs) w)
    (hp : a.tmps.getD p undef = .pointer (some ⟨g, 0, none⟩)) (hd : a.defers = []) (hR : R (.returned (.agg cs)) w) : bodyPost Tryd.prog fn R .ret a w := by
  refine ⟨hd, _, ?_, hR⟩
  have hp' : a.tmps[p]?.getD undef = .pointer (some ⟨g, 0, none⟩) := by simpa using hp
  simp [results, h, hp', asAddr, hl, Sem.run_bind]
theorem load_fields {w : World} {g : Nat} {cs : Array Value} (hg : w.heap[g]? = some (.cells cs 140 (0, 0))) (h : cs.size = 4) : (loadVar 140 ⟨g, 0, none⟩).run Tryd.prog w = .ok (.agg cs) w :=
  run_loadVar_row w g _ _ cs _ _ hg Tryd.underlying140 rfl (by rw [h]; kernel_rfl)
/-- The numbers of an instruction's four fields. -/
def In.fv (i : In) : Value := .agg #[.int .i64 i.lo, .int .i64 i.hi, .int .i64 i.x, .int .i64 i.y]
set_option maxRecDepth 100000 in
set_option maxHeartbeats 2000000 in
theorem values_any (i : In) (W : World) : Calls Tryd.prog 87 #[i.v] W fun e w' => e = .returned i.fv ∧ Below W.heap.size W w' := by
  unfold In.v In.fv
  go_enter Tryd.func87, Tryd.ntmps87
  go_wp2
  obtain ⟨W1, hW1⟩ : ∃ W1, W.alloc (.cells #[.int .i64 i.op, .int .i64 i.lo, .int .i64 i.hi, .int .i64 i.x, .int .i64 i.y] 60) = W1 := ⟨_, rfl⟩
  have hs : W.heap.size + 1 = W1.heap.size := by rw [← hW1]; simp
  have hb : Below W.heap.size W W1 := by rw [← hW1]; exact (Below.refl _ _).alloc (Nat.le_refl _) _
  refine ret_box1 rfl (W.heap.size + 1) #[.int .i64 i.lo, .int .i64 i.hi, .int .i64 i.x, .int .i64 i.y] (load_fields ?_ rfl) rfl rfl ?_
  · rw [hW1, hs]
    exact heap_alloc_new W1 _
  · rw [hW1]
    exact ⟨rfl, hb.alloc hb.size _⟩
set_option maxRecDepth 100000 in
set_option maxHeartbeats 2000000 in
theorem isIn_any (a b n : Int) (W : World) : Calls Tryd.prog 88 #[.agg #[.int .i64 a, .int .i64 b], .int .i64 n] W fun e w' => e = .returned (.bool (decide (a ≤ n ∧ n ≤ b))) ∧ Below W.heap.size W w' := by
  by_cases h1 : a ≤ n
  · go_enter Tryd.func88, Tryd.ntmps88
    go_wp2
    go_ret
    exact ⟨by simp [h1], (Below.refl _ _).alloc (Nat.le_refl _) _⟩
  · have h2 : ¬ (a ≤ n ∧ n ≤ b) := fun h => h1 h.1
    go_enter Tryd.func88, Tryd.ntmps88
    go_wp2
    go_ret
    exact ⟨by simp [h1], (Below.refl _ _).alloc (Nat.le_refl _) _⟩












end Pgm
end Go.Proofs.YtchcjinaagncjaaDoor
