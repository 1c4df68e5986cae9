/- Nothing of the library is asked for here. · The landed prog: a line of a text (appendLine). · The landed prog: the fields that an instruction has (own). -/
import Derived.Shelf.Small.Wraps
import Derived.Test.YtchcjinaagncjaaDoorProg
import Derived.Test.YtchcjinaagncjaaDoorGp7
import Derived.Lib.AppendStr
import Derived.Lib.OthersKept
import Derived.Lib.AppendIntMem
import Derived.Test.YtchcjinaagncjaaDoorGp2
namespace Go.Proofs
end Go.Proofs
namespace Go.Proofs.YtchcjinaagncjaaDoor
open Go.RowKit
set_option linter.unusedVariables false
namespace Pgm
/-- A row of bytes that is owned. -/
def ByOwn (W : World) (base : Nat) (v : Value) (T : List UInt8) : Prop := W.ownsRow base 5 1 v T.length (Lib.byteCells T)
theorem ByOwn.nil (W : World) (base : Nat) : ByOwn W base (.slice none 0 0) [] := World.ownsRow_nil _ _ _ _








theorem ByOwn.slice {W : World} {base : Nat} {v : Value} {T : List UInt8} (h : ByOwn W base v T) : ∃ a cap, v = .slice a T.length cap := by
  rcases h.2 with ⟨e, e0⟩ | ⟨g, cap, cur, e, _⟩
  · exact ⟨none, 0, by rw [e, e0]⟩
  · exact ⟨_, _, e⟩
/-- A row of integers that is read. -/
def IntsAt (W : World) (a : Option Addr) (ns : List Int) : Prop := ∀ j (h : j < ns.length), ∃ b off cs f, a = some ⟨b, off, none⟩ ∧ W.heap[b]? = some (.cells cs 3 f) ∧ cs[off + j]? = some (.int .i64 ns[j])
theorem IntsAt.kept {W W' : World} {a : Option Addr} {ns : List Int} (h : IntsAt W a ns) (hk : Lib.OthersKept 5 none W W') : IntsAt W' a ns := fun j hj => by
  obtain ⟨b, off, cs, f, e, h1, h2⟩ := h j hj
  exact ⟨b, off, cs, f, e, hk b _ h1 (by simp) (fun c fz q => by injection q with _ q _; exact absurd q (by decide)), h2⟩
theorem IntsAt.cell {W : World} {a : Option Addr} {ns : List Int} (h : IntsAt W a ns) {j : Nat} (hj : j < ns.length) : ∃ b off, a = some ⟨b, off, none⟩ ∧ b < W.heap.size ∧ W.cell? ⟨b, off + j, none⟩ = some (.int .i64 ns[j]) := by
  obtain ⟨b, off, cs, f, e, h1, h2⟩ := h j hj
  exact ⟨b, off, e, (Array.getElem?_eq_some_iff.1 h1).1, by simp [World.cell?, h1, h2]⟩
end Pgm
end Go.Proofs.YtchcjinaagncjaaDoor
namespace Go.Proofs.YtchcjinaagncjaaDoor
open Go.RowKit
set_option linter.unusedVariables false
namespace Pgm
theorem infoIn14 : (Tryd.prog.info? 3).map (fun i => (i.zero, i.size, i.bytes)) = some (some (.int .i64 0), 1, 8) := by kernel_rfl
theorem underIn14 : Tryd.prog.underlying 30 = some (.slice 3) := by kernel_rfl
theorem append_i (W : World) (base : Nat) (v : Value) (T : List Int) (hv : IOwn W base v T) (hb : base ≤ W.heap.size) (hT : T.length ≤ 1000000) (c : Int) (bt : Nat) (hnew : W.heap[bt]? = some (.cells #[.int .i64 c] 3 (0, 0))) (cc : Nat) :
    ∃ v' W', (Builtin.append_ #[30, 30] 30 #[v, .slice (some ⟨bt, 0, none⟩) 1 cc]).run Tryd.prog W = .ok v' W' ∧ IOwn W' base v' (T ++ [c]) ∧ Below base W W' ∧ ∀ (b : Nat) (cs : Array Value) (t : TypeId) (f : Nat × Nat), W.heap[b]? = some (.cells cs t f) → t ≠ 3 → W'.heap[b]? = some (.cells cs t f) := by
  obtain ⟨i0, hi, hz0, hz1, hz2⟩ := info_parts infoIn14
  obtain ⟨gg, cap2, W2, hrun, hown, hgrow, hat, hlt2⟩ := run_append_lies (P := Tryd.prog) W 30 30 base 3 i0 _ 1 8 underIn14 hi hz0 hz1 hz2 rfl (by omega) v _ _ hv
    ⟨bt, 0, none⟩ 1 cc [.int .i64 c] rfl (World.news_of_block hnew) (by intro u hu; simp at hu; subst hu; rfl) (by omega) (by unfold maxLen; omega) (by omega) hb _ rfl
  refine ⟨_, _, hrun, ?_, (Below.refl base W).grown hgrow hb fun j ej => (World.ownsRow.lt hv j ej).1, fun b cs t f hbk ht => ?_⟩
  rotate_left
  · refine (hgrow.block b (Array.getElem?_eq_some_iff.1 hbk).1 (fun e => ?_)).trans hbk
    rcases hv.2 with ⟨e2, _⟩ | ⟨g', cap, cur, e2, _, hgg, _⟩
    · rw [e2] at e; cases e
    · rw [e2] at e
      have e3 : b = g' := Option.some.inj e
      rw [e3, hgg] at hbk
      injection hbk with hbk
      injection hbk with _ h9 _
      exact ht h9.symm
  unfold IOwn
  rw [List.length_append]
  simpa [flat1] using hown
theorem IOwn.sl {W : World} {base : Nat} {v : Value} {T : List Int} (h : IOwn W base v T) : ∃ a cap, v = .slice a T.length cap := by
  rcases h.2 with ⟨e, e0⟩ | ⟨g, cap, cur, e, _⟩
  · exact ⟨none, 0, by rw [e, e0]⟩
  · exact ⟨_, _, e⟩
end Pgm
end Go.Proofs.YtchcjinaagncjaaDoor
