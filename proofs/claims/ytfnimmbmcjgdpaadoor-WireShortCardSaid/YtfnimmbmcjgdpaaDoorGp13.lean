/- Functions of the library: the library's contracts, laid over this translation. · The landed prog: a line of a text (appendLine). · The landed prog: the fields that an instruction has (own). · The landed prog: Show. · A region that draws its order, whose operations only read and whose callees make memory of their own: walked once, in the class of the worlds that have turned nothing old. -/
import Derived.Shelf.Strings.Cut
import Derived.Shelf.Strconv.AtoiAll
import Derived.Shelf.Strconv.AppendIntPublic10
import Derived.Shelf.Strings.Prefix
import Derived.Test.YtfnimmbmcjgdpaaDoorProg
import Derived.Test.YtfnimmbmcjgdpaaDoorGp9
import Derived.Lib.AppendStr
import Derived.Lib.OthersKept
import Derived.Lib.AppendIntMem
import Derived.Test.YtfnimmbmcjgdpaaDoorGp2
import Derived.Deep.RegionHeld3
import Derived.Deep.QuietTactic
namespace Go.Proofs
open Go.Shelf
end Go.Proofs
namespace Go.Proofs.YtfnimmbmcjgdpaaDoor
open Go.RowKit
set_option linter.unusedVariables false
namespace Pgm
theorem infoBy : (Tryd.prog.info? 5).map (fun i => (i.zero, i.size, i.bytes)) = some (some (.int .u8 0), 1, 1) := by kernel_rfl
theorem underBys : Tryd.prog.underlying 55 = some (.slice 5) := by kernel_rfl
/-- A row of bytes that is owned. -/
def ByOwn (W : World) (base : Nat) (v : Value) (T : List UInt8) : Prop := W.ownsRow base 5 1 v T.length (Lib.byteCells T)
theorem ByOwn.nil (W : World) (base : Nat) : ByOwn W base (.slice none 0 0) [] := World.ownsRow_nil _ _ _ _
/-- The powers of ten of the library. -/
structure EvT (W : World) : Prop where
  lt : 4 < W.heap.size
  tab : Lib.TabBelow Tryd.prog W.heap.size W "internal/strconv.uint64pow10" .u64 Lib.pow10Tab
theorem EvT.below {W W' : World} (h : EvT W) (hb : Below W.heap.size W W') : EvT W' :=
  ⟨Nat.lt_of_lt_of_le h.lt hb.size, fun w' h' => h.tab w' (hb.trans (h'.mono hb.size))⟩
theorem EvT.at_ {W W' : World} (h : EvT W) {B : Nat} (hB : W.heap.size ≤ B) (hb : Below W.heap.size W W') : Lib.TabBelow Tryd.prog B W' "internal/strconv.uint64pow10" .u64 Lib.pow10Tab :=
  fun w' h' => h.tab w' (hb.trans (h'.mono hB))
theorem cells_app (a b : List UInt8) : Lib.byteCells (a ++ b) = Lib.byteCells a ++ Lib.byteCells b := by unfold Lib.byteCells; rw [List.map_append]
theorem cells_len (a : List UInt8) : (Lib.byteCells a).length = a.length := by unfold Lib.byteCells; rw [List.length_map]
theorem ByOwn.slice {W : World} {base : Nat} {v : Value} {T : List UInt8} (h : ByOwn W base v T) : ∃ a cap, v = .slice a T.length cap := by
  rcases h.2 with ⟨e, e0⟩ | ⟨g, cap, cur, e, _⟩
  · exact ⟨none, 0, by rw [e, e0]⟩
  · exact ⟨_, _, e⟩
theorem ByOwn.turn {W : World} {base : Nat} {v : Value} {T : List UInt8} (h : ByOwn W base v T) : ∀ g, v.ownBlock = some g → ∃ c fz, W.heap[g]? = some (.cells c 5 fz) := fun g hg => by
  rcases h.2 with ⟨e, e0⟩ | ⟨g', cap, cur, e, _, hgg, _⟩
  · rw [e] at hg; cases hg
  · rw [e] at hg; cases hg; exact ⟨_, _, hgg⟩
/-- One byte more, out of a row of its own. -/
theorem append_by (W : World) (base : Nat) (v : Value) (T : List UInt8) (hv : ByOwn W base v T) (hb : base ≤ W.heap.size) (hT : T.length ≤ 1000000) (c : UInt8) (bt : Nat) (hnew : W.heap[bt]? = some (.cells #[.int .u8 c.toNat] 5 (0, 0))) (cc : Nat) :
    ∃ v' W', (Builtin.append_ #[55, 55] 55 #[v, .slice (some ⟨bt, 0, none⟩) 1 cc]).run Tryd.prog W = .ok v' W' ∧ ByOwn W' base v' (T ++ [c]) ∧ Below base W W' ∧ Lib.OthersKept 5 none W W' := by
  obtain ⟨i0, hi, hz0, hz1, hz2⟩ := info_parts infoBy
  obtain ⟨gg, cap2, W2, hrun, hown, hgrow, hat, hlt2⟩ := run_append_lies (P := Tryd.prog) W 55 55 base 5 i0 _ 1 1 underBys hi hz0 hz1 hz2 rfl (by omega) v _ _ hv
    ⟨bt, 0, none⟩ 1 cc [.int .u8 c.toNat] rfl (World.news_of_block hnew) (by intro u hu; simp at hu; subst hu; rfl) (by omega) (by unfold maxLen; omega) (by omega) hb _ rfl
  refine ⟨_, _, hrun, ?_, (Below.refl base W).grown hgrow hb fun j ej => (World.ownsRow.lt hv j ej).1, (Lib.OthersKept.refl _ _ W).grown hgrow hv.turn⟩
  unfold ByOwn
  rw [List.length_append, cells_app]
  exact hown
/-- A row of integers that is read. -/
def IntsAt (W : World) (a : Option Addr) (ns : List Int) : Prop := ∀ j (h : j < ns.length), ∃ b off cs f, a = some ⟨b, off, none⟩ ∧ W.heap[b]? = some (.cells cs 3 f) ∧ cs[off + j]? = some (.int .i64 ns[j])
theorem IntsAt.kept {W W' : World} {a : Option Addr} {ns : List Int} (h : IntsAt W a ns) (hk : Lib.OthersKept 5 none W W') : IntsAt W' a ns := fun j hj => by
  obtain ⟨b, off, cs, f, e, h1, h2⟩ := h j hj
  exact ⟨b, off, cs, f, e, hk b _ h1 (by simp) (fun c fz q => by injection q with _ q _; exact absurd q (by decide)), h2⟩
theorem IntsAt.cell {W : World} {a : Option Addr} {ns : List Int} (h : IntsAt W a ns) {j : Nat} (hj : j < ns.length) : ∃ b off, a = some ⟨b, off, none⟩ ∧ b < W.heap.size ∧ W.cell? ⟨b, off + j, none⟩ = some (.int .i64 ns[j]) := by
  obtain ⟨b, off, cs, f, e, h1, h2⟩ := h j hj
  exact ⟨b, off, e, (Array.getElem?_eq_some_iff.1 h1).1, by simp [World.cell?, h1, h2]⟩
def LinePost (W : World) (base : Nat) (X : List UInt8) (e : Ending) (w' : World) : Prop := ∃ v', e = .returned v' ∧ ByOwn w' base v' X ∧ Below base W w' ∧ Lib.OthersKept 5 none W w'
end Pgm
end Go.Proofs.YtfnimmbmcjgdpaaDoor
namespace Go.Proofs.YtfnimmbmcjgdpaaDoor
open Go.RowKit
set_option linter.unusedVariables false
namespace Pgm
theorem IOwn.sl {W : World} {base : Nat} {v : Value} {T : List Int} (h : IOwn W base v T) : ∃ a cap, v = .slice a T.length cap := by
  rcases h.2 with ⟨e, e0⟩ | ⟨g, cap, cur, e, _⟩
  · exact ⟨none, 0, by rw [e, e0]⟩
  · exact ⟨_, _, e⟩
end Pgm
end Go.Proofs.YtfnimmbmcjgdpaaDoor
namespace Go.Proofs.YtfnimmbmcjgdpaaDoor
open Go.RowKit
set_option linter.unusedVariables false
namespace Pgm
/-- A text as a string. -/
def txB (l : List UInt8) : ByteArray := ⟨l.toArray⟩
theorem txB_list (l : List UInt8) : (txB l).data.toList = l := by simp [txB]
theorem txB_of (s : ByteArray) : txB s.data.toList = s := by apply ByteArray.ext; simp [txB]
theorem txB_size (l : List UInt8) : (txB l).size = l.length := by show (txB l).data.size = _; simp [txB]
theorem wB_list (o : Nat) : (wB o).data.toList = wBytes (o : Int) := by simp [wB]
theorem conv_by {W : World} {base : Nat} {v : Value} {T : List UInt8} (h : ByOwn W base v T) : (convert 55 9 v).run Tryd.prog W = .ok (.string (txB T)) W := by
  rcases h.2 with ⟨rfl, e0⟩ | ⟨g, cap, cur, rfl, hg, hgc, hnc, hcm, hsz, htk⟩
  · have e1 : T = [] := List.length_eq_zero_iff.1 e0
    subst e1
    show (convert 55 9 (.slice none 0 0)).run Tryd.prog W = .ok (.string ⟨#[]⟩) W
    exact run_convert_bytes_nil (P := Tryd.prog) (w := W) 55 5 (by kernel_rfl) (by kernel_rfl) 0 0 9 (by kernel_rfl)
  · exact run_convert_bytes_back (P := Tryd.prog) W 55 9 5 ⟨g, 0, none⟩ cap T (by kernel_rfl) (by kernel_rfl) (by kernel_rfl) (fun j hj => by
      rw [Addr.add_lit, Nat.zero_add]
      have h4 : cur.toList[j]? = some (.int .u8 T[j].toNat) := by
        have h5 := congrArg (fun l => l[j]?) htk
        simp only [Nat.mul_one] at h5
        rw [List.getElem?_take_of_lt hj] at h5
        rw [h5]
        simp [Lib.byteCells, List.getElem?_eq_getElem hj]
      rw [Array.getElem?_toList] at h4
      simp [World.cell?, hgc, h4])
end Pgm
end Go.Proofs.YtfnimmbmcjgdpaaDoor
namespace Go.Proofs.YtfnimmbmcjgdpaaDoor
open Go.RowKit
set_option linter.unusedVariables false
/-- A world that has turned nothing of w's. -/
structure GrownTo (w : World) where
  W' : World
  h : Below w.heap.size w W'
instance grownToSome (w : World) : Inhabited (GrownTo w) := ⟨⟨w, Below.refl _ _⟩⟩
theorem wp_region_quiet_below {P : Program} {id : Nat} {Q : Exit → Act → World → Prop} {a : Act} {w : World} {l : List Oper} (hm : P.follows .mixedOrders = true) (hB : Region.lexB .any l.toArray = true)
    (h : wpQuiet P l.toArray (fun w' => ∃ p : GrownTo w, w' = p.W') (fun a' => ∀ w', (∃ p : GrownTo w, w' = p.W') → Q .normal a' w') l a) : (Code.region id l.toArray true).wp P Q a w :=
  wp_region_quiet (C := fun w' => ∃ p : GrownTo w, w' = p.W') hm hB ⟨⟨w.drew, below_drewNr (Below.refl _ _) 1⟩, rfl⟩ (by simpa using h)
theorem calls_grownTo {P : Program} {f : FuncId} {args : Array Value} {w : World} {p : GrownTo w} {v : Value}
    (h : Calls P f args p.W' fun e w' => e = .returned v ∧ Below p.W'.heap.size p.W' w') : Calls P f args p.W' fun e w'' => e = .returned v ∧ ∃ p' : GrownTo w, w'' = p'.W' :=
  h.mono fun _ w' ⟨he, hb⟩ => ⟨he, ⟨w', p.h.trans (hb.mono p.h.size)⟩, rfl⟩
theorem cell_grownTo {w : World} {a : Addr} {v : Value} (hb : a.block < w.heap.size) (h : w.cell? a = some v) (p : GrownTo w) : p.W'.cell? a = some v :=
  (p.h.cell hb).trans h
end Go.Proofs.YtfnimmbmcjgdpaaDoor
