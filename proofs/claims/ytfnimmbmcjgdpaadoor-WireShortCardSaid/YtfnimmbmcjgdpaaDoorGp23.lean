/- Functions of the library: the library's contracts, laid over this translation. · Functions of the library: the library's contracts, laid over this translation. · A range over a function whose iterator turns elder blocks (maps, rows of its own): the caller's word abides what the iterator may do (Fr); what the iterator leaves is told (S, with the world). · The landed prog: strings.Lines and its iterator. · The landed prog: the iterator of lines. · A region that draws its order, in a round of a range over a function: as outside of it, where nothing is deferred. · A region that draws its order, in a round of a range over a function, where the fence bars nothing: the plain walk that holds a word of the world serves. · Two rows of integers that a call owns, in different blocks: appending to one leaves the other. · The landed prog: guess. -/
import Derived.Shelf.Small.Wraps
import Derived.Test.YtfnimmbmcjgdpaaDoorProg
import Derived.Shelf.Small.Strs
import Derived.RangeFuncBox
import Derived.RangeFuncCalls
import Derived.RangeFuncNested
import Derived.Test.YtfnimmbmcjgdpaaDoorGp19
import Derived.RangeFuncBound
import Derived.RangeFuncLeaves
import Derived.Shelf.Abstract
import Derived.OwnWalkIn
import Derived.TacticsInMore
import Derived.LoopNIn
import Derived.LoopIn
import Derived.Test.YtfnimmbmcjgdpaaDoorGp13
import Derived.Sort.QuietTacIn
import Derived.Deep.RegionHeld3
import Derived.Test.YtfnimmbmcjgdpaaDoorRows
import Derived.WalkKit
import Derived.OwnWalk
import Derived.Maps.AppendAt
import Derived.Deep.AppendLies
import Derived.RangeFuncWrites
namespace Go.Proofs
open Go.Shelf
def Tryd.layPrefix_ren : Go.Shelf.Ren := ⟨fun | 103 => 57 | 210 => 88 | 206 => 110 | n => n, fun | 9 => 9 | 4 => 4 | 24 => 104 | 3 => 3 | n => n, fun | n => n⟩
theorem Tryd.layPrefix : Go.Proofs.Lays.n103 Tryd.prog Tryd.layPrefix_ren := {
  mixed := by kernel_rfl
  f103 := Tryd.func57.trans (congrArg some (by kernel_rfl))
  f206 := Tryd.func110.trans (congrArg some (by kernel_rfl))
  f210 := Tryd.func88.trans (congrArg some (by kernel_rfl))
  t3 := Tryd.underlying3
  a3 := Tryd.isAgg3
  z3 := Tryd.sizeOf3
  v3 := Tryd.zeroValue3
  t4 := Tryd.underlying4
  a4 := Tryd.isAgg4
  z4 := Tryd.sizeOf4
  v4 := Tryd.zeroValue4
  t9 := Tryd.underlying9
  a9 := Tryd.isAgg9
  z9 := Tryd.sizeOf9
  v9 := Tryd.zeroValue9
  t24 := Tryd.underlying104
  a24 := Tryd.isAgg104
  z24 := Tryd.sizeOf104
  v24 := Tryd.zeroValue104 }
end Go.Proofs
namespace Go.Proofs
open Go.Shelf
end Go.Proofs
namespace Go.Proofs.YtfnimmbmcjgdpaaDoor
open Go Go.RowKit
set_option linter.unusedVariables false
end Go.Proofs.YtfnimmbmcjgdpaaDoor
namespace Go.Proofs.YtfnimmbmcjgdpaaDoor
open Go.RowKit Go.Shelf
attribute [local go_sem] Oper.semAt_some
set_option linter.unusedVariables false
namespace Pgm
end Pgm
end Go.Proofs.YtfnimmbmcjgdpaaDoor
namespace Go.Proofs.YtfnimmbmcjgdpaaDoor
open Go.RowKit Go.Shelf
attribute [local go_sem] Oper.semAt_some
set_option linter.unusedVariables false
namespace Pgm
end Pgm
end Go.Proofs.YtfnimmbmcjgdpaaDoor
namespace Go.Proofs.YtfnimmbmcjgdpaaDoor
open Go Go.RowKit
set_option linter.unusedVariables false
section
variable {F : Fence} {n : Nat} {P : Program} {ops : Array Oper} {Q : Exit → Act → World → Prop} {md : Region.Mode}
end
end Go.Proofs.YtfnimmbmcjgdpaaDoor
namespace Go.Proofs.YtfnimmbmcjgdpaaDoor
open Go Go.RowKit
set_option linter.unusedVariables false
section
variable {n : Nat} {P : Program} {ops : Array Oper} {Q : Exit → Act → World → Prop} {md : Region.Mode}
end
open Lean Elab Tactic in
/-- The walk itself, from a goal 'wpAnyH ..' on. -/
elab "go_walkH3 " "(" keep:tactic ")" ppSpace "(" tac:tactic ")" : tactic => do
  let m0 ← Core.getAndEmptyMessageLog
  regionWalkH3 keep tac false
  -- its words on what it could not take first are not wanted: that it branches there is meant
  modifyThe Core.State fun s => { s with messages := m0 }
end Go.Proofs.YtfnimmbmcjgdpaaDoor
namespace Go.Proofs.YtfnimmbmcjgdpaaDoor
open Go.RowKit
def TwoRows (W : World) (base : Nat) (v1 : Value) (n1 : Nat) (x1 : List Value) (v2 : Value) (n2 : Nat) (x2 : List Value) : Prop :=
  W.ownsRow base 3 1 v1 n1 x1 ∧ W.ownsRow base 3 1 v2 n2 x2 ∧ ∀ g, v1.ownBlock = some g → v2.ownBlock ≠ some g
theorem TwoRows.nil (W : World) (base : Nat) : TwoRows W base (.slice none 0 0) 0 [] (.slice none 0 0) 0 [] :=
  ⟨World.ownsRow_nil _ _ _ _, World.ownsRow_nil _ _ _ _, fun g h => by cases h⟩
theorem TwoRows.kept {W W' : World} {base : Nat} {v1 v2 : Value} {n1 n2 : Nat} {x1 x2 : List Value} {row : Option Nat} (h : TwoRows W base v1 n1 x1 v2 n2 x2) (hg : W.grownBy W' row)
    (h1 : v1.ownBlock = none ∨ v1.ownBlock ≠ row) (h2 : v2.ownBlock = none ∨ v2.ownBlock ≠ row) : TwoRows W' base v1 n1 x1 v2 n2 x2 :=
  ⟨h.1.kept hg h1, h.2.1.kept hg h2, h.2.2⟩
theorem TwoRows.grew {W W' : World} {base : Nat} {v1 v2 : Value} {n1 n2 : Nat} {x1 x2 : List Value} (h : TwoRows W base v1 n1 x1 v2 n2 x2) (hg : W.grownBy W' none) : TwoRows W' base v1 n1 x1 v2 n2 x2 :=
  h.kept hg (by cases hv : v1.ownBlock <;> simp) (by cases hv : v2.ownBlock <;> simp)
theorem TwoRows.below {W W' : World} {base : Nat} {v1 v2 : Value} {n1 n2 : Nat} {x1 x2 : List Value} (h : TwoRows W base v1 n1 x1 v2 n2 x2) (hb : Below W.heap.size W W') : TwoRows W' base v1 n1 x1 v2 n2 x2 :=
  h.grew ⟨hb.os, hb.tape, hb.output, hb.size, fun k hk _ => hb.block k hk⟩
/-- The first row has been appended to. -/
theorem TwoRows.first {W W' : World} {base H : Nat} {v1 v2 v' : Value} {n1 n1' n2 : Nat} {x1 x1' x2 : List Value} (h : TwoRows W base v1 n1 x1 v2 n2 x2)
    (ho : W'.ownsRow base 3 1 v' n1' x1') (hg : W.grownBy W' v1.ownBlock) {g : Nat} (hv : v'.ownBlock = some g) (hat : v1.ownBlock = some g ∨ g = H) (hH : W.heap.size ≤ H) : TwoRows W' base v' n1' x1' v2 n2 x2 := by
  refine ⟨ho, h.2.1.kept hg ?_, ?_⟩
  · cases hv1 : v1.ownBlock with
    | none => cases hv2 : v2.ownBlock <;> simp
    | some k => exact .inr (h.2.2 k hv1)
  · intro g' hg' he
    rw [hv] at hg'
    cases hg'
    have lt := h.2.1.lt g he
    rcases hat with hat | hat
    · exact h.2.2 g hat he
    · omega

theorem ownsRow_own {W W' : World} {base : Nat} {e : TypeId} {size : Nat} {v : Value} {n : Nat} {xs : List Value} {row : Option Nat} (h : W.ownsRow base e size v n xs) (hg : W.grownBy W' row)
    (hr : ∀ r, row = some r → ∃ o : Obj, W.heap[r]? = some o ∧ o.isCells = false) : W'.ownsRow base e size v n xs := by
  refine h.kept hg ?_
  rcases h.2 with ⟨rfl, _⟩ | ⟨g, cap, cur, rfl, _, hh, _⟩
  · exact .inl rfl
  · right
    intro e'
    obtain ⟨o, ho, hc⟩ := hr g e'.symm
    rw [hh] at ho
    cases ho
    cases hc
theorem TwoRows.own {W W' : World} {base : Nat} {v1 v2 : Value} {n1 n2 : Nat} {x1 x2 : List Value} {row : Option Nat} (h : TwoRows W base v1 n1 x1 v2 n2 x2) (hg : W.grownBy W' row)
    (hr : ∀ r, row = some r → ∃ o : Obj, W.heap[r]? = some o ∧ o.isCells = false) : TwoRows W' base v1 n1 x1 v2 n2 x2 :=
  ⟨ownsRow_own h.1 hg hr, ownsRow_own h.2.1 hg hr, h.2.2⟩
end Go.Proofs.YtfnimmbmcjgdpaaDoor
namespace Go.Proofs.YtfnimmbmcjgdpaaDoor
open Go.RowKit Go.Shelf
attribute [local go_sem] Oper.semAt_some
set_option linter.unusedVariables false
namespace Pgm
theorem box3_set {W2 : World} {r : Nat} {x y z : Value} {t : TypeId} (a b c : Value) (h : W2.heap[r]? = some (.cells #[x, y, z] t (0, 0))) :
    W2.grownBy (((W2.setCell ⟨r, 0, none⟩ a).setCell ⟨r, 1, none⟩ b).setCell ⟨r, 2, none⟩ c) (some r) ∧ (((W2.setCell ⟨r, 0, none⟩ a).setCell ⟨r, 1, none⟩ b).setCell ⟨r, 2, none⟩ c).heap[r]? = some (.cells #[a, b, c] t (0, 0)) := by
  refine ⟨⟨rfl, rfl, rfl, ?_, fun k _ hk => ?_⟩, ?_⟩
  · exact Nat.le_trans (Nat.le_trans (KeepsWalks.setCell _ _ _).size (KeepsWalks.setCell _ _ _).size) (KeepsWalks.setCell _ _ _).size
  · have hne : k ≠ r := fun e => hk (by rw [e])
    exact (Below.heap_setCell _ _ _ k hne).trans ((Below.heap_setCell _ _ _ k hne).trans (Below.heap_setCell _ _ _ k hne))
  · exact heap_setCell_same _ r 2 _ _ c (heap_setCell_same _ r 1 _ _ b (heap_setCell_same _ r 0 _ _ a h))
end Pgm
end Go.Proofs.YtfnimmbmcjgdpaaDoor
