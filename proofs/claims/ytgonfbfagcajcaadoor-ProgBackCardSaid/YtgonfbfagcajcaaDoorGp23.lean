/- Two rows of integers that a call owns, in different blocks: appending to one leaves the other. -/
import Derived.Test.YtgonfbfagcajcaaDoorRows
import Derived.WalkKit
import Derived.OwnWalk
import Derived.Maps.AppendAt
import Derived.Deep.AppendLies
import Derived.RangeFuncWrites
namespace Go.Proofs.YtgonfbfagcajcaaDoor
open Go.RowKit
def TwoRows (W : World) (base : Nat) (v1 : Value) (n1 : Nat) (x1 : List Value) (v2 : Value) (n2 : Nat) (x2 : List Value) : Prop :=
  W.ownsRow base 3 1 v1 n1 x1 ∧ W.ownsRow base 3 1 v2 n2 x2 ∧ ∀ g, v1.ownBlock = some g → v2.ownBlock ≠ some g
theorem TwoRows.nil (W : World) (base : Nat) : TwoRows W base (.slice none 0 0) 0 [] (.slice none 0 0) 0 [] :=
  ⟨World.ownsRow_nil _ _ _ _, World.ownsRow_nil _ _ _ _, fun g h => by cases h⟩
theorem TwoRows.kept {W W' : World} {base : Nat} {v1 v2 : Value} {n1 n2 : Nat} {x1 x2 : List Value} {row : Option Nat} (h : TwoRows W base v1 n1 x1 v2 n2 x2) (hg : W.grownBy W' row)
    (h1 : v1.ownBlock = none ∨ v1.ownBlock ≠ row) (h2 : v2.ownBlock = none ∨ v2.ownBlock ≠ row) : TwoRows W' base v1 n1 x1 v2 n2 x2 :=
  ⟨h.1.kept hg h1, h.2.1.kept hg h2, h.2.2⟩
theorem TwoRows.grew {W W' : World} {base : Nat} {v1 v2 : Value} {n1 n2 : Nat} {x1 x2 : List Value} (h : TwoRows W base v1 n1 x1 v2 n2 x2) (hg : W.grownBy W' none) : TwoRows W' base v1 n1 x1 v2 n2 x2 :=
  h.kept hg (by cases hv : v1.ownBlock <;> simp) (by cases hv : v2.ownBlock <;> simp)
theorem TwoRows.below {W W' : World} {base : Nat} {v1 v2 : Value} {n1 n2 : Nat} {x1 x2 : List Value} (h : TwoRows W base v1 n1 x1 v2 n2 x2) (hb : Below W.heap.size W W') : TwoRows W' base v1 n1 x1 v2 n2 x2 :=
  h.grew ⟨hb.os, hb.tape, hb.output, hb.size, fun k hk _ => hb.block k hk⟩
/-- The first row has been appended to. -/
theorem TwoRows.first {W W' : World} {base H : Nat} {v1 v2 v' : Value} {n1 n1' n2 : Nat} {x1 x1' x2 : List Value} (h : TwoRows W base v1 n1 x1 v2 n2 x2)
    (ho : W'.ownsRow base 3 1 v' n1' x1') (hg : W.grownBy W' v1.ownBlock) {g : Nat} (hv : v'.ownBlock = some g) (hat : v1.ownBlock = some g ∨ g = H) (hH : W.heap.size ≤ H) : TwoRows W' base v' n1' x1' v2 n2 x2 := by
  refine ⟨ho, h.2.1.kept hg ?_, ?_⟩
  · cases hv1 : v1.ownBlock with
    | none => cases hv2 : v2.ownBlock <;> simp
    | some k => exact .inr (h.2.2 k hv1)
  · intro g' hg' he
    rw [hv] at hg'
    cases hg'
    have lt := h.2.1.lt g he
    rcases hat with hat | hat
    · exact h.2.2 g hat he
    · omega

theorem ownsRow_own {W W' : World} {base : Nat} {e : TypeId} {size : Nat} {v : Value} {n : Nat} {xs : List Value} {row : Option Nat} (h : W.ownsRow base e size v n xs) (hg : W.grownBy W' row)
    (hr : ∀ r, row = some r → ∃ o : Obj, W.heap[r]? = some o ∧ o.isCells = false) : W'.ownsRow base e size v n xs := by
  refine h.kept hg ?_
  rcases h.2 with ⟨rfl, _⟩ | ⟨g, cap, cur, rfl, _, hh, _⟩
  · exact .inl rfl
  · right
    intro e'
    obtain ⟨o, ho, hc⟩ := hr g e'.symm
    rw [hh] at ho
    cases ho
    cases hc
theorem TwoRows.own {W W' : World} {base : Nat} {v1 v2 : Value} {n1 n2 : Nat} {x1 x2 : List Value} {row : Option Nat} (h : TwoRows W base v1 n1 x1 v2 n2 x2) (hg : W.grownBy W' row)
    (hr : ∀ r, row = some r → ∃ o : Obj, W.heap[r]? = some o ∧ o.isCells = false) : TwoRows W' base v1 n1 x1 v2 n2 x2 :=
  ⟨ownsRow_own h.1 hg hr, ownsRow_own h.2.1 hg hr, h.2.2⟩
end Go.Proofs.YtgonfbfagcajcaaDoor
