/- What Close hands back. -/
import Derived.Test.YtimgdooelbhjfaaGreatDoorRf3M
import Derived.Test.YtimgdooelbhjfaaGreatDoorRgI
namespace Go.Proofs.YtimgdooelbhjfaaGreatDoor
open Go.RowKit
set_option linter.unusedVariables false
def ClosePost (l : List (Int × Int)) (W : World) (e : Ending) (w' : World) : Prop :=
  ∃ v out, e = .returned v ∧ Rg.NormL out ∧ (∀ q, Rg.hasB out q = Fd.clB l q) ∧ RgOwn w' W.heap.size v out ∧ Below W.heap.size W w'
theorem own_block_some {W : World} {base : Nat} {v : Value} {l : List (Int × Int)} (h : RgOwn W base v l) {g : Nat} (hg : v.ownBlock = some g) : base ≤ g ∧ g < W.heap.size := World.ownsRow.lt h g hg
/-- A slice that does not lie below a block. -/
def Fresh (B : Nat) (v : Value) : Prop := ∀ b o s n c, v = .slice (some ⟨b, o, s⟩) n c → B ≤ b
theorem Fresh.lower {B B' : Nat} {v : Value} (h : Fresh B v) (hb : B' ≤ B) : Fresh B' v := fun b o s n c e => Nat.le_trans hb (h b o s n c e)
theorem IOwn.fresh {W : World} {base : Nat} {v : Value} {T : List Int} (h : IOwn W base v T) : Fresh base v := by
  rcases h.2 with ⟨rfl, _⟩ | ⟨g, cap, cur, rfl, hb, _⟩
  · intro b o s n c e; cases e
  · intro b o s n c e; injection e with e _ _; injection e with e; injection e with e _ _; omega
theorem take_snoc {l : List Int} {k : Nat} {x : Int} (hk : k < l.length) (hx : l[k]?.getD 0 = x) : l.take (k + 1) = l.take k ++ [x] := by
  rw [List.take_succ_eq_append_getElem hk]
  rw [List.getElem?_eq_getElem hk] at hx
  rw [← hx]; rfl
theorem map_take_succ (l : List Int) (k : Nat) (hk : k < l.length) (x : Int) (hx : l[k]?.getD 0 = x) : (l.take (k + 1)).map Fd.one = (l.take k).map Fd.one ++ [(x, x)] := by
  rw [take_snoc hk hx, List.map_append]; rfl
end Go.Proofs.YtimgdooelbhjfaaGreatDoor
