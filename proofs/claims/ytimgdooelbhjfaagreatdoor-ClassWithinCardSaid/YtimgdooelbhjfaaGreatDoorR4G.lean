/- The reference's class (burinref04): the contract of Names. -/
import Derived.Test.YtimgdooelbhjfaaGreatDoorBkT
namespace Go.Proofs.YtimgdooelbhjfaaGreatDoor
open Go.RowKit
set_option linter.unusedVariables false
/-- The names of the properties. -/
def namesB : List ByteArray := [⟨#[65, 110, 121]⟩, ⟨#[67, 121, 114, 105, 108, 108, 105, 99]⟩, ⟨#[71, 114, 101, 101, 107]⟩, ⟨#[76]⟩, ⟨#[76, 97, 116, 105, 110]⟩, ⟨#[76, 108]⟩, ⟨#[76, 117]⟩, ⟨#[78, 100]⟩]
def namesL : List (List UInt8) := namesB.map fun s => s.data.toList
theorem trow_lits (W : World) (B : List ByteArray) (n : Nat) (cs : Array Value) (t : TypeId) (hB : B.length = n) (hc : cs = (B.map Value.string).toArray) (hn : n ≤ 1000) : TRow (W.alloc (.cells cs t)) (.slice (some ⟨W.heap.size, 0, none⟩) n n) (B.map fun s => s.data.toList) := by
  subst hc; subst hB
  refine ⟨_, B.length, by rw [List.length_map], by simp, by omega, fun j hj => ?_⟩
  rw [List.length_map] at hj
  refine ⟨W.heap.size, B[j], rfl, by simp, by simp [hj], ?_⟩
  rw [ByteArray.toList_eq]; simp [hj]
set_option maxRecDepth 100000 in
set_option maxHeartbeats 2000000 in
theorem refNames_any (W : World) : Calls Tryz.prog 16 #[] W fun e w' => ∃ v, e = .returned v ∧ TRow w' v namesL ∧ Below W.heap.size W w' := by
  go_enter Tryz.func16, Tryz.ntmps16
  go_wp2
  go_ret
  exact ⟨_, rfl, trow_lits W namesB 8 _ _ rfl rfl (by decide), (Below.refl _ _).alloc (Nat.le_refl _) _⟩
end Go.Proofs.YtimgdooelbhjfaaGreatDoor
