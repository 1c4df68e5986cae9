/- The reference's class (burinref04): its tables. -/
import Derived.Test.YtimgdooelbhjfaaGreatDoorR4A
namespace Go.Proofs.YtimgdooelbhjfaaGreatDoor
open Go.RowKit
set_option linter.unusedVariables false
theorem own_lits (W : World) (T : List Int) (n : Nat) (cs : Array Value) (hT : T.length = n) (hc : cs = (T.map (Value.int .i64)).toArray) (hn : n ≤ 1000) : IOwn (W.alloc (.cells cs 3)) W.heap.size (.slice (some ⟨W.heap.size, 0, none⟩) n n) T := by
  subst hc; subst hT
  exact ⟨by simp [flat1], .inr ⟨W.heap.size, T.length, (T.map (Value.int .i64)).toArray, rfl, Nat.le_refl _, heap_alloc_new _ _, Nat.le_refl _, by unfold maxLen; omega, by simp, by rw [Nat.mul_one]; exact List.take_of_length_le (by simp)⟩⟩
/-- A table of numbers, handed back. -/
def TabPost (T : List Int) (W : World) (e : Ending) (w' : World) : Prop := ∃ v, e = .returned v ∧ IOwn w' W.heap.size v T ∧ Below W.heap.size W w'
set_option maxRecDepth 100000 in
set_option maxHeartbeats 2000000 in
theorem word_any (W : World) : Calls Tryz.prog 28 #[] W (TabPost Cl.word W) := by
  go_enter Tryz.func28, Tryz.ntmps28
  go_wp2
  go_ret
  exact ⟨_, rfl, own_lits W Cl.word 8 _ rfl rfl (by decide), (Below.refl _ _).alloc (Nat.le_refl _) _⟩
set_option maxRecDepth 100000 in
set_option maxHeartbeats 2000000 in
theorem latin_any (W : World) : Calls Tryz.prog 55 #[] W (TabPost Cl.latin W) := by
  go_enter Tryz.func55, Tryz.ntmps55
  go_wp2
  go_ret
  exact ⟨_, rfl, own_lits W Cl.latin 14 _ rfl rfl (by decide), (Below.refl _ _).alloc (Nat.le_refl _) _⟩
set_option maxRecDepth 100000 in
set_option maxHeartbeats 2000000 in
theorem greek_any (W : World) : Calls Tryz.prog 52 #[] W (TabPost Cl.greek W) := by
  go_enter Tryz.func52, Tryz.ntmps52
  go_wp2
  go_ret
  exact ⟨_, rfl, own_lits W Cl.greek 24 _ rfl rfl (by decide), (Below.refl _ _).alloc (Nat.le_refl _) _⟩
set_option maxRecDepth 100000 in
set_option maxHeartbeats 2000000 in
theorem cyrillic_any (W : World) : Calls Tryz.prog 51 #[] W (TabPost Cl.cyrillic W) := by
  go_enter Tryz.func51, Tryz.ntmps51
  go_wp2
  go_ret
  exact ⟨_, rfl, own_lits W Cl.cyrillic 4 _ rfl rfl (by decide), (Below.refl _ _).alloc (Nat.le_refl _) _⟩
set_option maxRecDepth 100000 in
set_option maxHeartbeats 2000000 in
theorem capitals_any (W : World) : Calls Tryz.prog 53 #[] W (TabPost Cl.capitals W) := by
  go_enter Tryz.func53, Tryz.ntmps53
  go_wp2
  go_ret
  exact ⟨_, rfl, own_lits W Cl.capitals 14 _ rfl rfl (by decide), (Below.refl _ _).alloc (Nat.le_refl _) _⟩
set_option maxRecDepth 100000 in
set_option maxHeartbeats 2000000 in
theorem small_any (W : World) : Calls Tryz.prog 54 #[] W (TabPost Cl.small W) := by
  go_enter Tryz.func54, Tryz.ntmps54
  go_wp2
  go_ret
  exact ⟨_, rfl, own_lits W Cl.small 14 _ rfl rfl (by decide), (Below.refl _ _).alloc (Nat.le_refl _) _⟩
end Go.Proofs.YtimgdooelbhjfaaGreatDoor
