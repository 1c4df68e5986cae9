/- The reference's class (burinref04): the name between colons. -/
import Derived.Test.YtimgdooelbhjfaaGreatDoorR4B
namespace Go.Proofs.YtimgdooelbhjfaaGreatDoor
open Go.RowKit
set_option linter.unusedVariables false
theorem irow_nil (W : World) : IRow W (.slice none 0 0) [] := ⟨none, 0, rfl, Nat.le_refl _, by decide, fun j h => absurd h (Nat.not_lt_zero _)⟩
/-- What a table has of a name, handed back. -/
def LookPost (T : List (List UInt8 × List Int)) (s : List UInt8) (W : World) (e : Ending) (w' : World) : Prop :=
  ∃ v o, Cl.look T s = o ∧ e = .returned (.tuple #[v, .bool o.isSome]) ∧ IRow w' v (o.getD []) ∧ Below W.heap.size W w'
set_option maxRecDepth 100000 in
set_option maxHeartbeats 2000000 in
theorem colon_any (W : World) (s : ByteArray) : Calls Tryz.prog 32 #[.string s] W (LookPost Cl.colonT s.toList W) := by
  go_enter Tryz.func32, Tryz.ntmps32
  go_wp2_with (go_at_call 28; refine (word_any _).mono ?_; rintro e w1 ⟨v, rfl, ho, hb⟩)
  · go_ret2
    exact ⟨_, some [48, 57, 65, 90, 97, 122], (by unfold Cl.colonT; repeat (first | exact Cl.look_hit (by assumption) | refine Eq.trans (Cl.look_miss (by assumption)) ?_ | rfl)), rfl, (own_lits W [48, 57, 65, 90, 97, 122] 6 _ rfl rfl (by decide)).row, (Below.refl _ _).alloc (Nat.le_refl _) _⟩
  · go_ret2
    exact ⟨_, some [65, 90, 97, 122], (by unfold Cl.colonT; repeat (first | exact Cl.look_hit (by assumption) | refine Eq.trans (Cl.look_miss (by assumption)) ?_ | rfl)), rfl, (own_lits W [65, 90, 97, 122] 4 _ rfl rfl (by decide)).row, (Below.refl _ _).alloc (Nat.le_refl _) _⟩
  · go_ret2
    exact ⟨_, some [0, 127], (by unfold Cl.colonT; repeat (first | exact Cl.look_hit (by assumption) | refine Eq.trans (Cl.look_miss (by assumption)) ?_ | rfl)), rfl, (own_lits W [0, 127] 2 _ rfl rfl (by decide)).row, (Below.refl _ _).alloc (Nat.le_refl _) _⟩
  · go_ret2
    exact ⟨_, some [9, 9, 32, 32], (by unfold Cl.colonT; repeat (first | exact Cl.look_hit (by assumption) | refine Eq.trans (Cl.look_miss (by assumption)) ?_ | rfl)), rfl, (own_lits W [9, 9, 32, 32] 4 _ rfl rfl (by decide)).row, (Below.refl _ _).alloc (Nat.le_refl _) _⟩
  · go_ret2
    exact ⟨_, some [0, 31, 127, 127], (by unfold Cl.colonT; repeat (first | exact Cl.look_hit (by assumption) | refine Eq.trans (Cl.look_miss (by assumption)) ?_ | rfl)), rfl, (own_lits W [0, 31, 127, 127] 4 _ rfl rfl (by decide)).row, (Below.refl _ _).alloc (Nat.le_refl _) _⟩
  · go_ret2
    exact ⟨_, some [48, 57], (by unfold Cl.colonT; repeat (first | exact Cl.look_hit (by assumption) | refine Eq.trans (Cl.look_miss (by assumption)) ?_ | rfl)), rfl, (own_lits W [48, 57] 2 _ rfl rfl (by decide)).row, (Below.refl _ _).alloc (Nat.le_refl _) _⟩
  · go_ret2
    exact ⟨_, some [33, 126], (by unfold Cl.colonT; repeat (first | exact Cl.look_hit (by assumption) | refine Eq.trans (Cl.look_miss (by assumption)) ?_ | rfl)), rfl, (own_lits W [33, 126] 2 _ rfl rfl (by decide)).row, (Below.refl _ _).alloc (Nat.le_refl _) _⟩
  · go_ret2
    exact ⟨_, some [97, 122], (by unfold Cl.colonT; repeat (first | exact Cl.look_hit (by assumption) | refine Eq.trans (Cl.look_miss (by assumption)) ?_ | rfl)), rfl, (own_lits W [97, 122] 2 _ rfl rfl (by decide)).row, (Below.refl _ _).alloc (Nat.le_refl _) _⟩
  · go_ret2
    exact ⟨_, some [32, 126], (by unfold Cl.colonT; repeat (first | exact Cl.look_hit (by assumption) | refine Eq.trans (Cl.look_miss (by assumption)) ?_ | rfl)), rfl, (own_lits W [32, 126] 2 _ rfl rfl (by decide)).row, (Below.refl _ _).alloc (Nat.le_refl _) _⟩
  · go_ret2
    exact ⟨_, some [33, 47, 58, 64, 91, 96, 123, 126], (by unfold Cl.colonT; repeat (first | exact Cl.look_hit (by assumption) | refine Eq.trans (Cl.look_miss (by assumption)) ?_ | rfl)), rfl, (own_lits W [33, 47, 58, 64, 91, 96, 123, 126] 8 _ rfl rfl (by decide)).row, (Below.refl _ _).alloc (Nat.le_refl _) _⟩
  · go_ret2
    exact ⟨_, some [9, 13, 32, 32], (by unfold Cl.colonT; repeat (first | exact Cl.look_hit (by assumption) | refine Eq.trans (Cl.look_miss (by assumption)) ?_ | rfl)), rfl, (own_lits W [9, 13, 32, 32] 4 _ rfl rfl (by decide)).row, (Below.refl _ _).alloc (Nat.le_refl _) _⟩
  · go_ret2
    exact ⟨_, some [65, 90], (by unfold Cl.colonT; repeat (first | exact Cl.look_hit (by assumption) | refine Eq.trans (Cl.look_miss (by assumption)) ?_ | rfl)), rfl, (own_lits W [65, 90] 2 _ rfl rfl (by decide)).row, (Below.refl _ _).alloc (Nat.le_refl _) _⟩
  · go_ret2
    exact ⟨_, some Cl.word, (by unfold Cl.colonT; repeat (first | exact Cl.look_hit (by assumption) | refine Eq.trans (Cl.look_miss (by assumption)) ?_ | rfl)), rfl, ho.row, hb⟩
  · go_ret2
    exact ⟨_, some [48, 57, 65, 70, 97, 102], (by unfold Cl.colonT; repeat (first | exact Cl.look_hit (by assumption) | refine Eq.trans (Cl.look_miss (by assumption)) ?_ | rfl)), rfl, (own_lits W [48, 57, 65, 70, 97, 102] 6 _ rfl rfl (by decide)).row, (Below.refl _ _).alloc (Nat.le_refl _) _⟩
  · go_ret2
    exact ⟨_, none, (by unfold Cl.colonT; repeat (first | exact Cl.look_hit (by assumption) | refine Eq.trans (Cl.look_miss (by assumption)) ?_ | rfl)), rfl, irow_nil _, Below.refl _ _⟩
end Go.Proofs.YtimgdooelbhjfaaGreatDoor
