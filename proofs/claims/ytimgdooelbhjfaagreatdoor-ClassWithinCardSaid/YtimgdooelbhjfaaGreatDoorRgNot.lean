/- The contracts of the reference's All and Not (burinref02). -/
import Derived.Test.YtimgdooelbhjfaaGreatDoorRgD
import Derived.Test.YtimgdooelbhjfaaGreatDoorRgM3
namespace Go.Proofs.YtimgdooelbhjfaaGreatDoor
open Go.RowKit
set_option linter.unusedVariables false
set_option maxRecDepth 100000 in
set_option maxHeartbeats 2000000 in
theorem refAll (W : World) :
    Calls Tryz.prog 49 #[] W fun e w' => ∃ v, e = .returned v ∧ RgOwn w' W.heap.size v [(0, 1114111)] ∧ Below W.heap.size W w' := by
  go_enter Tryz.func49, Tryz.ntmps49
  go_wp2
  go_ret
  refine ⟨_, rfl, ⟨rfl, Or.inr ⟨W.heap.size, 1, _, rfl, Nat.le_refl _, World.alloc_heap_new _ _, by decide, by decide, rfl, rfl⟩⟩, (Below.refl _ _).alloc (Nat.le_refl _) _⟩
set_option maxRecDepth 100000 in
set_option maxHeartbeats 2000000 in
theorem refNot (W : World) (va : Value) (a : List (Int × Int)) (ha : RRow W va a) :
    Calls Tryz.prog 27 #[va] W (MakePost 3 [(0, 1114111)] a W) := by
  have HA := Lib.hid ha
  clear ha
  go_enter Tryz.func27, Tryz.ntmps27
  go_wp2_with fail
  refine (refAll _).mono ?_
  rintro e wa ⟨va', rfl, hoa, hba⟩
  have HRA := Lib.hid (hoa.row (by decide) (by intro p hp; simp at hp; subst hp; decide))
  have HA' := Lib.hid (HA.out.below (Nat.le_refl _) hba)
  have HB := Lib.hid hba
  clear hoa hba HA
  go_wp2_with fail
  refine (refMake3 _ _ _ [(0, 1114111)] a HRA.out HA'.out).mono ?_
  rintro e wb ⟨v, out, rfl, hm, ho, hb⟩
  go_wp2
  go_ret
  exact ⟨v, out, rfl, hm, ⟨ho.1, ho.2.imp id (fun ⟨g, cap, cur, h1, h2, h3⟩ => ⟨g, cap, cur, h1, Nat.le_trans HB.out.size h2, h3⟩)⟩, HB.out.trans (hb.mono HB.out.size)⟩
end Go.Proofs.YtimgdooelbhjfaaGreatDoor
