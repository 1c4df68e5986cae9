/- The landed ranges: Minus. -/
import Derived.Test.YtimgdooelbhjfaaGreatDoorRnU0
namespace Go.Proofs.YtimgdooelbhjfaaGreatDoor
open Go.RowKit
set_option linter.unusedVariables false
set_option maxRecDepth 100000 in
set_option maxHeartbeats 1000000 in
theorem keep_minus : KeepOk 58 (fun x y => x && !y) := by
  refine ⟨enters_of Tryz.func58 (by kernel_rfl) rfl, fun x y w => ?_⟩
  cases x <;> cases y
  all_goals
    go_enter Tryz.func58, Tryz.ntmps58
    go_wp2
    go_ret
    exact ⟨rfl, rfl⟩
set_option maxRecDepth 100000 in
set_option maxHeartbeats 1000000 in
theorem minus_any (W : World) (va vb : Value) (a b : List (Int × Int)) (ha : RRow W va a) (hb : RRow W vb b) : Calls Tryz.prog 37 #[va, vb] W (MakePost 3 a b W) := by
  have HC := Lib.hid (combine_any W va vb a b _ _ 3 keep_minus rfl (fun x y => by cases x <;> cases y <;> rfl) ha hb)
  clear ha hb
  go_enter Tryz.func37, Tryz.ntmps37
  go_wp2_with fail
  refine HC.out.mono ?_
  rintro e w1 ⟨v, out, rfl, hm, ho, hb⟩
  have HM := Lib.hid (And.intro hm (And.intro ho hb))
  clear hm ho hb
  go_wp2
  go_ret
  exact ⟨v, out, rfl, HM.out⟩
end Go.Proofs.YtimgdooelbhjfaaGreatDoor
