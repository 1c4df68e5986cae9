/- The landed ranges: Not. -/
import Derived.Test.YtimgdooelbhjfaaGreatDoorRnU3
namespace Go.Proofs.YtimgdooelbhjfaaGreatDoor
open Go.RowKit
set_option linter.unusedVariables false
set_option maxRecDepth 100000 in
set_option maxHeartbeats 1000000 in
theorem not_any (W : World) (va : Value) (a : List (Int × Int)) (ha : RRow W va a) : Calls Tryz.prog 19 #[va] W (MakePost 3 [(0, 1114111)] a W) := by
  have HB := Lib.hid ((Below.refl W.heap.size W).alloc (Nat.le_refl _) (.cells #[.int .i64 0, .int .i64 1114111] 42))
  have HC := Lib.hid (minus_any _ _ _ _ a (rrow_one W 0 1114111 (by decide) (by decide) 42) (ha.below (Nat.le_refl _) HB.out))
  clear ha
  go_enter Tryz.func19, Tryz.ntmps19
  go_wp2_with fail
  refine HC.out.mono ?_
  rintro e w1 ⟨v, out, rfl, hm, ho, hb⟩
  have HM := Lib.hid (And.intro hm (And.intro (ho.lower HB.out.size) (HB.out.trans (hb.mono HB.out.size))))
  clear hm ho hb
  go_wp2
  go_ret
  exact ⟨v, out, rfl, HM.out⟩
end Go.Proofs.YtimgdooelbhjfaaGreatDoor
