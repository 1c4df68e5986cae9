/- The contracts of the small functions of package utf and of its reference: width, first byte's mark, announced length. -/
import Derived.Test.YtjeebamllahgkaaRows
import Derived.Test.YtjeebamllahgkaaUtfMath
import Derived.WalkKit
import Derived.OwnWalk
import Derived.WalkLawsBesides
import Derived.WalkSpells
namespace Go.Proofs.Ytjeebamllahgkaa
open Go.RowKit

theorem ret_int {k : IntKind} {a b : Int} (h : a = b) : Ending.returned (.int k a) = .returned (.int k b) := by rw [h]

theorem width_any (r : Int) (w : World) : Calls Try.prog 13 #[.int .i64 r] w fun e w' => e = .returned (.int .i64 (Utf.width r)) ∧ w = w' := by
  go_enter Try.func13, Try.ntmps13
  go_wp2
  all_goals
    go_ret
    refine ⟨ret_int ?_, rfl⟩
    unfold Utf.width
    repeat (first | omega | rfl | split)
theorem refWidth_any (r : Int) (w : World) : Calls Try.prog 14 #[.int .i64 r] w fun e w' => e = .returned (.int .i64 (Utf.width r)) ∧ w = w' := by
  go_enter Try.func14, Try.ntmps14
  go_wp2
  all_goals
    go_ret
    refine ⟨ret_int ?_, rfl⟩
    unfold Utf.width
    repeat (first | omega | rfl | split)
theorem announced_any (r : Int) (w : World) : Calls Try.prog 25 #[.int .u8 r] w fun e w' => e = .returned (.int .i64 (Utf.ann r)) ∧ w = w' := by
  go_enter Try.func25, Try.ntmps25
  go_wp2
  all_goals
    go_ret
    refine ⟨ret_int ?_, rfl⟩
    unfold Utf.ann
    repeat (first | omega | rfl | split)
theorem mark_any (r : Int) (w : World) : Calls Try.prog 26 #[.int .i64 r] w fun e w' => e = .returned (.int .i64 (Utf.mark r)) ∧ w = w' := by
  go_enter Try.func26, Try.ntmps26
  go_wp2
  all_goals
    go_ret
    refine ⟨ret_int ?_, rfl⟩
    unfold Utf.mark
    simp_all
end Go.Proofs.Ytjeebamllahgkaa
