/- burinlaw01.works, the chapter's example, holds in every world. -/
import Derived.Test.YtjeebamllahgkaaUtfD
import Derived.Test.YtjeebamllahgkaaUtfF
namespace Go.Proofs.Ytjeebamllahgkaa
open Go.RowKit
theorem enc233 (w : World) : Calls Try.prog 9 #[.int .i64 233] w fun e w' => e = .returned (.tuple #[.string ⟨#[195, 169]⟩, .int .i64 0]) ∧ Below w.heap.size w w' := by
  have h : strOfNums (Utf.encN 233) = ⟨#[195, 169]⟩ := by decide +kernel
  have := encode_yes 233 (by decide) w
  rw [h] at this
  exact this
theorem dec233 (w : World) : Calls Try.prog 11 #[.string ⟨#[195, 169, 120]⟩] w fun e w' => e = .returned (.tuple #[.int .i64 233, .int .i64 2]) ∧ ∃ n, w' = w.drewN n := by
  refine (decode_any ⟨#[195, 169, 120]⟩ (by decide) w).mono fun e w' ⟨h1, h2⟩ => ⟨h1.trans ?_, h2⟩
  have h : Utf.dec (Utf.nums ⟨#[195, 169, 120]⟩) = (233, 2) := by decide +kernel
  rw [h]
theorem cnt192 (w : World) : Calls Try.prog 19 #[.string ⟨#[192, 128]⟩] w fun e w' => e = .returned (.int .i64 2) ∧ Below w.heap.size w w' := by
  have h : (Utf.pieces (Utf.nums ⟨#[192, 128]⟩)).length = 2 := by decide +kernel
  have := count_any ⟨#[192, 128]⟩ (by decide) w
  rw [h] at this
  exact this
theorem val192 (w : World) : Calls Try.prog 20 #[.string ⟨#[192, 128]⟩] w fun e w' => e = .returned (.bool false) ∧ Below w.heap.size w w' := by
  have h : okB (Utf.pieces (Utf.nums ⟨#[192, 128]⟩)) = false := by decide +kernel
  have := valid_any ⟨#[192, 128]⟩ (by decide) w
  rw [h] at this
  exact this
set_option maxRecDepth 100000 in
set_option maxHeartbeats 400000 in
theorem works_any (w : World) : Calls Try.prog 15 #[] w fun e w' => e = .returned (.bool true) ∧ Below w.heap.size w w' := by
  go_enter Try.func15, Try.ntmps15
  go_wp2_with (first | (go_at_call 9; refine (enc233 _).mono ?_; rintro e w1 ⟨rfl, hb1⟩) | (go_at_call 11; refine (dec233 _).mono ?_; rintro e w2 ⟨rfl, nq, rfl⟩) | (go_at_call 19; refine (cnt192 _).mono ?_; rintro e w3 ⟨rfl, hb3⟩) | (go_at_call 20; refine (val192 _).mono ?_; rintro e w4 ⟨rfl, hb4⟩))
  go_ret
  exact ⟨rfl, ((hb1.trans ((below_drewN _ _ _).mono hb1.size)).trans (hb3.mono hb1.size)).trans (hb4.mono (Nat.le_trans hb1.size hb3.size))⟩
end Go.Proofs.Ytjeebamllahgkaa
