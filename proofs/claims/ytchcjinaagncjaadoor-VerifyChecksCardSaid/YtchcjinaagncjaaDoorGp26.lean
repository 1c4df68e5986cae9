/- The reference (burinref14): Fits, Check. -/
import Derived.Test.YtchcjinaagncjaaDoorGp7
namespace Go.Proofs.YtchcjinaagncjaaDoor
open Go.RowKit
set_option linter.unusedVariables false
namespace Pgm
theorem rb {a b : Bool} (h : a = b) : Ending.returned (.bool a) = .returned (.bool b) := by rw [h]
set_option maxRecDepth 100000 in
set_option maxHeartbeats 4000000 in
theorem refFit14_1 (lo hi x y : Int) (W : World) : Calls Tryd.prog 76 #[.agg #[.int .i64 1, .int .i64 lo, .int .i64 hi, .int .i64 x, .int .i64 y]] W fun e w' => e = .returned (.bool (fitB ⟨1, lo, hi, x, y⟩)) ∧ Below W.heap.size W w' := by
  obtain ⟨Z, hZ⟩ : ∃ Z, fitB ⟨1, lo, hi, x, y⟩ = Z := ⟨_, rfl⟩
  rw [hZ]
  have HZ : Hid (Z = true ↔ Fit ⟨1, lo, hi, x, y⟩) := Lib.hid (by rw [← hZ]; exact fitB_iff _)
  clear hZ
  go_enter Tryd.func76, Tryd.ntmps76
  go_wp2
  all_goals
    go_ret
    refine ⟨rb ?_, (Below.refl _ _).alloc (Nat.le_refl _) _⟩
    rw [Bool.eq_iff_iff, HZ.out]
    unfold Fit
    dsimp only
    try simp only [beq_iff_eq, bne_iff_ne, decide_eq_true_eq, Bool.false_eq_true, true_and, and_true, true_or, or_true, false_iff, iff_false, true_iff, iff_true]
    omega
set_option maxRecDepth 100000 in
set_option maxHeartbeats 4000000 in
theorem refFit14_2 (lo hi x y : Int) (W : World) : Calls Tryd.prog 76 #[.agg #[.int .i64 2, .int .i64 lo, .int .i64 hi, .int .i64 x, .int .i64 y]] W fun e w' => e = .returned (.bool (fitB ⟨2, lo, hi, x, y⟩)) ∧ Below W.heap.size W w' := by
  obtain ⟨Z, hZ⟩ : ∃ Z, fitB ⟨2, lo, hi, x, y⟩ = Z := ⟨_, rfl⟩
  rw [hZ]
  have HZ : Hid (Z = true ↔ Fit ⟨2, lo, hi, x, y⟩) := Lib.hid (by rw [← hZ]; exact fitB_iff _)
  clear hZ
  go_enter Tryd.func76, Tryd.ntmps76
  go_wp2
  all_goals
    go_ret
    refine ⟨rb ?_, (Below.refl _ _).alloc (Nat.le_refl _) _⟩
    rw [Bool.eq_iff_iff, HZ.out]
    unfold Fit
    dsimp only
    try simp only [beq_iff_eq, bne_iff_ne, decide_eq_true_eq, Bool.false_eq_true, true_and, and_true, true_or, or_true, false_iff, iff_false, true_iff, iff_true]
    omega
set_option maxRecDepth 100000 in
set_option maxHeartbeats 4000000 in
theorem refFit14_3 (lo hi x y : Int) (W : World) : Calls Tryd.prog 76 #[.agg #[.int .i64 3, .int .i64 lo, .int .i64 hi, .int .i64 x, .int .i64 y]] W fun e w' => e = .returned (.bool (fitB ⟨3, lo, hi, x, y⟩)) ∧ Below W.heap.size W w' := by
  obtain ⟨Z, hZ⟩ : ∃ Z, fitB ⟨3, lo, hi, x, y⟩ = Z := ⟨_, rfl⟩
  rw [hZ]
  have HZ : Hid (Z = true ↔ Fit ⟨3, lo, hi, x, y⟩) := Lib.hid (by rw [← hZ]; exact fitB_iff _)
  clear hZ
  go_enter Tryd.func76, Tryd.ntmps76
  go_wp2
  all_goals
    go_ret
    refine ⟨rb ?_, (Below.refl _ _).alloc (Nat.le_refl _) _⟩
    rw [Bool.eq_iff_iff, HZ.out]
    unfold Fit
    dsimp only
    try simp only [beq_iff_eq, bne_iff_ne, decide_eq_true_eq, Bool.false_eq_true, true_and, and_true, true_or, or_true, false_iff, iff_false, true_iff, iff_true]
    omega
set_option maxRecDepth 100000 in
set_option maxHeartbeats 4000000 in
theorem refFit14_4 (lo hi x y : Int) (W : World) : Calls Tryd.prog 76 #[.agg #[.int .i64 4, .int .i64 lo, .int .i64 hi, .int .i64 x, .int .i64 y]] W fun e w' => e = .returned (.bool (fitB ⟨4, lo, hi, x, y⟩)) ∧ Below W.heap.size W w' := by
  obtain ⟨Z, hZ⟩ : ∃ Z, fitB ⟨4, lo, hi, x, y⟩ = Z := ⟨_, rfl⟩
  rw [hZ]
  have HZ : Hid (Z = true ↔ Fit ⟨4, lo, hi, x, y⟩) := Lib.hid (by rw [← hZ]; exact fitB_iff _)
  clear hZ
  go_enter Tryd.func76, Tryd.ntmps76
  go_wp2
  all_goals
    go_ret
    refine ⟨rb ?_, (Below.refl _ _).alloc (Nat.le_refl _) _⟩
    rw [Bool.eq_iff_iff, HZ.out]
    unfold Fit
    dsimp only
    try simp only [beq_iff_eq, bne_iff_ne, decide_eq_true_eq, Bool.false_eq_true, true_and, and_true, true_or, or_true, false_iff, iff_false, true_iff, iff_true]
    omega
set_option maxRecDepth 100000 in
set_option maxHeartbeats 4000000 in
theorem refFit14_5 (lo hi x y : Int) (W : World) : Calls Tryd.prog 76 #[.agg #[.int .i64 5, .int .i64 lo, .int .i64 hi, .int .i64 x, .int .i64 y]] W fun e w' => e = .returned (.bool (fitB ⟨5, lo, hi, x, y⟩)) ∧ Below W.heap.size W w' := by
  obtain ⟨Z, hZ⟩ : ∃ Z, fitB ⟨5, lo, hi, x, y⟩ = Z := ⟨_, rfl⟩
  rw [hZ]
  have HZ : Hid (Z = true ↔ Fit ⟨5, lo, hi, x, y⟩) := Lib.hid (by rw [← hZ]; exact fitB_iff _)
  clear hZ
  go_enter Tryd.func76, Tryd.ntmps76
  go_wp2
  all_goals
    go_ret
    refine ⟨rb ?_, (Below.refl _ _).alloc (Nat.le_refl _) _⟩
    rw [Bool.eq_iff_iff, HZ.out]
    unfold Fit
    dsimp only
    try simp only [beq_iff_eq, bne_iff_ne, decide_eq_true_eq, Bool.false_eq_true, true_and, and_true, true_or, or_true, false_iff, iff_false, true_iff, iff_true]
    omega
set_option maxRecDepth 100000 in
set_option maxHeartbeats 4000000 in
theorem refFit14_6 (lo hi x y : Int) (W : World) : Calls Tryd.prog 76 #[.agg #[.int .i64 6, .int .i64 lo, .int .i64 hi, .int .i64 x, .int .i64 y]] W fun e w' => e = .returned (.bool (fitB ⟨6, lo, hi, x, y⟩)) ∧ Below W.heap.size W w' := by
  obtain ⟨Z, hZ⟩ : ∃ Z, fitB ⟨6, lo, hi, x, y⟩ = Z := ⟨_, rfl⟩
  rw [hZ]
  have HZ : Hid (Z = true ↔ Fit ⟨6, lo, hi, x, y⟩) := Lib.hid (by rw [← hZ]; exact fitB_iff _)
  clear hZ
  go_enter Tryd.func76, Tryd.ntmps76
  go_wp2
  all_goals
    go_ret
    refine ⟨rb ?_, (Below.refl _ _).alloc (Nat.le_refl _) _⟩
    rw [Bool.eq_iff_iff, HZ.out]
    unfold Fit
    dsimp only
    try simp only [beq_iff_eq, bne_iff_ne, decide_eq_true_eq, Bool.false_eq_true, true_and, and_true, true_or, or_true, false_iff, iff_false, true_iff, iff_true]
    omega
set_option maxRecDepth 100000 in
set_option maxHeartbeats 4000000 in
theorem refFit14_no (op lo hi x y : Int) (W : World) (h : op ≠ 1 ∧ op ≠ 2 ∧ op ≠ 3 ∧ op ≠ 4 ∧ op ≠ 5 ∧ op ≠ 6) : Calls Tryd.prog 76 #[.agg #[.int .i64 op, .int .i64 lo, .int .i64 hi, .int .i64 x, .int .i64 y]] W fun e w' => e = .returned (.bool (fitB ⟨op, lo, hi, x, y⟩)) ∧ Below W.heap.size W w' := by
  have hF : fitB ⟨op, lo, hi, x, y⟩ = false := by unfold fitB; rw [decide_eq_false]; unfold Fit; dsimp only; omega
  rw [hF]
  have e1 : (op == 1) = false := by rw [beq_eq_false_iff_ne]; omega
  have e2 : (op == 2) = false := by rw [beq_eq_false_iff_ne]; omega
  have e3 : (op == 3) = false := by rw [beq_eq_false_iff_ne]; omega
  have e4 : (op == 4) = false := by rw [beq_eq_false_iff_ne]; omega
  have e5 : (op == 5) = false := by rw [beq_eq_false_iff_ne]; omega
  have e6 : (op == 6) = false := by rw [beq_eq_false_iff_ne]; omega
  clear hF h
  go_enter Tryd.func76, Tryd.ntmps76
  go_wp2
  all_goals
    go_ret
    exact ⟨rfl, (Below.refl _ _).alloc (Nat.le_refl _) _⟩
theorem refFit14_any (i : In) (W : World) : Calls Tryd.prog 76 #[.agg #[.int .i64 i.op, .int .i64 i.lo, .int .i64 i.hi, .int .i64 i.x, .int .i64 i.y]] W fun e w' => e = .returned (.bool (fitB i)) ∧ Below W.heap.size W w' := by
  obtain ⟨op, lo, hi, x, y⟩ := i
  by_cases h : op ≠ 1 ∧ op ≠ 2 ∧ op ≠ 3 ∧ op ≠ 4 ∧ op ≠ 5 ∧ op ≠ 6
  · exact refFit14_no op lo hi x y W h
  · have : op = 1 ∨ op = 2 ∨ op = 3 ∨ op = 4 ∨ op = 5 ∨ op = 6 := by omega
    rcases this with rfl | rfl | rfl | rfl | rfl | rfl
    · exact refFit14_1 lo hi x y W
    · exact refFit14_2 lo hi x y W
    · exact refFit14_3 lo hi x y W
    · exact refFit14_4 lo hi x y W
    · exact refFit14_5 lo hi x y W
    · exact refFit14_6 lo hi x y W
end Pgm
end Go.Proofs.YtchcjinaagncjaaDoor
