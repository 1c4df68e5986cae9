/- The reference's wire (burinref15): an instruction's bytes. -/
import Derived.Test.YtfnimmbmcjgdpaaDoorGp14
namespace Go.Proofs.YtfnimmbmcjgdpaaDoor
open Go.RowKit
set_option linter.unusedVariables false
namespace Pgm
theorem num15_fun : ∃ f : Int → ByteArray, (∀ z, f z = txB (vL z)) ∧ (∀ z, (f z).size ≤ 2) ∧ ∀ (z : Int) w, Hid (0 ≤ z ∧ z < 16384) → Calls Tryd.prog 86 #[.int .i64 z] w fun e w' => e = .returned (.string (f z)) ∧ Below w.heap.size w w' :=
  ⟨fun z => txB (vL z), fun z => rfl, fun z => by dsimp only; rw [txB_size]; exact (vL_len z).2, fun z w h => num15_any w z h.out.1 h.out.2⟩
set_option maxRecDepth 100000 in
set_option maxHeartbeats 4000000 in
theorem one15_1 (lo hi x y : Int) (W : World) (hF : Fit ⟨1, lo, hi, x, y⟩) : Calls Tryd.prog 87 #[.agg #[.int .i64 1, .int .i64 lo, .int .i64 hi, .int .i64 x, .int .i64 y]] W fun e w' => e = .returned (.string (txB (instW ⟨1, lo, hi, x, y⟩))) ∧ Below W.heap.size W w' := by
  have mixed : Tryd.prog.follows .mixedOrders = true := by kernel_rfl
  obtain ⟨f, hf, hfz, HNF⟩ := num15_fun
  have HNF := Lib.hid HNF
  have Blo : Hid (0 ≤ lo ∧ lo < 16384) := Lib.hid (by unfold Fit at hF; dsimp only at hF; omega)
  have zlo := hfz lo
  have Bhi : Hid (0 ≤ hi ∧ hi < 16384) := Lib.hid (by unfold Fit at hF; dsimp only at hF; omega)
  have zhi := hfz hi
  have Bx : Hid (0 ≤ x ∧ x < 16384) := Lib.hid (by unfold Fit at hF; dsimp only at hF; omega)
  have zx := hfz x
  have hcv : ∀ w : World, (convert 55 9 (.slice (some ⟨w.heap.size, 0, none⟩) 1 1)).run Tryd.prog (w.alloc (.cells #[.int .u8 1] 5)) = .ok (.string (txB [1])) (w.alloc (.cells #[.int .u8 1] 5)) := fun w => one_txt _ w.heap.size 1 _ _ rfl (by simp)
  have HC : Hid (txB [1] ++ f lo ++ f hi ++ f x = txB (instW ⟨1, lo, hi, x, y⟩)) := Lib.hid (by
    try simp only [hf, txB_app]
    refine congrArg txB ?_
    simp [instW, ownL])
  have hs1 : (txB [1]).size = 1 := by rw [txB_size]; rfl
  obtain ⟨T, hT⟩ : ∃ T, txB [1] = T := ⟨_, rfl⟩
  rw [hT] at hcv HC hs1
  obtain ⟨X, hX⟩ : ∃ X, txB (instW ⟨1, lo, hi, x, y⟩) = X := ⟨_, rfl⟩
  rw [hX] at HC ⊢
  have r0a : ¬ 9223372036854775807 < T.size + (f lo).size := by omega
  have r0b : ¬ 9223372036854775807 < 1 + (f lo).size := by omega
  have r1a : ¬ 9223372036854775807 < T.size + (f lo).size + (f hi).size := by omega
  have r1b : ¬ 9223372036854775807 < 1 + (f lo).size + (f hi).size := by omega
  have r1c : ¬ 9223372036854775807 < (T ++ f lo).size + (f hi).size := by simp only [ByteArray.size_append]; omega
  have r2a : ¬ 9223372036854775807 < T.size + (f lo).size + (f hi).size + (f x).size := by omega
  have r2b : ¬ 9223372036854775807 < 1 + (f lo).size + (f hi).size + (f x).size := by omega
  have r2c : ¬ 9223372036854775807 < (T ++ f lo ++ f hi).size + (f x).size := by simp only [ByteArray.size_append]; omega
  obtain ⟨W1, hW1⟩ : ∃ W1, W.alloc (.cells #[.int .i64 1, .int .i64 lo, .int .i64 hi, .int .i64 x, .int .i64 y] 81) = W1 := ⟨_, rfl⟩
  have hx1 : W1.heap[W.heap.size]? = some (.cells #[.int .i64 1, .int .i64 lo, .int .i64 hi, .int .i64 x, .int .i64 y] 81 (0, 0)) := by rw [← hW1]; exact heap_alloc_new W _
  have hb1 : Below W.heap.size W W1 := by rw [← hW1]; exact (Below.refl _ _).alloc (Nat.le_refl _) _
  have hl1 : W.heap.size < W1.heap.size := (Array.getElem?_eq_some_iff.1 hx1).1
  obtain ⟨W2, hW2⟩ : ∃ W2, W1.alloc (.cells #[.int .u8 1] 5) = W2 := ⟨_, rfl⟩
  have hx2 : W2.heap[W.heap.size]? = some (.cells #[.int .i64 1, .int .i64 lo, .int .i64 hi, .int .i64 x, .int .i64 y] 81 (0, 0)) := by rw [← hW2]; exact (Below.heap_alloc _ _ _ hl1).trans hx1
  have hb2 : Below W.heap.size W W2 := by rw [← hW2]; exact hb1.alloc (Nat.le_of_lt hl1) _
  have hl2 : W.heap.size < W2.heap.size := (Array.getElem?_eq_some_iff.1 hx2).1
  have hcv2 := hcv W1
  rw [hW2] at hcv2
  have c0 : W1.cell? ⟨W.heap.size, 0, none⟩ = some (.int .i64 1) := blkp hx1 0
  have e0 : W2.cell? ⟨W.heap.size, 0, none⟩ = some (.int .i64 1) := blkp hx2 0
  have clo : W2.cell? ⟨W.heap.size, 1, none⟩ = some (.int .i64 lo) := blkp hx2 1
  have plo := fun p => cell_grownTo (w := W2) (a := ⟨W.heap.size, 1, none⟩) hl2 clo p
  have chi : W2.cell? ⟨W.heap.size, 2, none⟩ = some (.int .i64 hi) := blkp hx2 2
  have phi := fun p => cell_grownTo (w := W2) (a := ⟨W.heap.size, 2, none⟩) hl2 chi p
  have cx : W2.cell? ⟨W.heap.size, 3, none⟩ = some (.int .i64 x) := blkp hx2 3
  have px := fun p => cell_grownTo (w := W2) (a := ⟨W.heap.size, 3, none⟩) hl2 cx p
  have HB2 := Lib.hid hb2
  have HW1 := Lib.hid hW1
  have HW2 := Lib.hid hW2
  clear hF hf hfz hX hT hb1 hb2 hx1 hx2 hcv
  go_enter Tryd.func87, Tryd.ntmps87
  go_wp2
  refine wp_region_quiet_below mixed (by kernel_rfl) ?_
  repeat (quiet_step (first | (go_at_call 86; exact calls_grownTo (HNF.out _ _ (by assumption)))))
  refine wpQuiet_nil ?_
  intro _ hw'
  obtain ⟨⟨wz, hbz⟩, hw''⟩ := hw'
  subst hw''
  have HBZ := Lib.hid (HB2.out.trans (hbz.mono (by omega)))
  clear hbz plo phi px
  go_wp2
  go_ret
  exact ⟨by first | rfl | (rw [HC.out]; rfl), HBZ.out⟩
set_option maxRecDepth 100000 in
set_option maxHeartbeats 4000000 in
theorem one15_2 (lo hi x y : Int) (W : World) (hF : Fit ⟨2, lo, hi, x, y⟩) : Calls Tryd.prog 87 #[.agg #[.int .i64 2, .int .i64 lo, .int .i64 hi, .int .i64 x, .int .i64 y]] W fun e w' => e = .returned (.string (txB (instW ⟨2, lo, hi, x, y⟩))) ∧ Below W.heap.size W w' := by
  have mixed : Tryd.prog.follows .mixedOrders = true := by kernel_rfl
  obtain ⟨f, hf, hfz, HNF⟩ := num15_fun
  have HNF := Lib.hid HNF
  have Bx : Hid (0 ≤ x ∧ x < 16384) := Lib.hid (by unfold Fit at hF; dsimp only at hF; omega)
  have zx := hfz x
  have By : Hid (0 ≤ y ∧ y < 16384) := Lib.hid (by unfold Fit at hF; dsimp only at hF; omega)
  have zy := hfz y
  have hcv : ∀ w : World, (convert 55 9 (.slice (some ⟨w.heap.size, 0, none⟩) 1 1)).run Tryd.prog (w.alloc (.cells #[.int .u8 2] 5)) = .ok (.string (txB [2])) (w.alloc (.cells #[.int .u8 2] 5)) := fun w => one_txt _ w.heap.size 1 _ _ rfl (by simp)
  have HC : Hid (txB [2] ++ f x ++ f y = txB (instW ⟨2, lo, hi, x, y⟩)) := Lib.hid (by
    try simp only [hf, txB_app]
    refine congrArg txB ?_
    simp [instW, ownL])
  have hs1 : (txB [2]).size = 1 := by rw [txB_size]; rfl
  obtain ⟨T, hT⟩ : ∃ T, txB [2] = T := ⟨_, rfl⟩
  rw [hT] at hcv HC hs1
  obtain ⟨X, hX⟩ : ∃ X, txB (instW ⟨2, lo, hi, x, y⟩) = X := ⟨_, rfl⟩
  rw [hX] at HC ⊢
  have r0a : ¬ 9223372036854775807 < T.size + (f x).size := by omega
  have r0b : ¬ 9223372036854775807 < 1 + (f x).size := by omega
  have r1a : ¬ 9223372036854775807 < T.size + (f x).size + (f y).size := by omega
  have r1b : ¬ 9223372036854775807 < 1 + (f x).size + (f y).size := by omega
  have r1c : ¬ 9223372036854775807 < (T ++ f x).size + (f y).size := by simp only [ByteArray.size_append]; omega
  obtain ⟨W1, hW1⟩ : ∃ W1, W.alloc (.cells #[.int .i64 2, .int .i64 lo, .int .i64 hi, .int .i64 x, .int .i64 y] 81) = W1 := ⟨_, rfl⟩
  have hx1 : W1.heap[W.heap.size]? = some (.cells #[.int .i64 2, .int .i64 lo, .int .i64 hi, .int .i64 x, .int .i64 y] 81 (0, 0)) := by rw [← hW1]; exact heap_alloc_new W _
  have hb1 : Below W.heap.size W W1 := by rw [← hW1]; exact (Below.refl _ _).alloc (Nat.le_refl _) _
  have hl1 : W.heap.size < W1.heap.size := (Array.getElem?_eq_some_iff.1 hx1).1
  obtain ⟨W2, hW2⟩ : ∃ W2, W1.alloc (.cells #[.int .u8 2] 5) = W2 := ⟨_, rfl⟩
  have hx2 : W2.heap[W.heap.size]? = some (.cells #[.int .i64 2, .int .i64 lo, .int .i64 hi, .int .i64 x, .int .i64 y] 81 (0, 0)) := by rw [← hW2]; exact (Below.heap_alloc _ _ _ hl1).trans hx1
  have hb2 : Below W.heap.size W W2 := by rw [← hW2]; exact hb1.alloc (Nat.le_of_lt hl1) _
  have hl2 : W.heap.size < W2.heap.size := (Array.getElem?_eq_some_iff.1 hx2).1
  have hcv2 := hcv W1
  rw [hW2] at hcv2
  have c0 : W1.cell? ⟨W.heap.size, 0, none⟩ = some (.int .i64 2) := blkp hx1 0
  have e0 : W2.cell? ⟨W.heap.size, 0, none⟩ = some (.int .i64 2) := blkp hx2 0
  have cx : W2.cell? ⟨W.heap.size, 3, none⟩ = some (.int .i64 x) := blkp hx2 3
  have px := fun p => cell_grownTo (w := W2) (a := ⟨W.heap.size, 3, none⟩) hl2 cx p
  have cy : W2.cell? ⟨W.heap.size, 4, none⟩ = some (.int .i64 y) := blkp hx2 4
  have py := fun p => cell_grownTo (w := W2) (a := ⟨W.heap.size, 4, none⟩) hl2 cy p
  have HB2 := Lib.hid hb2
  have HW1 := Lib.hid hW1
  have HW2 := Lib.hid hW2
  clear hF hf hfz hX hT hb1 hb2 hx1 hx2 hcv
  go_enter Tryd.func87, Tryd.ntmps87
  go_wp2
  refine wp_region_quiet_below mixed (by kernel_rfl) ?_
  repeat (quiet_step (first | (go_at_call 86; exact calls_grownTo (HNF.out _ _ (by assumption)))))
  refine wpQuiet_nil ?_
  intro _ hw'
  obtain ⟨⟨wz, hbz⟩, hw''⟩ := hw'
  subst hw''
  have HBZ := Lib.hid (HB2.out.trans (hbz.mono (by omega)))
  clear hbz px py
  go_wp2
  go_ret
  exact ⟨by first | rfl | (rw [HC.out]; rfl), HBZ.out⟩
set_option maxRecDepth 100000 in
set_option maxHeartbeats 4000000 in
theorem one15_3 (lo hi x y : Int) (W : World) (hF : Fit ⟨3, lo, hi, x, y⟩) : Calls Tryd.prog 87 #[.agg #[.int .i64 3, .int .i64 lo, .int .i64 hi, .int .i64 x, .int .i64 y]] W fun e w' => e = .returned (.string (txB (instW ⟨3, lo, hi, x, y⟩))) ∧ Below W.heap.size W w' := by
  have mixed : Tryd.prog.follows .mixedOrders = true := by kernel_rfl
  obtain ⟨f, hf, hfz, HNF⟩ := num15_fun
  have HNF := Lib.hid HNF
  have Blo : Hid (0 ≤ lo ∧ lo < 16384) := Lib.hid (by unfold Fit at hF; dsimp only at hF; omega)
  have zlo := hfz lo
  have Bx : Hid (0 ≤ x ∧ x < 16384) := Lib.hid (by unfold Fit at hF; dsimp only at hF; omega)
  have zx := hfz x
  have hcv : ∀ w : World, (convert 55 9 (.slice (some ⟨w.heap.size, 0, none⟩) 1 1)).run Tryd.prog (w.alloc (.cells #[.int .u8 3] 5)) = .ok (.string (txB [3])) (w.alloc (.cells #[.int .u8 3] 5)) := fun w => one_txt _ w.heap.size 1 _ _ rfl (by simp)
  have HC : Hid (txB [3] ++ f lo ++ f x = txB (instW ⟨3, lo, hi, x, y⟩)) := Lib.hid (by
    try simp only [hf, txB_app]
    refine congrArg txB ?_
    simp [instW, ownL])
  have hs1 : (txB [3]).size = 1 := by rw [txB_size]; rfl
  obtain ⟨T, hT⟩ : ∃ T, txB [3] = T := ⟨_, rfl⟩
  rw [hT] at hcv HC hs1
  obtain ⟨X, hX⟩ : ∃ X, txB (instW ⟨3, lo, hi, x, y⟩) = X := ⟨_, rfl⟩
  rw [hX] at HC ⊢
  have r0a : ¬ 9223372036854775807 < T.size + (f lo).size := by omega
  have r0b : ¬ 9223372036854775807 < 1 + (f lo).size := by omega
  have r1a : ¬ 9223372036854775807 < T.size + (f lo).size + (f x).size := by omega
  have r1b : ¬ 9223372036854775807 < 1 + (f lo).size + (f x).size := by omega
  have r1c : ¬ 9223372036854775807 < (T ++ f lo).size + (f x).size := by simp only [ByteArray.size_append]; omega
  obtain ⟨W1, hW1⟩ : ∃ W1, W.alloc (.cells #[.int .i64 3, .int .i64 lo, .int .i64 hi, .int .i64 x, .int .i64 y] 81) = W1 := ⟨_, rfl⟩
  have hx1 : W1.heap[W.heap.size]? = some (.cells #[.int .i64 3, .int .i64 lo, .int .i64 hi, .int .i64 x, .int .i64 y] 81 (0, 0)) := by rw [← hW1]; exact heap_alloc_new W _
  have hb1 : Below W.heap.size W W1 := by rw [← hW1]; exact (Below.refl _ _).alloc (Nat.le_refl _) _
  have hl1 : W.heap.size < W1.heap.size := (Array.getElem?_eq_some_iff.1 hx1).1
  obtain ⟨W2, hW2⟩ : ∃ W2, W1.alloc (.cells #[.int .u8 3] 5) = W2 := ⟨_, rfl⟩
  have hx2 : W2.heap[W.heap.size]? = some (.cells #[.int .i64 3, .int .i64 lo, .int .i64 hi, .int .i64 x, .int .i64 y] 81 (0, 0)) := by rw [← hW2]; exact (Below.heap_alloc _ _ _ hl1).trans hx1
  have hb2 : Below W.heap.size W W2 := by rw [← hW2]; exact hb1.alloc (Nat.le_of_lt hl1) _
  have hl2 : W.heap.size < W2.heap.size := (Array.getElem?_eq_some_iff.1 hx2).1
  have hcv2 := hcv W1
  rw [hW2] at hcv2
  have c0 : W1.cell? ⟨W.heap.size, 0, none⟩ = some (.int .i64 3) := blkp hx1 0
  have e0 : W2.cell? ⟨W.heap.size, 0, none⟩ = some (.int .i64 3) := blkp hx2 0
  have clo : W2.cell? ⟨W.heap.size, 1, none⟩ = some (.int .i64 lo) := blkp hx2 1
  have plo := fun p => cell_grownTo (w := W2) (a := ⟨W.heap.size, 1, none⟩) hl2 clo p
  have cx : W2.cell? ⟨W.heap.size, 3, none⟩ = some (.int .i64 x) := blkp hx2 3
  have px := fun p => cell_grownTo (w := W2) (a := ⟨W.heap.size, 3, none⟩) hl2 cx p
  have HB2 := Lib.hid hb2
  have HW1 := Lib.hid hW1
  have HW2 := Lib.hid hW2
  clear hF hf hfz hX hT hb1 hb2 hx1 hx2 hcv
  go_enter Tryd.func87, Tryd.ntmps87
  go_wp2
  refine wp_region_quiet_below mixed (by kernel_rfl) ?_
  repeat (quiet_step (first | (go_at_call 86; exact calls_grownTo (HNF.out _ _ (by assumption)))))
  refine wpQuiet_nil ?_
  intro _ hw'
  obtain ⟨⟨wz, hbz⟩, hw''⟩ := hw'
  subst hw''
  have HBZ := Lib.hid (HB2.out.trans (hbz.mono (by omega)))
  clear hbz plo px
  go_wp2
  go_ret
  exact ⟨by first | rfl | (rw [HC.out]; rfl), HBZ.out⟩
set_option maxRecDepth 100000 in
set_option maxHeartbeats 4000000 in
theorem one15_4 (lo hi x y : Int) (W : World) (hF : Fit ⟨4, lo, hi, x, y⟩) : Calls Tryd.prog 87 #[.agg #[.int .i64 4, .int .i64 lo, .int .i64 hi, .int .i64 x, .int .i64 y]] W fun e w' => e = .returned (.string (txB (instW ⟨4, lo, hi, x, y⟩))) ∧ Below W.heap.size W w' := by
  have mixed : Tryd.prog.follows .mixedOrders = true := by kernel_rfl
  obtain ⟨f, hf, hfz, HNF⟩ := num15_fun
  have HNF := Lib.hid HNF
  have Blo : Hid (0 ≤ lo ∧ lo < 16384) := Lib.hid (by unfold Fit at hF; dsimp only at hF; omega)
  have zlo := hfz lo
  have Bx : Hid (0 ≤ x ∧ x < 16384) := Lib.hid (by unfold Fit at hF; dsimp only at hF; omega)
  have zx := hfz x
  have hcv : ∀ w : World, (convert 55 9 (.slice (some ⟨w.heap.size, 0, none⟩) 1 1)).run Tryd.prog (w.alloc (.cells #[.int .u8 4] 5)) = .ok (.string (txB [4])) (w.alloc (.cells #[.int .u8 4] 5)) := fun w => one_txt _ w.heap.size 1 _ _ rfl (by simp)
  have HC : Hid (txB [4] ++ f lo ++ f x = txB (instW ⟨4, lo, hi, x, y⟩)) := Lib.hid (by
    try simp only [hf, txB_app]
    refine congrArg txB ?_
    simp [instW, ownL])
  have hs1 : (txB [4]).size = 1 := by rw [txB_size]; rfl
  obtain ⟨T, hT⟩ : ∃ T, txB [4] = T := ⟨_, rfl⟩
  rw [hT] at hcv HC hs1
  obtain ⟨X, hX⟩ : ∃ X, txB (instW ⟨4, lo, hi, x, y⟩) = X := ⟨_, rfl⟩
  rw [hX] at HC ⊢
  have r0a : ¬ 9223372036854775807 < T.size + (f lo).size := by omega
  have r0b : ¬ 9223372036854775807 < 1 + (f lo).size := by omega
  have r1a : ¬ 9223372036854775807 < T.size + (f lo).size + (f x).size := by omega
  have r1b : ¬ 9223372036854775807 < 1 + (f lo).size + (f x).size := by omega
  have r1c : ¬ 9223372036854775807 < (T ++ f lo).size + (f x).size := by simp only [ByteArray.size_append]; omega
  obtain ⟨W1, hW1⟩ : ∃ W1, W.alloc (.cells #[.int .i64 4, .int .i64 lo, .int .i64 hi, .int .i64 x, .int .i64 y] 81) = W1 := ⟨_, rfl⟩
  have hx1 : W1.heap[W.heap.size]? = some (.cells #[.int .i64 4, .int .i64 lo, .int .i64 hi, .int .i64 x, .int .i64 y] 81 (0, 0)) := by rw [← hW1]; exact heap_alloc_new W _
  have hb1 : Below W.heap.size W W1 := by rw [← hW1]; exact (Below.refl _ _).alloc (Nat.le_refl _) _
  have hl1 : W.heap.size < W1.heap.size := (Array.getElem?_eq_some_iff.1 hx1).1
  obtain ⟨W2, hW2⟩ : ∃ W2, W1.alloc (.cells #[.int .u8 4] 5) = W2 := ⟨_, rfl⟩
  have hx2 : W2.heap[W.heap.size]? = some (.cells #[.int .i64 4, .int .i64 lo, .int .i64 hi, .int .i64 x, .int .i64 y] 81 (0, 0)) := by rw [← hW2]; exact (Below.heap_alloc _ _ _ hl1).trans hx1
  have hb2 : Below W.heap.size W W2 := by rw [← hW2]; exact hb1.alloc (Nat.le_of_lt hl1) _
  have hl2 : W.heap.size < W2.heap.size := (Array.getElem?_eq_some_iff.1 hx2).1
  have hcv2 := hcv W1
  rw [hW2] at hcv2
  have c0 : W1.cell? ⟨W.heap.size, 0, none⟩ = some (.int .i64 4) := blkp hx1 0
  have e0 : W2.cell? ⟨W.heap.size, 0, none⟩ = some (.int .i64 4) := blkp hx2 0
  have clo : W2.cell? ⟨W.heap.size, 1, none⟩ = some (.int .i64 lo) := blkp hx2 1
  have plo := fun p => cell_grownTo (w := W2) (a := ⟨W.heap.size, 1, none⟩) hl2 clo p
  have cx : W2.cell? ⟨W.heap.size, 3, none⟩ = some (.int .i64 x) := blkp hx2 3
  have px := fun p => cell_grownTo (w := W2) (a := ⟨W.heap.size, 3, none⟩) hl2 cx p
  have HB2 := Lib.hid hb2
  have HW1 := Lib.hid hW1
  have HW2 := Lib.hid hW2
  clear hF hf hfz hX hT hb1 hb2 hx1 hx2 hcv
  go_enter Tryd.func87, Tryd.ntmps87
  go_wp2
  refine wp_region_quiet_below mixed (by kernel_rfl) ?_
  repeat (quiet_step (first | (go_at_call 86; exact calls_grownTo (HNF.out _ _ (by assumption)))))
  refine wpQuiet_nil ?_
  intro _ hw'
  obtain ⟨⟨wz, hbz⟩, hw''⟩ := hw'
  subst hw''
  have HBZ := Lib.hid (HB2.out.trans (hbz.mono (by omega)))
  clear hbz plo px
  go_wp2
  go_ret
  exact ⟨by first | rfl | (rw [HC.out]; rfl), HBZ.out⟩
set_option maxRecDepth 100000 in
set_option maxHeartbeats 4000000 in
theorem one15_5 (lo hi x y : Int) (W : World) (hF : Fit ⟨5, lo, hi, x, y⟩) : Calls Tryd.prog 87 #[.agg #[.int .i64 5, .int .i64 lo, .int .i64 hi, .int .i64 x, .int .i64 y]] W fun e w' => e = .returned (.string (txB (instW ⟨5, lo, hi, x, y⟩))) ∧ Below W.heap.size W w' := by
  have mixed : Tryd.prog.follows .mixedOrders = true := by kernel_rfl
  obtain ⟨f, hf, hfz, HNF⟩ := num15_fun
  have HNF := Lib.hid HNF
  have hcv : ∀ w : World, (convert 55 9 (.slice (some ⟨w.heap.size, 0, none⟩) 1 1)).run Tryd.prog (w.alloc (.cells #[.int .u8 5] 5)) = .ok (.string (txB [5])) (w.alloc (.cells #[.int .u8 5] 5)) := fun w => one_txt _ w.heap.size 1 _ _ rfl (by simp)
  have HC : Hid (txB [5] = txB (instW ⟨5, lo, hi, x, y⟩)) := Lib.hid (by
    try simp only [hf, txB_app]
    refine congrArg txB ?_
    simp [instW, ownL])
  have hs1 : (txB [5]).size = 1 := by rw [txB_size]; rfl
  obtain ⟨T, hT⟩ : ∃ T, txB [5] = T := ⟨_, rfl⟩
  rw [hT] at hcv HC hs1
  obtain ⟨X, hX⟩ : ∃ X, txB (instW ⟨5, lo, hi, x, y⟩) = X := ⟨_, rfl⟩
  rw [hX] at HC ⊢
  obtain ⟨W1, hW1⟩ : ∃ W1, W.alloc (.cells #[.int .i64 5, .int .i64 lo, .int .i64 hi, .int .i64 x, .int .i64 y] 81) = W1 := ⟨_, rfl⟩
  have hx1 : W1.heap[W.heap.size]? = some (.cells #[.int .i64 5, .int .i64 lo, .int .i64 hi, .int .i64 x, .int .i64 y] 81 (0, 0)) := by rw [← hW1]; exact heap_alloc_new W _
  have hb1 : Below W.heap.size W W1 := by rw [← hW1]; exact (Below.refl _ _).alloc (Nat.le_refl _) _
  have hl1 : W.heap.size < W1.heap.size := (Array.getElem?_eq_some_iff.1 hx1).1
  obtain ⟨W2, hW2⟩ : ∃ W2, W1.alloc (.cells #[.int .u8 5] 5) = W2 := ⟨_, rfl⟩
  have hx2 : W2.heap[W.heap.size]? = some (.cells #[.int .i64 5, .int .i64 lo, .int .i64 hi, .int .i64 x, .int .i64 y] 81 (0, 0)) := by rw [← hW2]; exact (Below.heap_alloc _ _ _ hl1).trans hx1
  have hb2 : Below W.heap.size W W2 := by rw [← hW2]; exact hb1.alloc (Nat.le_of_lt hl1) _
  have hl2 : W.heap.size < W2.heap.size := (Array.getElem?_eq_some_iff.1 hx2).1
  have hcv2 := hcv W1
  rw [hW2] at hcv2
  have c0 : W1.cell? ⟨W.heap.size, 0, none⟩ = some (.int .i64 5) := blkp hx1 0
  have e0 : W2.cell? ⟨W.heap.size, 0, none⟩ = some (.int .i64 5) := blkp hx2 0
  have HB2 := Lib.hid hb2
  have HW1 := Lib.hid hW1
  have HW2 := Lib.hid hW2
  clear hF hf hfz hX hT hb1 hb2 hx1 hx2 hcv
  go_enter Tryd.func87, Tryd.ntmps87
  go_wp2
  go_ret
  exact ⟨by first | rfl | (rw [HC.out]; rfl) | rw [HC.out], HB2.out⟩
set_option maxRecDepth 100000 in
set_option maxHeartbeats 4000000 in
theorem one15_6 (lo hi x y : Int) (W : World) (hF : Fit ⟨6, lo, hi, x, y⟩) : Calls Tryd.prog 87 #[.agg #[.int .i64 6, .int .i64 lo, .int .i64 hi, .int .i64 x, .int .i64 y]] W fun e w' => e = .returned (.string (txB (instW ⟨6, lo, hi, x, y⟩))) ∧ Below W.heap.size W w' := by
  have mixed : Tryd.prog.follows .mixedOrders = true := by kernel_rfl
  obtain ⟨f, hf, hfz, HNF⟩ := num15_fun
  have HNF := Lib.hid HNF
  have hcv : ∀ w : World, (convert 55 9 (.slice (some ⟨w.heap.size, 0, none⟩) 1 1)).run Tryd.prog (w.alloc (.cells #[.int .u8 6] 5)) = .ok (.string (txB [6])) (w.alloc (.cells #[.int .u8 6] 5)) := fun w => one_txt _ w.heap.size 1 _ _ rfl (by simp)
  have HC : Hid (txB [6] = txB (instW ⟨6, lo, hi, x, y⟩)) := Lib.hid (by
    try simp only [hf, txB_app]
    refine congrArg txB ?_
    simp [instW, ownL])
  have hs1 : (txB [6]).size = 1 := by rw [txB_size]; rfl
  obtain ⟨T, hT⟩ : ∃ T, txB [6] = T := ⟨_, rfl⟩
  rw [hT] at hcv HC hs1
  obtain ⟨X, hX⟩ : ∃ X, txB (instW ⟨6, lo, hi, x, y⟩) = X := ⟨_, rfl⟩
  rw [hX] at HC ⊢
  obtain ⟨W1, hW1⟩ : ∃ W1, W.alloc (.cells #[.int .i64 6, .int .i64 lo, .int .i64 hi, .int .i64 x, .int .i64 y] 81) = W1 := ⟨_, rfl⟩
  have hx1 : W1.heap[W.heap.size]? = some (.cells #[.int .i64 6, .int .i64 lo, .int .i64 hi, .int .i64 x, .int .i64 y] 81 (0, 0)) := by rw [← hW1]; exact heap_alloc_new W _
  have hb1 : Below W.heap.size W W1 := by rw [← hW1]; exact (Below.refl _ _).alloc (Nat.le_refl _) _
  have hl1 : W.heap.size < W1.heap.size := (Array.getElem?_eq_some_iff.1 hx1).1
  obtain ⟨W2, hW2⟩ : ∃ W2, W1.alloc (.cells #[.int .u8 6] 5) = W2 := ⟨_, rfl⟩
  have hx2 : W2.heap[W.heap.size]? = some (.cells #[.int .i64 6, .int .i64 lo, .int .i64 hi, .int .i64 x, .int .i64 y] 81 (0, 0)) := by rw [← hW2]; exact (Below.heap_alloc _ _ _ hl1).trans hx1
  have hb2 : Below W.heap.size W W2 := by rw [← hW2]; exact hb1.alloc (Nat.le_of_lt hl1) _
  have hl2 : W.heap.size < W2.heap.size := (Array.getElem?_eq_some_iff.1 hx2).1
  have hcv2 := hcv W1
  rw [hW2] at hcv2
  have c0 : W1.cell? ⟨W.heap.size, 0, none⟩ = some (.int .i64 6) := blkp hx1 0
  have e0 : W2.cell? ⟨W.heap.size, 0, none⟩ = some (.int .i64 6) := blkp hx2 0
  have HB2 := Lib.hid hb2
  have HW1 := Lib.hid hW1
  have HW2 := Lib.hid hW2
  clear hF hf hfz hX hT hb1 hb2 hx1 hx2 hcv
  go_enter Tryd.func87, Tryd.ntmps87
  go_wp2
  go_ret
  exact ⟨by first | rfl | (rw [HC.out]; rfl) | rw [HC.out], HB2.out⟩
theorem one15_any (i : In) (W : World) (hF : Fit i) : Calls Tryd.prog 87 #[.agg #[.int .i64 i.op, .int .i64 i.lo, .int .i64 i.hi, .int .i64 i.x, .int .i64 i.y]] W fun e w' => e = .returned (.string (txB (instW i))) ∧ Below W.heap.size W w' := by
  obtain ⟨op, lo, hi, x, y⟩ := i
  have h := fit_op hF
  dsimp only at h
  have : op = 1 ∨ op = 2 ∨ op = 3 ∨ op = 4 ∨ op = 5 ∨ op = 6 := by omega
  rcases this with rfl | rfl | rfl | rfl | rfl | rfl
  · exact one15_1 lo hi x y W hF
  · exact one15_2 lo hi x y W hF
  · exact one15_3 lo hi x y W hF
  · exact one15_4 lo hi x y W hF
  · exact one15_5 lo hi x y W hF
  · exact one15_6 lo hi x y W hF
end Pgm
end Go.Proofs.YtfnimmbmcjgdpaaDoor
