/- The reference's prog (burinref14): an instruction's line; Text, Show. -/
import Derived.Test.YtfnimmbmcjgdpaaDoorGp17
namespace Go.Proofs.YtfnimmbmcjgdpaaDoor
open Go.RowKit
set_option linter.unusedVariables false
namespace Pgm
set_option maxRecDepth 100000 in
set_option maxHeartbeats 4000000 in
theorem one14_1 (lo hi x y : Int) (W : World) (hF : Fit ⟨1, lo, hi, x, y⟩) : Calls Tryd.prog 80 #[.agg #[.int .i64 1, .int .i64 lo, .int .i64 hi, .int .i64 x, .int .i64 y]] W fun e w' => e = .returned (.string (txB (instL ⟨1, lo, hi, x, y⟩))) ∧ Below W.heap.size W w' := by
  have mixed : Tryd.prog.follows .mixedOrders = true := by kernel_rfl
  obtain ⟨f, hf, hfz, HNF⟩ := num14_fun
  have HNF := Lib.hid HNF
  have Blo : Hid (0 ≤ lo ∧ lo < 10000) := Lib.hid (by unfold Fit at hF; dsimp only at hF; omega)
  have zlo := hfz lo Blo.out.1 Blo.out.2
  have Bhi : Hid (0 ≤ hi ∧ hi < 10000) := Lib.hid (by unfold Fit at hF; dsimp only at hF; omega)
  have zhi := hfz hi Bhi.out.1 Bhi.out.2
  have Bx : Hid (0 ≤ x ∧ x < 10000) := Lib.hid (by unfold Fit at hF; dsimp only at hF; omega)
  have zx := hfz x Bx.out.1 Bx.out.2
  have HC : Hid ((((((((⟨#[98, 121, 116, 101, 32]⟩ : ByteArray) ++ f lo) ++ (⟨#[32]⟩ : ByteArray)) ++ f hi) ++ (⟨#[32]⟩ : ByteArray)) ++ f x) ++ (⟨#[10]⟩ : ByteArray)) = txB (instL ⟨1, lo, hi, x, y⟩)) := Lib.hid (by
    have l0 : (⟨#[98, 121, 116, 101, 32]⟩ : ByteArray) = txB [98, 121, 116, 101, 32] := rfl
    have l1 : (⟨#[32]⟩ : ByteArray) = txB [32] := rfl
    have l2 : (⟨#[10]⟩ : ByteArray) = txB [10] := rfl
    rw [l0, l1, l2]
    simp only [hf, txB_app14]
    refine congrArg txB ?_
    simp [instL, lineL, numsL, ownL, wBytes])
  have r0 : ¬ 9223372036854775807 < 5 + (f lo).size := by omega
  have r1 : ¬ 9223372036854775807 < 5 + (f lo).size + 1 := by omega
  have r2 : ¬ 9223372036854775807 < 5 + (f lo).size + 1 + (f hi).size := by omega
  have r3 : ¬ 9223372036854775807 < 5 + (f lo).size + 1 + (f hi).size + 1 := by omega
  have r4 : ¬ 9223372036854775807 < 5 + (f lo).size + 1 + (f hi).size + 1 + (f x).size := by omega
  have r5 : ¬ 9223372036854775807 < 5 + (f lo).size + 1 + (f hi).size + 1 + (f x).size + 1 := by omega
  obtain ⟨X, hX⟩ : ∃ X, txB (instL ⟨1, lo, hi, x, y⟩) = X := ⟨_, rfl⟩
  rw [hX] at HC ⊢
  obtain ⟨W1, hW1⟩ : ∃ W1, W.alloc (.cells #[.int .i64 1, .int .i64 lo, .int .i64 hi, .int .i64 x, .int .i64 y] 81) = W1 := ⟨_, rfl⟩
  have hx1 : W1.heap[W.heap.size]? = some (.cells #[.int .i64 1, .int .i64 lo, .int .i64 hi, .int .i64 x, .int .i64 y] 81 (0, 0)) := by rw [← hW1]; exact heap_alloc_new W _
  have hb1 : Below W.heap.size W W1 := by rw [← hW1]; exact (Below.refl _ _).alloc (Nat.le_refl _) _
  have hl1 : W.heap.size < W1.heap.size := (Array.getElem?_eq_some_iff.1 hx1).1
  have c0 : W1.cell? ⟨W.heap.size, 0, none⟩ = some (.int .i64 1) := blkp hx1 0
  have clo : W1.cell? ⟨W.heap.size, 1, none⟩ = some (.int .i64 lo) := blkp hx1 1
  have plo := fun p => cell_grownTo (w := W1) (a := ⟨W.heap.size, 1, none⟩) hl1 clo p
  have chi : W1.cell? ⟨W.heap.size, 2, none⟩ = some (.int .i64 hi) := blkp hx1 2
  have phi := fun p => cell_grownTo (w := W1) (a := ⟨W.heap.size, 2, none⟩) hl1 chi p
  have cx : W1.cell? ⟨W.heap.size, 3, none⟩ = some (.int .i64 x) := blkp hx1 3
  have px := fun p => cell_grownTo (w := W1) (a := ⟨W.heap.size, 3, none⟩) hl1 cx p
  have HB1 := Lib.hid hb1
  clear hF hf hfz hX hb1 hx1
  go_enter Tryd.func80, Tryd.ntmps80
  go_wp2
  refine wp_region_quiet_below mixed (by kernel_rfl) ?_
  repeat (quiet_step (first | (go_at_call 79; exact calls_grownTo (HNF.out _ _ (by assumption)))))
  refine wpQuiet_nil ?_
  intro _ hw'
  obtain ⟨⟨wz, hbz⟩, hw''⟩ := hw'
  subst hw''
  have HBZ := Lib.hid (HB1.out.trans (hbz.mono (by omega)))
  clear hbz plo phi px
  go_wp2
  go_ret
  exact ⟨by first | rfl | (rw [HC.out]; rfl) | rw [HC.out], HBZ.out⟩
set_option maxRecDepth 100000 in
set_option maxHeartbeats 4000000 in
theorem one14_2 (lo hi x y : Int) (W : World) (hF : Fit ⟨2, lo, hi, x, y⟩) : Calls Tryd.prog 80 #[.agg #[.int .i64 2, .int .i64 lo, .int .i64 hi, .int .i64 x, .int .i64 y]] W fun e w' => e = .returned (.string (txB (instL ⟨2, lo, hi, x, y⟩))) ∧ Below W.heap.size W w' := by
  have mixed : Tryd.prog.follows .mixedOrders = true := by kernel_rfl
  obtain ⟨f, hf, hfz, HNF⟩ := num14_fun
  have HNF := Lib.hid HNF
  have Bx : Hid (0 ≤ x ∧ x < 10000) := Lib.hid (by unfold Fit at hF; dsimp only at hF; omega)
  have zx := hfz x Bx.out.1 Bx.out.2
  have By : Hid (0 ≤ y ∧ y < 10000) := Lib.hid (by unfold Fit at hF; dsimp only at hF; omega)
  have zy := hfz y By.out.1 By.out.2
  have HC : Hid ((((((⟨#[115, 112, 108, 105, 116, 32]⟩ : ByteArray) ++ f x) ++ (⟨#[32]⟩ : ByteArray)) ++ f y) ++ (⟨#[10]⟩ : ByteArray)) = txB (instL ⟨2, lo, hi, x, y⟩)) := Lib.hid (by
    have l0 : (⟨#[115, 112, 108, 105, 116, 32]⟩ : ByteArray) = txB [115, 112, 108, 105, 116, 32] := rfl
    have l1 : (⟨#[32]⟩ : ByteArray) = txB [32] := rfl
    have l2 : (⟨#[10]⟩ : ByteArray) = txB [10] := rfl
    rw [l0, l1, l2]
    simp only [hf, txB_app14]
    refine congrArg txB ?_
    simp [instL, lineL, numsL, ownL, wBytes])
  have r0 : ¬ 9223372036854775807 < 6 + (f x).size := by omega
  have r1 : ¬ 9223372036854775807 < 6 + (f x).size + 1 := by omega
  have r2 : ¬ 9223372036854775807 < 6 + (f x).size + 1 + (f y).size := by omega
  have r3 : ¬ 9223372036854775807 < 6 + (f x).size + 1 + (f y).size + 1 := by omega
  obtain ⟨X, hX⟩ : ∃ X, txB (instL ⟨2, lo, hi, x, y⟩) = X := ⟨_, rfl⟩
  rw [hX] at HC ⊢
  obtain ⟨W1, hW1⟩ : ∃ W1, W.alloc (.cells #[.int .i64 2, .int .i64 lo, .int .i64 hi, .int .i64 x, .int .i64 y] 81) = W1 := ⟨_, rfl⟩
  have hx1 : W1.heap[W.heap.size]? = some (.cells #[.int .i64 2, .int .i64 lo, .int .i64 hi, .int .i64 x, .int .i64 y] 81 (0, 0)) := by rw [← hW1]; exact heap_alloc_new W _
  have hb1 : Below W.heap.size W W1 := by rw [← hW1]; exact (Below.refl _ _).alloc (Nat.le_refl _) _
  have hl1 : W.heap.size < W1.heap.size := (Array.getElem?_eq_some_iff.1 hx1).1
  have c0 : W1.cell? ⟨W.heap.size, 0, none⟩ = some (.int .i64 2) := blkp hx1 0
  have cx : W1.cell? ⟨W.heap.size, 3, none⟩ = some (.int .i64 x) := blkp hx1 3
  have px := fun p => cell_grownTo (w := W1) (a := ⟨W.heap.size, 3, none⟩) hl1 cx p
  have cy : W1.cell? ⟨W.heap.size, 4, none⟩ = some (.int .i64 y) := blkp hx1 4
  have py := fun p => cell_grownTo (w := W1) (a := ⟨W.heap.size, 4, none⟩) hl1 cy p
  have HB1 := Lib.hid hb1
  clear hF hf hfz hX hb1 hx1
  go_enter Tryd.func80, Tryd.ntmps80
  go_wp2
  refine wp_region_quiet_below mixed (by kernel_rfl) ?_
  repeat (quiet_step (first | (go_at_call 79; exact calls_grownTo (HNF.out _ _ (by assumption)))))
  refine wpQuiet_nil ?_
  intro _ hw'
  obtain ⟨⟨wz, hbz⟩, hw''⟩ := hw'
  subst hw''
  have HBZ := Lib.hid (HB1.out.trans (hbz.mono (by omega)))
  clear hbz px py
  go_wp2
  go_ret
  exact ⟨by first | rfl | (rw [HC.out]; rfl) | rw [HC.out], HBZ.out⟩
set_option maxRecDepth 100000 in
set_option maxHeartbeats 4000000 in
theorem one14_3 (lo hi x y : Int) (W : World) (hF : Fit ⟨3, lo, hi, x, y⟩) : Calls Tryd.prog 80 #[.agg #[.int .i64 3, .int .i64 lo, .int .i64 hi, .int .i64 x, .int .i64 y]] W fun e w' => e = .returned (.string (txB (instL ⟨3, lo, hi, x, y⟩))) ∧ Below W.heap.size W w' := by
  have mixed : Tryd.prog.follows .mixedOrders = true := by kernel_rfl
  obtain ⟨f, hf, hfz, HNF⟩ := num14_fun
  have HNF := Lib.hid HNF
  have Blo : Hid (0 ≤ lo ∧ lo < 10000) := Lib.hid (by unfold Fit at hF; dsimp only at hF; omega)
  have zlo := hfz lo Blo.out.1 Blo.out.2
  have Bx : Hid (0 ≤ x ∧ x < 10000) := Lib.hid (by unfold Fit at hF; dsimp only at hF; omega)
  have zx := hfz x Bx.out.1 Bx.out.2
  have HC : Hid ((((((⟨#[99, 97, 112, 32]⟩ : ByteArray) ++ f lo) ++ (⟨#[32]⟩ : ByteArray)) ++ f x) ++ (⟨#[10]⟩ : ByteArray)) = txB (instL ⟨3, lo, hi, x, y⟩)) := Lib.hid (by
    have l0 : (⟨#[99, 97, 112, 32]⟩ : ByteArray) = txB [99, 97, 112, 32] := rfl
    have l1 : (⟨#[32]⟩ : ByteArray) = txB [32] := rfl
    have l2 : (⟨#[10]⟩ : ByteArray) = txB [10] := rfl
    rw [l0, l1, l2]
    simp only [hf, txB_app14]
    refine congrArg txB ?_
    simp [instL, lineL, numsL, ownL, wBytes])
  have r0 : ¬ 9223372036854775807 < 4 + (f lo).size := by omega
  have r1 : ¬ 9223372036854775807 < 4 + (f lo).size + 1 := by omega
  have r2 : ¬ 9223372036854775807 < 4 + (f lo).size + 1 + (f x).size := by omega
  have r3 : ¬ 9223372036854775807 < 4 + (f lo).size + 1 + (f x).size + 1 := by omega
  obtain ⟨X, hX⟩ : ∃ X, txB (instL ⟨3, lo, hi, x, y⟩) = X := ⟨_, rfl⟩
  rw [hX] at HC ⊢
  obtain ⟨W1, hW1⟩ : ∃ W1, W.alloc (.cells #[.int .i64 3, .int .i64 lo, .int .i64 hi, .int .i64 x, .int .i64 y] 81) = W1 := ⟨_, rfl⟩
  have hx1 : W1.heap[W.heap.size]? = some (.cells #[.int .i64 3, .int .i64 lo, .int .i64 hi, .int .i64 x, .int .i64 y] 81 (0, 0)) := by rw [← hW1]; exact heap_alloc_new W _
  have hb1 : Below W.heap.size W W1 := by rw [← hW1]; exact (Below.refl _ _).alloc (Nat.le_refl _) _
  have hl1 : W.heap.size < W1.heap.size := (Array.getElem?_eq_some_iff.1 hx1).1
  have c0 : W1.cell? ⟨W.heap.size, 0, none⟩ = some (.int .i64 3) := blkp hx1 0
  have clo : W1.cell? ⟨W.heap.size, 1, none⟩ = some (.int .i64 lo) := blkp hx1 1
  have plo := fun p => cell_grownTo (w := W1) (a := ⟨W.heap.size, 1, none⟩) hl1 clo p
  have cx : W1.cell? ⟨W.heap.size, 3, none⟩ = some (.int .i64 x) := blkp hx1 3
  have px := fun p => cell_grownTo (w := W1) (a := ⟨W.heap.size, 3, none⟩) hl1 cx p
  have HB1 := Lib.hid hb1
  clear hF hf hfz hX hb1 hx1
  go_enter Tryd.func80, Tryd.ntmps80
  go_wp2
  refine wp_region_quiet_below mixed (by kernel_rfl) ?_
  repeat (quiet_step (first | (go_at_call 79; exact calls_grownTo (HNF.out _ _ (by assumption)))))
  refine wpQuiet_nil ?_
  intro _ hw'
  obtain ⟨⟨wz, hbz⟩, hw''⟩ := hw'
  subst hw''
  have HBZ := Lib.hid (HB1.out.trans (hbz.mono (by omega)))
  clear hbz plo px
  go_wp2
  go_ret
  exact ⟨by first | rfl | (rw [HC.out]; rfl) | rw [HC.out], HBZ.out⟩
set_option maxRecDepth 100000 in
set_option maxHeartbeats 4000000 in
theorem one14_4 (lo hi x y : Int) (W : World) (hF : Fit ⟨4, lo, hi, x, y⟩) : Calls Tryd.prog 80 #[.agg #[.int .i64 4, .int .i64 lo, .int .i64 hi, .int .i64 x, .int .i64 y]] W fun e w' => e = .returned (.string (txB (instL ⟨4, lo, hi, x, y⟩))) ∧ Below W.heap.size W w' := by
  have mixed : Tryd.prog.follows .mixedOrders = true := by kernel_rfl
  obtain ⟨f, hf, hfz, HNF⟩ := num14_fun
  have HNF := Lib.hid HNF
  have Blo : Hid (0 ≤ lo ∧ lo < 10000) := Lib.hid (by unfold Fit at hF; dsimp only at hF; omega)
  have zlo := hfz lo Blo.out.1 Blo.out.2
  have Bx : Hid (0 ≤ x ∧ x < 10000) := Lib.hid (by unfold Fit at hF; dsimp only at hF; omega)
  have zx := hfz x Bx.out.1 Bx.out.2
  have HC : Hid ((((((⟨#[97, 115, 115, 101, 114, 116, 32]⟩ : ByteArray) ++ f lo) ++ (⟨#[32]⟩ : ByteArray)) ++ f x) ++ (⟨#[10]⟩ : ByteArray)) = txB (instL ⟨4, lo, hi, x, y⟩)) := Lib.hid (by
    have l0 : (⟨#[97, 115, 115, 101, 114, 116, 32]⟩ : ByteArray) = txB [97, 115, 115, 101, 114, 116, 32] := rfl
    have l1 : (⟨#[32]⟩ : ByteArray) = txB [32] := rfl
    have l2 : (⟨#[10]⟩ : ByteArray) = txB [10] := rfl
    rw [l0, l1, l2]
    simp only [hf, txB_app14]
    refine congrArg txB ?_
    simp [instL, lineL, numsL, ownL, wBytes])
  have r0 : ¬ 9223372036854775807 < 7 + (f lo).size := by omega
  have r1 : ¬ 9223372036854775807 < 7 + (f lo).size + 1 := by omega
  have r2 : ¬ 9223372036854775807 < 7 + (f lo).size + 1 + (f x).size := by omega
  have r3 : ¬ 9223372036854775807 < 7 + (f lo).size + 1 + (f x).size + 1 := by omega
  obtain ⟨X, hX⟩ : ∃ X, txB (instL ⟨4, lo, hi, x, y⟩) = X := ⟨_, rfl⟩
  rw [hX] at HC ⊢
  obtain ⟨W1, hW1⟩ : ∃ W1, W.alloc (.cells #[.int .i64 4, .int .i64 lo, .int .i64 hi, .int .i64 x, .int .i64 y] 81) = W1 := ⟨_, rfl⟩
  have hx1 : W1.heap[W.heap.size]? = some (.cells #[.int .i64 4, .int .i64 lo, .int .i64 hi, .int .i64 x, .int .i64 y] 81 (0, 0)) := by rw [← hW1]; exact heap_alloc_new W _
  have hb1 : Below W.heap.size W W1 := by rw [← hW1]; exact (Below.refl _ _).alloc (Nat.le_refl _) _
  have hl1 : W.heap.size < W1.heap.size := (Array.getElem?_eq_some_iff.1 hx1).1
  have c0 : W1.cell? ⟨W.heap.size, 0, none⟩ = some (.int .i64 4) := blkp hx1 0
  have clo : W1.cell? ⟨W.heap.size, 1, none⟩ = some (.int .i64 lo) := blkp hx1 1
  have plo := fun p => cell_grownTo (w := W1) (a := ⟨W.heap.size, 1, none⟩) hl1 clo p
  have cx : W1.cell? ⟨W.heap.size, 3, none⟩ = some (.int .i64 x) := blkp hx1 3
  have px := fun p => cell_grownTo (w := W1) (a := ⟨W.heap.size, 3, none⟩) hl1 cx p
  have HB1 := Lib.hid hb1
  clear hF hf hfz hX hb1 hx1
  go_enter Tryd.func80, Tryd.ntmps80
  go_wp2
  refine wp_region_quiet_below mixed (by kernel_rfl) ?_
  repeat (quiet_step (first | (go_at_call 79; exact calls_grownTo (HNF.out _ _ (by assumption)))))
  refine wpQuiet_nil ?_
  intro _ hw'
  obtain ⟨⟨wz, hbz⟩, hw''⟩ := hw'
  subst hw''
  have HBZ := Lib.hid (HB1.out.trans (hbz.mono (by omega)))
  clear hbz plo px
  go_wp2
  go_ret
  exact ⟨by first | rfl | (rw [HC.out]; rfl) | rw [HC.out], HBZ.out⟩
set_option maxRecDepth 100000 in
set_option maxHeartbeats 4000000 in
theorem one14_5 (lo hi x y : Int) (W : World) (hF : Fit ⟨5, lo, hi, x, y⟩) : Calls Tryd.prog 80 #[.agg #[.int .i64 5, .int .i64 lo, .int .i64 hi, .int .i64 x, .int .i64 y]] W fun e w' => e = .returned (.string (txB (instL ⟨5, lo, hi, x, y⟩))) ∧ Below W.heap.size W w' := by
  have mixed : Tryd.prog.follows .mixedOrders = true := by kernel_rfl
  obtain ⟨f, hf, hfz, HNF⟩ := num14_fun
  have HNF := Lib.hid HNF
  have HC : Hid ((⟨#[109, 97, 116, 99, 104, 10]⟩ : ByteArray) = txB (instL ⟨5, lo, hi, x, y⟩)) := Lib.hid (by rfl)
  obtain ⟨X, hX⟩ : ∃ X, txB (instL ⟨5, lo, hi, x, y⟩) = X := ⟨_, rfl⟩
  rw [hX] at HC ⊢
  obtain ⟨W1, hW1⟩ : ∃ W1, W.alloc (.cells #[.int .i64 5, .int .i64 lo, .int .i64 hi, .int .i64 x, .int .i64 y] 81) = W1 := ⟨_, rfl⟩
  have hx1 : W1.heap[W.heap.size]? = some (.cells #[.int .i64 5, .int .i64 lo, .int .i64 hi, .int .i64 x, .int .i64 y] 81 (0, 0)) := by rw [← hW1]; exact heap_alloc_new W _
  have hb1 : Below W.heap.size W W1 := by rw [← hW1]; exact (Below.refl _ _).alloc (Nat.le_refl _) _
  have hl1 : W.heap.size < W1.heap.size := (Array.getElem?_eq_some_iff.1 hx1).1
  have c0 : W1.cell? ⟨W.heap.size, 0, none⟩ = some (.int .i64 5) := blkp hx1 0
  have HB1 := Lib.hid hb1
  clear hF hf hfz hX hb1 hx1
  go_enter Tryd.func80, Tryd.ntmps80
  go_wp2
  go_ret
  exact ⟨by first | rfl | (rw [HC.out]; rfl) | rw [HC.out], HB1.out⟩
set_option maxRecDepth 100000 in
set_option maxHeartbeats 4000000 in
theorem one14_6 (lo hi x y : Int) (W : World) (hF : Fit ⟨6, lo, hi, x, y⟩) : Calls Tryd.prog 80 #[.agg #[.int .i64 6, .int .i64 lo, .int .i64 hi, .int .i64 x, .int .i64 y]] W fun e w' => e = .returned (.string (txB (instL ⟨6, lo, hi, x, y⟩))) ∧ Below W.heap.size W w' := by
  have mixed : Tryd.prog.follows .mixedOrders = true := by kernel_rfl
  obtain ⟨f, hf, hfz, HNF⟩ := num14_fun
  have HNF := Lib.hid HNF
  have HC : Hid ((⟨#[102, 97, 105, 108, 10]⟩ : ByteArray) = txB (instL ⟨6, lo, hi, x, y⟩)) := Lib.hid (by rfl)
  obtain ⟨X, hX⟩ : ∃ X, txB (instL ⟨6, lo, hi, x, y⟩) = X := ⟨_, rfl⟩
  rw [hX] at HC ⊢
  obtain ⟨W1, hW1⟩ : ∃ W1, W.alloc (.cells #[.int .i64 6, .int .i64 lo, .int .i64 hi, .int .i64 x, .int .i64 y] 81) = W1 := ⟨_, rfl⟩
  have hx1 : W1.heap[W.heap.size]? = some (.cells #[.int .i64 6, .int .i64 lo, .int .i64 hi, .int .i64 x, .int .i64 y] 81 (0, 0)) := by rw [← hW1]; exact heap_alloc_new W _
  have hb1 : Below W.heap.size W W1 := by rw [← hW1]; exact (Below.refl _ _).alloc (Nat.le_refl _) _
  have hl1 : W.heap.size < W1.heap.size := (Array.getElem?_eq_some_iff.1 hx1).1
  have c0 : W1.cell? ⟨W.heap.size, 0, none⟩ = some (.int .i64 6) := blkp hx1 0
  have HB1 := Lib.hid hb1
  clear hF hf hfz hX hb1 hx1
  go_enter Tryd.func80, Tryd.ntmps80
  go_wp2
  go_ret
  exact ⟨by first | rfl | (rw [HC.out]; rfl) | rw [HC.out], HB1.out⟩
theorem one14_any (i : In) (W : World) (hF : Fit i) : Calls Tryd.prog 80 #[.agg #[.int .i64 i.op, .int .i64 i.lo, .int .i64 i.hi, .int .i64 i.x, .int .i64 i.y]] W fun e w' => e = .returned (.string (txB (instL i))) ∧ Below W.heap.size W w' := by
  obtain ⟨op, lo, hi, x, y⟩ := i
  have h := fit_op hF
  dsimp only at h
  have : op = 1 ∨ op = 2 ∨ op = 3 ∨ op = 4 ∨ op = 5 ∨ op = 6 := by omega
  rcases this with rfl | rfl | rfl | rfl | rfl | rfl
  · exact one14_1 lo hi x y W hF
  · exact one14_2 lo hi x y W hF
  · exact one14_3 lo hi x y W hF
  · exact one14_4 lo hi x y W hF
  · exact one14_5 lo hi x y W hF
  · exact one14_6 lo hi x y W hF
set_option maxRecDepth 100000 in
set_option maxHeartbeats 16000000 in
theorem text14_any (l : List In) (st sl : Int) (vs : Value) (W : World) (hr : InRow W vs l) (hok : Ok l st sl) : Calls Tryd.prog 48 #[.agg #[vs, .int .i64 st, .int .i64 sl]] W fun e w' => e = .returned (.string (txB (textL l st sl))) ∧ Below W.heap.size W w' := by
  have mixed : Tryd.prog.follows .mixedOrders = true := by kernel_rfl
  obtain ⟨f, hf, hfz, HNF⟩ := num14_fun
  have HNF := Lib.hid HNF
  have hok' := hok
  obtain ⟨o1, o2, o3, o4, o5, o6, _⟩ := hok'
  have HOK := Lib.hid hok
  obtain ⟨a, cap, rfl, hl, hbd, hc⟩ := hr
  have HR := Lib.hid hc
  obtain ⟨n, hn⟩ : ∃ n, l.length = n := ⟨_, rfl⟩
  have HN := Lib.hid hn
  rw [hn] at o1 o2 ⊢
  have B1 : Hid (0 ≤ st ∧ st < 10000) := Lib.hid (by omega)
  have B2 : Hid (0 ≤ sl ∧ sl < 10000) := Lib.hid (by omega)
  have z1 := hfz st (by omega) (by omega)
  have z2 := hfz sl (by omega) (by omega)
  have HUP : Hid ((⟨#[112, 114, 111, 103, 114, 97, 109, 32]⟩ : ByteArray) ++ f st ++ (⟨#[32]⟩ : ByteArray) ++ f sl ++ (⟨#[10]⟩ : ByteArray) = txB (upL l st sl 0)) := Lib.hid (by
    have l0 : (⟨#[112, 114, 111, 103, 114, 97, 109, 32]⟩ : ByteArray) = txB [112, 114, 111, 103, 114, 97, 109, 32] := rfl
    have l1 : (⟨#[32]⟩ : ByteArray) = txB [32] := rfl
    have l2 : (⟨#[10]⟩ : ByteArray) = txB [10] := rfl
    rw [l0, l1, l2]
    simp only [hf, txB_app14]
    refine congrArg txB ?_
    simp [upL, lineL, numsL, title])
  have HUL := Lib.hid (fun k hk => upL_len hok k hk)
  have HALL := Lib.hid (upL_all l st sl (k := n) (by omega))
  have r1 : ¬ 9223372036854775807 < 8 + (f st).size := by omega
  have r2 : ¬ 9223372036854775807 < 8 + (f st).size + 1 := by omega
  have r3 : ¬ 9223372036854775807 < 8 + (f st).size + 1 + (f sl).size := by omega
  have r4 : ¬ 9223372036854775807 < 8 + (f st).size + 1 + (f sl).size + 1 := by omega
  obtain ⟨E, hE⟩ : ∃ E, txB (textL l st sl) = E := ⟨_, rfl⟩
  have HENC : Hid (txB (textL l st sl) = E) := Lib.hid hE
  rw [hE]
  obtain ⟨W1, hW1⟩ : ∃ W1, W.alloc (.cells #[.slice a n cap, .int .i64 st, .int .i64 sl] 46) = W1 := ⟨_, rfl⟩
  have hx1 : W1.heap[W.heap.size]? = some (.cells #[.slice a n cap, .int .i64 st, .int .i64 sl] 46 (0, 0)) := by rw [← hW1]; exact heap_alloc_new W _
  have HB1 : Hid (Below W.heap.size W W1) := Lib.hid (by rw [← hW1]; exact (Below.refl _ _).alloc (Nat.le_refl _) _)
  have hl1 : W.heap.size < W1.heap.size := (Array.getElem?_eq_some_iff.1 hx1).1
  have HX1 := Lib.hid hx1
  have c1 : W1.cell? ⟨W.heap.size, 1, none⟩ = some (.int .i64 st) := blkp hx1 1
  have c2 : W1.cell? ⟨W.heap.size, 2, none⟩ = some (.int .i64 sl) := blkp hx1 2
  have p1 := fun p => cell_grownTo (w := W1) (a := ⟨W.heap.size, 1, none⟩) hl1 c1 p
  have p2 := fun p => cell_grownTo (w := W1) (a := ⟨W.heap.size, 2, none⟩) hl1 c2 p
  clear hok hbd hc hl hn hf hfz hE hx1 o3 o4 o5 o6
  go_enter Tryd.func48, Tryd.ntmps48
  go_wp2
  refine wp_region_quiet_below mixed (by kernel_rfl) ?_
  repeat (quiet_step (first | (go_at_call 79; exact calls_grownTo (HNF.out _ _ (by assumption)))))
  refine wpQuiet_nil ?_
  intro _ hw'
  obtain ⟨⟨wz, hbz⟩, hw''⟩ := hw'
  subst hw''
  have HBZ := Lib.hid (HB1.out.trans (hbz.mono (by omega)))
  have HXZ := Lib.hid ((hbz.block _ (Array.getElem?_eq_some_iff.1 HX1.out).1).trans HX1.out)
  clear hbz p1 p2 c1 c2 hW1
  rw [HUP.out]
  clear r1 r2 r3 r4 z1 z2
  go_wp2
  go_loopw [3, 4] (fun V K wr => ∃ k : Nat, k ≤ n ∧ K = .int .i64 (k : Int) ∧ V = .string (txB (upL l st sl k)) ∧ Hid (Below W.heap.size W wr) ∧ Hid (wr.heap[W.heap.size]? = some (.cells #[.slice a n cap, .int .i64 st, .int .i64 sl] 46 (0, 0)))) (fun V K _ => n - (intOf K).toNat)
  case atStart => exact ⟨0, by omega, rfl, rfl, HBZ, HXZ⟩
  case round =>
    obtain ⟨k, hk, rfl, rfl, HB, HX⟩ := hrel
    have z0 := blkp HX.out 0
    simp only [List.getElem?_toArray, List.getElem?_cons_zero] at z0
    by_cases hlt : k < n
    · have hkl : k < l.length := by rw [HN.out]; exact hlt
      obtain ⟨b, off, rfl, hbl, hcc⟩ := HR.out k hkl
      obtain ⟨y, hy⟩ : ∃ y, l[k] = y := ⟨_, rfl⟩
      have HY : Hid (l[k]? = some y) := Lib.hid (by rw [List.getElem?_eq_getElem hkl, hy])
      rw [hy] at hcc
      have kc : ∀ q, q < 5 → wr.cell? ⟨b, off + k * 5 + q, none⟩ = y.cs[q]? := fun q hq => (HB.out.cell (p := ⟨b, off + k * 5 + q, none⟩) hbl).trans (hcc q hq)
      have q0 := kc 0 (by omega)
      have q1 := kc 1 (by omega)
      have q2 := kc 2 (by omega)
      have q3 := kc 3 (by omega)
      have q4 := kc 4 (by omega)
      simp only [In.cs, List.getElem?_cons_zero, List.getElem?_cons_succ, Nat.add_zero] at q0 q1 q2 q3 q4
      have hfit := ok_fit HOK.out y (List.mem_of_getElem? HY.out)
      have HON := Lib.hid (fun w => one14_any y w hfit)
      have hbsz : b < wr.heap.size := Nat.lt_of_lt_of_le hbl HB.out.size
      have hul := HUL.out k (by omega)
      have hiw := inst_len hfit
      have hsz1 : (txB (upL l st sl k)).size ≤ 200000 := by rw [txB_size]; exact hul
      have hsz2 : (txB (instL y)).size ≤ 28 := by rw [txB_size]; exact hiw
      have HSU : Hid (txB (upL l st sl k) ++ txB (instL y) = txB (upL l st sl (k + 1))) := Lib.hid (by rw [txB_app14, upL_succ l st sl HY.out])
      obtain ⟨U, hU⟩ : ∃ U, txB (upL l st sl k) = U := ⟨_, rfl⟩
      obtain ⟨I, hI⟩ : ∃ I, txB (instL y) = I := ⟨_, rfl⟩
      rw [hI] at HON hsz2 HSU
      rw [hU] at hsz1 HSU ⊢
      have rr : ¬ 9223372036854775807 < U.size + I.size := by omega
      clear kc hcc hy hkl hul hiw hU hI hfit
      go_wp2_with fail
      refine (HON.out _).mono ?_
      rintro e w3 ⟨rfl, hb3⟩
      have HB3 := Lib.hid (HB.out.trans (hb3.mono HB.out.size))
      have HX3 := Lib.hid ((hb3.block _ (Array.getElem?_eq_some_iff.1 HX.out).1).trans HX.out)
      clear hb3 q0 q1 q2 q3 q4 z0
      go_wp2
      rw [HSU.out]
      go_roundw
      case rel => exact ⟨k + 1, by omega, by go_num, rfl, HB3, HX3⟩
      case measure => simp [intOf]; omega
    · obtain rfl : k = n := by omega
      rw [HALL.out, HENC.out]
      go_wp2
      go_ret
      exact ⟨rfl, HB.out⟩
set_option maxRecDepth 100000 in
set_option maxHeartbeats 4000000 in
theorem refShow14_any (l : List In) (st sl : Int) (vs : Value) (W : World) (hr : InRow W vs l) : Calls Tryd.prog 20 #[.agg #[vs, .int .i64 st, .int .i64 sl]] W fun e w' => e = .returned (.tuple #[.string (shS l st sl), .int .i64 (chk l st sl)]) ∧ Below W.heap.size W w' := by
  unfold shS
  obtain ⟨W1, hW1⟩ : ∃ W1, W.alloc (.cells #[vs, .int .i64 st, .int .i64 sl] 46) = W1 := ⟨_, rfl⟩
  have hx1 : W1.heap[W.heap.size]? = some (.cells #[vs, .int .i64 st, .int .i64 sl] 46 (0, 0)) := by rw [← hW1]; exact heap_alloc_new W _
  have hb1 : Below W.heap.size W W1 := by rw [← hW1]; exact (Below.refl _ _).alloc (Nat.le_refl _) _
  have hr1 := hr.below (Nat.le_refl _) hb1
  have HC := Lib.hid (refChk14_any l st sl vs W1 hr1)
  have HX1 := Lib.hid hx1
  have HB1 := Lib.hid hb1
  by_cases hok : Ok l st sl
  · rw [if_pos hok, chk_ok hok]
    rw [chk_ok hok] at HC
    have HWR := Lib.hid (fun w (h : Below W.heap.size W w) => text14_any l st sl vs w (hr.below (Nat.le_refl _) h) hok)
    obtain ⟨E, hE⟩ : ∃ E, txB (textL l st sl) = E := ⟨_, rfl⟩
    rw [hE] at HWR ⊢
    obtain ⟨a, cap, rfl, hl, hbd, hc⟩ := hr
    obtain ⟨n, hn⟩ : ∃ n, l.length = n := ⟨_, rfl⟩
    rw [hn] at HC hW1 HX1 HWR ⊢
    have HW1 := Lib.hid hW1
    clear hE hx1 hb1 hr1 hl hbd hc hn hok hW1
    go_enter Tryd.func20, Tryd.ntmps20
    go_wp2_with fail
    rw [HW1.out]
    refine HC.out.mono ?_
    rintro e w2 ⟨rfl, hb2⟩
    have HB2 := Lib.hid (HB1.out.trans (hb2.mono HB1.out.size))
    have HX2 := Lib.hid ((hb2.block _ (Array.getElem?_eq_some_iff.1 HX1.out).1).trans HX1.out)
    have b0 := blkp HX2.out 0
    have b1 := blkp HX2.out 1
    have b2 := blkp HX2.out 2
    simp only [List.getElem?_toArray, List.getElem?_cons_zero, List.getElem?_cons_succ] at b0 b1 b2
    clear hb2
    go_wp2_with fail
    refine (HWR.out w2 HB2.out).mono ?_
    rintro e w3 ⟨rfl, hb3⟩
    have HB3 := Lib.hid (HB2.out.trans (hb3.mono HB2.out.size))
    clear hb3
    go_wp2
    go_ret2
    exact ⟨rfl, HB3.out⟩
  · rw [if_neg hok, chk_not hok]
    rw [chk_not hok] at HC
    obtain ⟨a, cap, rfl, hl, hbd, hc⟩ := hr
    obtain ⟨n, hn⟩ : ∃ n, l.length = n := ⟨_, rfl⟩
    rw [hn] at HC hW1 HX1 ⊢
    have HW1 := Lib.hid hW1
    clear hx1 hb1 hr1 hl hbd hc hn hok hW1
    go_enter Tryd.func20, Tryd.ntmps20
    go_wp2_with fail
    rw [HW1.out]
    refine HC.out.mono ?_
    rintro e w2 ⟨rfl, hb2⟩
    have HB2 := Lib.hid (HB1.out.trans (hb2.mono HB1.out.size))
    clear hb2
    go_wp2
    go_ret2
    exact ⟨rfl, HB2.out⟩
end Pgm
end Go.Proofs.YtfnimmbmcjgdpaaDoor
