/- burinlaw14.ProgTells: the walk. -/
import Derived.Test.YtgonfbfagcajcaaDoorGp25
import Derived.Test.YtgonfbfagcajcaaDoorGp27
import Derived.Test.YtgonfbfagcajcaaDoorGp21
namespace Go.Proofs.YtgonfbfagcajcaaDoor
open Go.RowKit
set_option linter.unusedVariables false
namespace Pgm
set_option maxRecDepth 100000 in
set_option maxHeartbeats 8000000 in
theorem walkProgTells (W : World) (a : In) (u : Value) (l : List In) (st sl : Int) (u' : Value) (l' : List In) (st' sl' : Int) (ha : a.bd) (hr : InRow W u l) (hst : I64 st) (hsl : I64 sl) (hr' : InRow W u' l') (hst' : I64 st') (hsl' : I64 sl') (hE : EvP W) :
    Calls Tryd.prog 5 #[a.v, .agg #[u, .int .i64 st, .int .i64 sl], .agg #[u', .int .i64 st', .int .i64 sl']] W fun e w' => e = .returned (.bool true) ∧ Below W.heap.size W w' := by
  have mixed : Tryd.prog.follows .mixedOrders = true := by kernel_rfl
  obtain ⟨A1, k1, e1, h1⟩ := (show ∃ A k, u = .slice A l.length k ∧ True from by obtain ⟨A, k, e, _⟩ := hr; exact ⟨A, k, e, trivial⟩)
  obtain ⟨A2, k2, e2, h2⟩ := (show ∃ A k, u' = .slice A l'.length k ∧ True from by obtain ⟨A, k, e, _⟩ := hr'; exact ⟨A, k, e, trivial⟩)
  obtain ⟨n, hn⟩ : ∃ n, l.length = n := ⟨_, rfl⟩
  obtain ⟨n', hn'⟩ : ∃ n, l'.length = n := ⟨_, rfl⟩
  rw [hn] at e1
  rw [hn'] at e2
  subst e1
  subst e2
  obtain ⟨W3, hW3⟩ : ∃ W3, ((W.alloc (.cells #[.int .i64 a.op, .int .i64 a.lo, .int .i64 a.hi, .int .i64 a.x, .int .i64 a.y] 45)).alloc (.cells #[.slice A1 n k1, .int .i64 st, .int .i64 sl] 48)).alloc (.cells #[.slice A2 n' k2, .int .i64 st', .int .i64 sl'] 48) = W3 := ⟨_, rfl⟩
  have hb3 : Below W.heap.size W W3 := by rw [← hW3]; exact (((Below.refl _ _).alloc (Nat.le_refl _) _).alloc (by simp) _).alloc (by simp; omega) _
  have hs3 : W3.heap.size = W.heap.size + 1 + 1 + 1 := by rw [← hW3]; simp
  have x3 : W3.heap[W.heap.size]? = some (.cells #[.int .i64 a.op, .int .i64 a.lo, .int .i64 a.hi, .int .i64 a.x, .int .i64 a.y] 45 (0, 0)) := by
    rw [← hW3]
    exact (Below.heap_alloc _ _ _ (by simp; omega)).trans ((Below.heap_alloc _ _ _ (by simp)).trans (heap_alloc_new W _))
  have y3 : W3.heap[W.heap.size + 1]? = some (.cells #[.slice A1 n k1, .int .i64 st, .int .i64 sl] 48 (0, 0)) := by
    rw [← hW3]
    have h9 := heap_alloc_new (W.alloc (.cells #[.int .i64 a.op, .int .i64 a.lo, .int .i64 a.hi, .int .i64 a.x, .int .i64 a.y] 45)) (.cells #[.slice A1 n k1, .int .i64 st, .int .i64 sl] 48)
    rw [World.size_alloc] at h9
    exact (Below.heap_alloc _ _ _ (by simp)).trans h9
  have z3 : W3.heap[W.heap.size + 1 + 1]? = some (.cells #[.slice A2 n' k2, .int .i64 st', .int .i64 sl'] 48 (0, 0)) := by
    rw [← hW3]
    have h9 := heap_alloc_new ((W.alloc (.cells #[.int .i64 a.op, .int .i64 a.lo, .int .i64 a.hi, .int .i64 a.x, .int .i64 a.y] 45)).alloc (.cells #[.slice A1 n k1, .int .i64 st, .int .i64 sl] 48)) (.cells #[.slice A2 n' k2, .int .i64 st', .int .i64 sl'] 48)
    rw [World.size_alloc, World.size_alloc] at h9
    exact h9
  have HB3 := Lib.hid hb3
  have hE3 := hE.below hb3
  have hr3 := hr.below (Nat.le_refl _) hb3
  have hr3' := hr'.below (Nat.le_refl _) hb3
  have H1 : Hid (∀ p : GrownTo W3, Calls Tryd.prog 18 #[.agg #[.int .i64 a.op, .int .i64 a.lo, .int .i64 a.hi, .int .i64 a.x, .int .i64 a.y]] p.W' fun e w' => e = .returned (.bool (fitB a)) ∧ Below p.W'.heap.size p.W' w') := Lib.hid (fun p => fits_any a p.W' (hE3.below p.h).ops)
  have H2 : Hid (∀ p : GrownTo W3, Calls Tryd.prog 19 #[.agg #[.int .i64 a.op, .int .i64 a.lo, .int .i64 a.hi, .int .i64 a.x, .int .i64 a.y]] p.W' fun e w' => e = .returned (.bool (fitB a)) ∧ Below p.W'.heap.size p.W' w') := Lib.hid (fun p => refFit14_any a p.W')
  have H3 : Hid (∀ p : GrownTo W3, Calls Tryd.prog 20 #[.agg #[.slice A1 n k1, .int .i64 st, .int .i64 sl]] p.W' fun e w' => e = .returned (.int .i64 (chk l st sl)) ∧ Below p.W'.heap.size p.W' w') := Lib.hid (fun p => check_any l st sl _ p.W' (hr3.below (Nat.le_refl _) p.h) (hE3.below p.h).ops)
  have H4 : Hid (∀ p : GrownTo W3, Calls Tryd.prog 21 #[.agg #[.slice A1 n k1, .int .i64 st, .int .i64 sl]] p.W' fun e w' => e = .returned (.int .i64 (chk l st sl)) ∧ Below p.W'.heap.size p.W' w') := Lib.hid (fun p => refChk14_any l st sl _ p.W' (hr3.below (Nat.le_refl _) p.h))
  have H5 : Hid (∀ p : GrownTo W3, Calls Tryd.prog 22 #[.agg #[.slice A1 n k1, .int .i64 st, .int .i64 sl], .agg #[.slice A2 n' k2, .int .i64 st', .int .i64 sl']] p.W' fun e w' => e = .returned (.bool (decide (st = st' ∧ sl = sl' ∧ l = l'))) ∧ Below p.W'.heap.size p.W' w') := Lib.hid (fun p => same_any p.W' _ _ l l' st sl st' sl' (hr3.below (Nat.le_refl _) p.h) (hr3'.below (Nat.le_refl _) p.h))
  have H6 : Hid (∀ p : GrownTo W3, Calls Tryd.prog 23 #[.agg #[.slice A1 n k1, .int .i64 st, .int .i64 sl], .agg #[.slice A2 n' k2, .int .i64 st', .int .i64 sl']] p.W' fun e w' => e = .returned (.bool (decide (st = st' ∧ sl = sl' ∧ l = l'))) ∧ Below p.W'.heap.size p.W' w') := Lib.hid (fun p => sameProg_any p.W' _ _ l l' st sl st' sl' (hr3.below (Nat.le_refl _) p.h) (hr3'.below (Nat.le_refl _) p.h))
  have H7 : Hid (∀ p : GrownTo W3, Calls Tryd.prog 17 #[] p.W' fun e w' => e = .returned (.bool true) ∧ Below p.W'.heap.size p.W' w') := Lib.hid (fun p => works14_any p.W' (hE3.below p.h))
  obtain ⟨X1, hX1⟩ : ∃ X, fitB a = X := ⟨_, rfl⟩
  rw [hX1] at H1 H2
  obtain ⟨X2, hX2⟩ : ∃ X, chk l st sl = X := ⟨_, rfl⟩
  rw [hX2] at H3 H4
  obtain ⟨X3, hX3⟩ : ∃ X, decide (st = st' ∧ sl = sl' ∧ l = l') = X := ⟨_, rfl⟩
  rw [hX3] at H5 H6
  have HWK := Lib.hid (works14_any W3 hE3)
  have HW3 := Lib.hid hW3
  have hx1 : (X1 == X1) = true := by simp
  have hx2 : (X2 == X2) = true := by simp
  have hx3 : (X3 == X3) = true := by simp
  have bx : W.heap.size < W3.heap.size := by omega
  have by' : W.heap.size + 1 < W3.heap.size := by omega
  have bz : W.heap.size + 1 + 1 < W3.heap.size := by omega
  have cx0 : W3.cell? ⟨W.heap.size, 0, none⟩ = some (.int .i64 a.op) := blkp x3 0
  have fx0 := fun p => cell_grownTo (w := W3) (a := ⟨W.heap.size, 0, none⟩) bx cx0 p
  have cx1 : W3.cell? ⟨W.heap.size, 1, none⟩ = some (.int .i64 a.lo) := blkp x3 1
  have fx1 := fun p => cell_grownTo (w := W3) (a := ⟨W.heap.size, 1, none⟩) bx cx1 p
  have cx2 : W3.cell? ⟨W.heap.size, 2, none⟩ = some (.int .i64 a.hi) := blkp x3 2
  have fx2 := fun p => cell_grownTo (w := W3) (a := ⟨W.heap.size, 2, none⟩) bx cx2 p
  have cx3 : W3.cell? ⟨W.heap.size, 3, none⟩ = some (.int .i64 a.x) := blkp x3 3
  have fx3 := fun p => cell_grownTo (w := W3) (a := ⟨W.heap.size, 3, none⟩) bx cx3 p
  have cx4 : W3.cell? ⟨W.heap.size, 4, none⟩ = some (.int .i64 a.y) := blkp x3 4
  have fx4 := fun p => cell_grownTo (w := W3) (a := ⟨W.heap.size, 4, none⟩) bx cx4 p
  have cy0 : W3.cell? ⟨W.heap.size + 1, 0, none⟩ = some (.slice A1 n k1) := blkp y3 0
  have fy0 := fun p => cell_grownTo (w := W3) (a := ⟨W.heap.size + 1, 0, none⟩) by' cy0 p
  have cy1 : W3.cell? ⟨W.heap.size + 1, 1, none⟩ = some (.int .i64 st) := blkp y3 1
  have fy1 := fun p => cell_grownTo (w := W3) (a := ⟨W.heap.size + 1, 1, none⟩) by' cy1 p
  have cy2 : W3.cell? ⟨W.heap.size + 1, 2, none⟩ = some (.int .i64 sl) := blkp y3 2
  have fy2 := fun p => cell_grownTo (w := W3) (a := ⟨W.heap.size + 1, 2, none⟩) by' cy2 p
  have cz0 : W3.cell? ⟨W.heap.size + 1 + 1, 0, none⟩ = some (.slice A2 n' k2) := blkp z3 0
  have fz0 := fun p => cell_grownTo (w := W3) (a := ⟨W.heap.size + 1 + 1, 0, none⟩) bz cz0 p
  have cz1 : W3.cell? ⟨W.heap.size + 1 + 1, 1, none⟩ = some (.int .i64 st') := blkp z3 1
  have fz1 := fun p => cell_grownTo (w := W3) (a := ⟨W.heap.size + 1 + 1, 1, none⟩) bz cz1 p
  have cz2 : W3.cell? ⟨W.heap.size + 1 + 1, 2, none⟩ = some (.int .i64 sl') := blkp z3 2
  have fz2 := fun p => cell_grownTo (w := W3) (a := ⟨W.heap.size + 1 + 1, 2, none⟩) bz cz2 p
  unfold In.v
  clear hE hE3 hr3 hr3' hr hr' hst hsl hst' hsl' ha hX1 hX2 hX3 hb3 hs3 x3 y3 z3 hn hn' h1 h2 bx by' bz hW3
  have n0 : (0 : Int) ≤ (n : Int) := by omega
  have n0' : (0 : Int) ≤ (n' : Int) := by omega
  rcases (by omega : ((200 : Int) < (n : Int) ∧ (n : Int) ≤ 4000) ∨ ((200 : Int) < (n : Int) ∧ ¬ (n : Int) ≤ 4000 ∧ (5000 : Int) < (n' : Int)) ∨ ((200 : Int) < (n : Int) ∧ ¬ (n : Int) ≤ 4000 ∧ ¬ (5000 : Int) < (n' : Int)) ∨ (¬ (200 : Int) < (n : Int) ∧ (5000 : Int) < (n' : Int)) ∨ (¬ (200 : Int) < (n : Int) ∧ ¬ (5000 : Int) < (n' : Int))) with ⟨g1, g2⟩ | ⟨g1, g2, g3⟩ | ⟨g1, g2, g3⟩ | ⟨g1, g3⟩ | ⟨g1, g3⟩
  · clear fx0 fx1 fx2 fx3 fx4 fy0 fy1 fy2 fz0 fz1 fz2
    go_enter Tryd.func5, Tryd.ntmps5
    go_wp2_with (rw [HW3.out])
    refine HWK.out.mono ?_
    rintro e w4 ⟨rfl, hb4⟩
    have HB4 := Lib.hid (HB3.out.trans (hb4.mono HB3.out.size))
    clear hb4
    go_wp2
    go_ret
    exact ⟨rfl, HB4.out⟩
  · clear fx0 fx1 fx2 fx3 fx4 fy0 fy1 fy2 fz0 fz1 fz2
    go_enter Tryd.func5, Tryd.ntmps5
    go_wp2_with (rw [HW3.out])
    refine HWK.out.mono ?_
    rintro e w4 ⟨rfl, hb4⟩
    have HB4 := Lib.hid (HB3.out.trans (hb4.mono HB3.out.size))
    clear hb4
    go_wp2
    go_ret
    exact ⟨rfl, HB4.out⟩
  · go_enter Tryd.func5, Tryd.ntmps5
    go_wp2
    rw [HW3.out]
    refine wp_region_quiet_below mixed (by kernel_rfl) ?_
    repeat (quiet_step (first
      | (go_at_call 18; exact calls_grownTo (H1.out _))
      | (go_at_call 19; exact calls_grownTo (H2.out _))
      | (go_at_call 20; exact calls_grownTo (H3.out _))
      | (go_at_call 21; exact calls_grownTo (H4.out _))
      | (go_at_call 22; exact calls_grownTo (H5.out _))
      | (go_at_call 23; exact calls_grownTo (H6.out _))
      | (go_at_call 17; exact calls_grownTo (H7.out _))))
    refine wpQuiet_nil ?_
    intro _ hw'
    obtain ⟨⟨wz, hbz⟩, hw''⟩ := hw'
    subst hw''
    have HBZ := Lib.hid (HB3.out.trans (hbz.mono HB3.out.size))
    clear hbz fx0 fx1 fx2 fx3 fx4 fy0 fy1 fy2 fz0 fz1 fz2
    go_wp2
    go_ret
    exact ⟨rfl, HBZ.out⟩
  · clear fx0 fx1 fx2 fx3 fx4 fy0 fy1 fy2 fz0 fz1 fz2
    go_enter Tryd.func5, Tryd.ntmps5
    go_wp2_with (rw [HW3.out])
    refine HWK.out.mono ?_
    rintro e w4 ⟨rfl, hb4⟩
    have HB4 := Lib.hid (HB3.out.trans (hb4.mono HB3.out.size))
    clear hb4
    go_wp2
    go_ret
    exact ⟨rfl, HB4.out⟩
  · go_enter Tryd.func5, Tryd.ntmps5
    go_wp2
    rw [HW3.out]
    refine wp_region_quiet_below mixed (by kernel_rfl) ?_
    repeat (quiet_step (first
      | (go_at_call 18; exact calls_grownTo (H1.out _))
      | (go_at_call 19; exact calls_grownTo (H2.out _))
      | (go_at_call 20; exact calls_grownTo (H3.out _))
      | (go_at_call 21; exact calls_grownTo (H4.out _))
      | (go_at_call 22; exact calls_grownTo (H5.out _))
      | (go_at_call 23; exact calls_grownTo (H6.out _))
      | (go_at_call 17; exact calls_grownTo (H7.out _))))
    refine wpQuiet_nil ?_
    intro _ hw'
    obtain ⟨⟨wz, hbz⟩, hw''⟩ := hw'
    subst hw''
    have HBZ := Lib.hid (HB3.out.trans (hbz.mono HB3.out.size))
    clear hbz fx0 fx1 fx2 fx3 fx4 fy0 fy1 fy2 fz0 fz1 fz2
    go_wp2
    go_ret
    exact ⟨rfl, HBZ.out⟩
end Pgm
end Go.Proofs.YtgonfbfagcajcaaDoor
