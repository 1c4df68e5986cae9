/- burinlaw03.works: the chapter's example. -/
import Derived.Test.YtbccaljfofnepaaFnC
import Derived.Test.YtbccaljfofnepaaRf3E
namespace Go.Proofs.Ytbccaljfofnepaa
open Go.RowKit
set_option linter.unusedVariables false
theorem irow_three (W : World) (x y z : Int) (t : TypeId) : IRow (W.alloc (.cells #[.int .i64 x, .int .i64 y, .int .i64 z] t)) (.slice (some ⟨W.heap.size, 0, none⟩) 3 3) [x, y, z] :=
  ⟨_, 3, rfl, Nat.le_refl _, by decide, fun j hj => by
    have hj3 : j < 3 := hj
    have h : j = 0 ∨ j = 1 ∨ j = 2 := by omega
    rcases h with rfl | rfl | rfl
    all_goals exact ⟨W.heap.size, rfl, by simp, by simp⟩⟩
theorem ex_fam : Fd.fam 75 = [75, 107, 8490] := by rw [← Fd.famF_eq]; decide +kernel
theorem ex_next1 : Fd.nextL (Fd.fam 107) 107 = 8490 := by rw [← Fd.famF_eq]; decide +kernel
theorem ex_next2 : Fd.nextL (Fd.fam 8490) 8490 = 75 := by rw [← Fd.famF_eq]; decide +kernel
theorem ex_same1 : Fd.joinB (Fd.fam 107) 8490 = true := by rw [← Fd.famF_eq]; decide +kernel
theorem ex_same2 : Fd.joinB (Fd.fam 107) 108 = false := by rw [← Fd.famF_eq]; decide +kernel
theorem ex_c1 (W : World) : Calls Try.prog 8 #[.int .i64 75] W fun e w' => ∃ v, e = .returned v ∧ IRow w' v [75, 107, 8490] ∧ Below W.heap.size W w' :=
  (fam_any W 75).mono fun _ _ ⟨v, h1, h2, h3⟩ => ⟨v, h1, by rw [← ex_fam]; exact h2.row, h3⟩
theorem ex_c2 (W : World) : Calls Try.prog 12 #[.int .i64 107] W fun e w' => e = .returned (.int .i64 8490) ∧ Below W.heap.size W w' := by rw [← ex_next1]; exact nextl_any W 107
theorem ex_c3 (W : World) : Calls Try.prog 12 #[.int .i64 8490] W fun e w' => e = .returned (.int .i64 75) ∧ Below W.heap.size W w' := by rw [← ex_next2]; exact nextl_any W 8490
theorem ex_c4 (W : World) : Calls Try.prog 14 #[.int .i64 107, .int .i64 8490] W fun e w' => e = .returned (.bool true) ∧ Below W.heap.size W w' := by rw [← ex_same1]; exact same_any W 107 8490
theorem ex_c5 (W : World) : Calls Try.prog 14 #[.int .i64 107, .int .i64 108] W fun e w' => e = .returned (.bool false) ∧ Below W.heap.size W w' := by rw [← ex_same2]; exact same_any W 107 108
theorem same_int_eq (W : World) (va vb : Value) (l : List Int) (ha : IRow W va l) (hb : IRow W vb l) (hl : l.length ≤ 8796093022208) :
    Calls Try.prog 10 #[va, vb] W fun e W' => e = .returned (.bool true) ∧ Below W.heap.size W W' :=
  (same_int W va vb l l ha hb hl hl).mono fun _ _ ⟨h1, d, h2⟩ => ⟨by rw [h1, decide_eq_true rfl], by rw [h2]; exact below_drewN (Below.refl _ _) d⟩
set_option maxRecDepth 100000 in
set_option maxHeartbeats 2000000 in
theorem works_any (W : World) :
    Calls Try.prog 15 #[] W fun e w' => e = .returned (.bool true) ∧ Below W.heap.size W w' := by
  go_enter Try.func15, Try.ntmps15
  go_wp2_with fail
  refine (ex_c1 _).mono ?_
  rintro e w1 ⟨v, rfl, hr, hb⟩
  have HR := Lib.hid (hr.below (Nat.le_refl _) ((Below.refl w1.heap.size w1).alloc (Nat.le_refl _) (.cells #[.int .i64 75, .int .i64 107, .int .i64 8490] 3)))
  have HT := Lib.hid (irow_three w1 75 107 8490 3)
  have HB1 := Lib.hid (hb.alloc hb.size (.cells #[.int .i64 75, .int .i64 107, .int .i64 8490] 3))
  clear hr hb
  go_wp2_with fail
  refine (same_int_eq _ _ _ _ HR.out HT.out (by decide)).mono ?_
  rintro e w2 ⟨rfl, hb⟩
  have HB2 := Lib.hid (HB1.out.trans (hb.mono HB1.out.size))
  clear hb
  go_wp2_with fail
  refine (ex_c2 _).mono ?_
  rintro e w3 ⟨rfl, hb⟩
  have HB3 := Lib.hid (HB2.out.trans (hb.mono HB2.out.size))
  clear hb
  go_wp2_with fail
  refine (ex_c3 _).mono ?_
  rintro e w4 ⟨rfl, hb⟩
  have HB4 := Lib.hid (HB3.out.trans (hb.mono HB3.out.size))
  clear hb
  go_wp2_with fail
  refine (ex_c4 _).mono ?_
  rintro e w5 ⟨rfl, hb⟩
  have HB5 := Lib.hid (HB4.out.trans (hb.mono HB4.out.size))
  clear hb
  go_wp2_with fail
  refine (ex_c5 _).mono ?_
  rintro e w6 ⟨rfl, hb⟩
  have HB6 := Lib.hid (HB5.out.trans (hb.mono HB5.out.size))
  clear hb
  go_wp2
  go_ret
  exact ⟨rfl, HB6.out⟩
end Go.Proofs.Ytbccaljfofnepaa
