/- The landed ranges: the contracts of Has and Check. -/
import Derived.Test.YtimgdooelbhjfaaGreatDoorRnA
namespace Go.Proofs.YtimgdooelbhjfaaGreatDoor
open Go.RowKit
set_option linter.unusedVariables false
set_option maxRecDepth 100000 in
set_option maxHeartbeats 1000000 in
theorem contains_walk (W : World) (a : Option Addr) (n cap B : Nat) (l : List (Int × Int)) (r : Int) (hn : l.length = n) (hn2 : n ≤ 8796093022208)
    (hc : ∀ j, j < n → ∃ b off, a = some ⟨b, off, none⟩ ∧ b < W.heap.size ∧ W.cell? ⟨b, off + j * 2, none⟩ = some (.int .i64 (l[j]?.getD (0, 0)).1) ∧ W.cell? ⟨b, off + j * 2 + 1, none⟩ = some (.int .i64 (l[j]?.getD (0, 0)).2))
    (hB : B < W.heap.size) (hr : W.cell? ⟨B, 0, none⟩ = some (.int .i64 r)) :
    Calls Tryz.prog 38 #[.slice a n cap, .func (.func 39) #[] #[.pointer (some ⟨B, 0, none⟩)]] W
      fun e w' => e = .returned (.bool (l.any (fun p => decide (p.1 ≤ r ∧ r ≤ p.2)))) ∧ Below W.heap.size W w' := by
  have HI := Lib.hid (idx_walk W a n cap B l r hn hn2 hc hB hr)
  clear hn hc hr
  go_enter Tryz.func38, Tryz.ntmps38
  go_wp2_with fail
  refine HI.out.mono ?_
  rintro e w1 ⟨z, rfl, hz0, hz1, hz, hb⟩
  have HZ := Lib.hid hz
  have HBB := Lib.hid hb
  clear hz hb
  go_wp2
  go_ret
  exact ⟨rg_ret_bool HZ.out, HBB.out⟩
set_option maxRecDepth 100000 in
set_option maxHeartbeats 1000000 in
theorem has_any (W : World) (v : Value) (l : List (Int × Int)) (r : Int) (h : RRow W v l) :
    Calls Tryz.prog 20 #[v, .int .i64 r] W fun e w' => e = .returned (.bool (Rg.hasB l r)) ∧ Below W.heap.size W w' := by
  obtain ⟨a, cap, rfl, hl, hw, hc⟩ := RRow.below h (Nat.le_refl _) ((Below.refl _ W).alloc (Nat.le_refl _) (.cells #[.int .i64 r] 3))
  have hi := contains_walk (W.alloc (.cells #[.int .i64 r] 3)) a _ cap W.heap.size l r rfl hl hc (by simp) (by simp)
  clear hl hw hc h
  by_cases hr : 0 ≤ r ∧ r ≤ 1114111
  · rw [show l.any (fun p => decide (p.1 ≤ r ∧ r ≤ p.2)) = Rg.hasB l r from by unfold Rg.hasB; rw [decide_eq_true hr, Bool.true_and]] at hi
    generalize Rg.hasB l r = X at hi ⊢
    have HI := Lib.hid hi
    clear hi
    obtain ⟨h0, h1⟩ := hr
    go_enter Tryz.func20, Tryz.ntmps20
    go_wp2_with fail
    refine (inside_yes r _ h0 h1).mono ?_
    rintro e w1 ⟨rfl, rfl⟩
    go_wp2_with fail
    refine HI.out.mono ?_
    rintro e w1 ⟨rfl, hb⟩
    have HBB := Lib.hid hb
    clear hb
    go_wp2
    go_ret
    exact ⟨rfl, ((Below.refl _ W).alloc (Nat.le_refl _) _).trans (HBB.out.mono (by simp))⟩
  · have HF : Hid (Rg.hasB l r = false) := Lib.hid (by unfold Rg.hasB; rw [decide_eq_false hr, Bool.false_and])
    have HR := Lib.hid hr
    clear hr hi
    go_enter Tryz.func20, Tryz.ntmps20
    go_wp2_with fail
    refine (inside_no r _ HR.out).mono ?_
    rintro e w1 ⟨rfl, rfl⟩
    go_wp2
    go_ret
    exact ⟨rg_ret_bool HF.out.symm, (Below.refl _ W).alloc (Nat.le_refl _) _⟩
end Go.Proofs.YtimgdooelbhjfaaGreatDoor
