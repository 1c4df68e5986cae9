/- The landed ranges: the contracts of inside, Has (with its closure) and Check. -/
import Derived.Test.YtimgdooelbhjfaaGreatDoorRgI
import Derived.Test.YtimgdooelbhjfaaGreatDoorRnMath
namespace Go.Proofs.YtimgdooelbhjfaaGreatDoor
open Go.RowKit
set_option linter.unusedVariables false
set_option maxRecDepth 100000 in
set_option maxHeartbeats 1000000 in
theorem inside_yes (r : Int) (w : World) (h0 : 0 ≤ r) (h1 : r ≤ 1114111) : Calls Tryz.prog 36 #[.int .i64 r] w fun e w' => e = .returned (.bool true) ∧ w = w' := by
  go_enter Tryz.func36, Tryz.ntmps36
  go_wp2
  go_ret
  exact ⟨rfl, rfl⟩
set_option maxRecDepth 100000 in
set_option maxHeartbeats 1000000 in
theorem inside_no (r : Int) (w : World) (h : ¬ (0 ≤ r ∧ r ≤ 1114111)) : Calls Tryz.prog 36 #[.int .i64 r] w fun e w' => e = .returned (.bool false) ∧ w = w' := by
  by_cases h0 : 0 ≤ r
  · have h1 : 1114111 < r := by omega
    clear h
    go_enter Tryz.func36, Tryz.ntmps36
    go_wp2
    go_ret
    exact ⟨rg_ret_bool (by simp; omega), rfl⟩
  · have h1 : r < 0 := by omega
    clear h
    go_enter Tryz.func36, Tryz.ntmps36
    go_wp2
    go_ret
    exact ⟨rfl, rfl⟩
set_option maxRecDepth 100000 in
set_option maxHeartbeats 1000000 in
theorem hasCl (x y r : Int) (B : Nat) (w : World) (hB : B < w.heap.size) (hc : w.cell? ⟨B, 0, none⟩ = some (.int .i64 r)) :
    Calls Tryz.prog 39 #[.agg #[.int .i64 x, .int .i64 y], .pointer (some ⟨B, 0, none⟩)] w fun e w' => e = .returned (.bool (decide (x ≤ r ∧ r ≤ y))) ∧ Below w.heap.size w w' := by
  have hne : B ≠ w.heap.size := by omega
  by_cases h1 : x ≤ r
  · by_cases h2 : r ≤ y
    · go_enter Tryz.func39, Tryz.ntmps39
      go_wp2
      go_ret
      exact ⟨rg_ret_bool (by simp; omega), (Below.refl _ _).alloc (Nat.le_refl _) _⟩
    · go_enter Tryz.func39, Tryz.ntmps39
      go_wp2
      go_ret
      exact ⟨rg_ret_bool (by simp; omega), (Below.refl _ _).alloc (Nat.le_refl _) _⟩
  · go_enter Tryz.func39, Tryz.ntmps39
    go_wp2
    go_ret
    exact ⟨rg_ret_bool (by simp; omega), (Below.refl _ _).alloc (Nat.le_refl _) _⟩
theorem any_true {l : List (Int × Int)} {k : Nat} {f : Int × Int → Bool} (hk : k < l.length) (h : f (l[k]?.getD (0, 0)) = true) : l.any f = true :=
  List.any_eq_true.2 ⟨l[k], List.getElem_mem hk, by rw [List.getElem?_eq_getElem hk] at h; exact h⟩
set_option maxRecDepth 100000 in
set_option maxHeartbeats 2000000 in
theorem idx_walk (W : World) (a : Option Addr) (n cap B : Nat) (l : List (Int × Int)) (r : Int) (hn : l.length = n) (hn2 : n ≤ 8796093022208)
    (hc : ∀ j, j < n → ∃ b off, a = some ⟨b, off, none⟩ ∧ b < W.heap.size ∧ W.cell? ⟨b, off + j * 2, none⟩ = some (.int .i64 (l[j]?.getD (0, 0)).1) ∧ W.cell? ⟨b, off + j * 2 + 1, none⟩ = some (.int .i64 (l[j]?.getD (0, 0)).2))
    (hB : B < W.heap.size) (hr : W.cell? ⟨B, 0, none⟩ = some (.int .i64 r)) :
    Calls Tryz.prog 59 #[.slice a n cap, .func (.func 39) #[] #[.pointer (some ⟨B, 0, none⟩)]] W
      fun e w' => ∃ z : Int, e = .returned (.int .i64 z) ∧ -1 ≤ z ∧ z ≤ n ∧ decide (0 ≤ z) = l.any (fun p => decide (p.1 ≤ r ∧ r ≤ p.2)) ∧ Below W.heap.size W w' := by
  have HN := Lib.hid hn
  have HC := Lib.hid hc
  have HR := Lib.hid hr
  clear hn hc hr
  go_enter Tryz.func59, Tryz.ntmps59
  go_wp2
  go_loopw [5, 8] (fun _ i wr => ∃ k : Nat, k ≤ n ∧ i = .int .i64 k ∧ Hid ((l.take k).any (fun p => decide (p.1 ≤ r ∧ r ≤ p.2)) = false) ∧ Hid (Below W.heap.size W wr)) (fun _ i _ => n - (intOf i).toNat)
  case atStart => exact ⟨0, Nat.zero_le _, rfl, Lib.hid rfl, Lib.hid (Below.refl _ _)⟩
  case round =>
    obtain ⟨k, hk, rfl, HA, HB⟩ := hrel
    by_cases hlt : k < n
    · obtain ⟨b, off, rfl, hb, hc1, hc2⟩ := HC.out k hlt
      have hkl : k < l.length := by rw [HN.out]; exact hlt
      have HT := Lib.hid (any_take_succ l k hkl (fun p => decide (p.1 ≤ r ∧ r ≤ p.2)))
      have HY := Lib.hid (any_true (f := fun p => decide (p.1 ≤ r ∧ r ≤ p.2)) hkl)
      rw [← HB.out.cell (p := ⟨b, off + k * 2, none⟩) hb] at hc1
      rw [← HB.out.cell (p := ⟨b, off + k * 2 + 1, none⟩) hb] at hc2
      obtain ⟨p, hp⟩ : ∃ p, l[k]?.getD (0, 0) = p := ⟨_, rfl⟩
      rw [hp] at hc1 hc2 HT HY
      obtain ⟨x, y⟩ := p
      dsimp only at hc1 hc2
      have hr' := HR.out
      rw [← HB.out.cell (p := ⟨B, 0, none⟩) hB] at hr'
      have HR' := Lib.hid hr'
      have hsz := HB.out.size
      clear hp hr' hkl
      go_wp2_with fail
      refine (hasCl x y r B _ (by omega) HR'.out).mono ?_
      rintro e w1 ⟨rfl, hb1⟩
      have HB1 := Lib.hid (HB.out.trans (hb1.mono hsz))
      clear hb1
      by_cases hin : x ≤ r ∧ r ≤ y
      · rw [decide_eq_true hin]
        have hany := HY.out (decide_eq_true hin)
        have HH := Lib.hid hany
        clear hin hany
        go_wp2
        go_ret
        exact ⟨k, rfl, by omega, by omega, by rw [HH.out]; simp, HB1.out⟩
      · rw [decide_eq_false hin]
        have HT' : Hid ((l.take (k + 1)).any (fun p => decide (p.1 ≤ r ∧ r ≤ p.2)) = false) := Lib.hid (by rw [HT.out, HA.out]; simp only [Bool.false_or, decide_eq_false_iff_not]; exact hin)
        clear hin
        go_wp2
        go_roundw
        case rel => exact ⟨k + 1, by omega, by go_num, HT', HB1⟩
        case measure => simp [intOf]; omega
    · obtain rfl : k = n := by omega
      have HE : Hid (l.any (fun p => decide (p.1 ≤ r ∧ r ≤ p.2)) = false) := Lib.hid (by
        have := HA.out
        rwa [List.take_of_length_le (by rw [HN.out]; exact Nat.le_refl _)] at this)
      go_wp2
      go_ret
      exact ⟨-1, rfl, by omega, by omega, by rw [HE.out]; rfl, HB.out⟩
end Go.Proofs.YtimgdooelbhjfaaGreatDoor
