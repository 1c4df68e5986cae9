/- Lists of ranges in memory; the contract of the reference's Has (burinref02). -/
import Derived.Test.YtimgdooelbhjfaaGreatDoorRows
import Derived.Test.YtimgdooelbhjfaaGreatDoorRgMath
import Derived.WalkKit
import Derived.OwnWalk
import Derived.WalkLawsBesides
import Derived.WalkSpells
import Derived.Lib.Hide
import Derived.Deep.QuietTactic
import Derived.BigQuiet
namespace Go.Proofs.YtimgdooelbhjfaaGreatDoor
open Go.RowKit
set_option linter.unusedVariables false
def RRow (W : World) (v : Value) (l : List (Int × Int)) : Prop :=
  ∃ a cap, v = .slice a l.length cap ∧ l.length ≤ 8796093022208 ∧ (∀ p ∈ l, -9223372036854775808 ≤ p.1 ∧ p.1 ≤ 9223372036854775807 ∧ -9223372036854775808 ≤ p.2 ∧ p.2 ≤ 9223372036854775807) ∧ ∀ j, j < l.length → ∃ b off, a = some ⟨b, off, none⟩ ∧ b < W.heap.size ∧
    W.cell? ⟨b, off + j * 2, none⟩ = some (.int .i64 (l[j]?.getD (0, 0)).1) ∧ W.cell? ⟨b, off + j * 2 + 1, none⟩ = some (.int .i64 (l[j]?.getD (0, 0)).2)
theorem RRow.below {W W' : World} {v : Value} {l : List (Int × Int)} (h : RRow W v l) {B : Nat} (hB : W.heap.size ≤ B) (hb : Below B W W') : RRow W' v l := by
  obtain ⟨a, cap, hv, hl, hw, hc⟩ := h
  refine ⟨a, cap, hv, hl, hw, fun j hj => ?_⟩
  obtain ⟨b, off, ha, hlt, h1, h2⟩ := hc j hj
  exact ⟨b, off, ha, Nat.lt_of_lt_of_le hlt hb.size, (hb.cell (p := ⟨b, off + j * 2, none⟩) (by show b < B; omega)).trans h1, (hb.cell (p := ⟨b, off + j * 2 + 1, none⟩) (by show b < B; omega)).trans h2⟩
theorem any_take_succ (l : List (Int × Int)) (k : Nat) (hk : k < l.length) (f : Int × Int → Bool) : (l.take (k + 1)).any f = ((l.take k).any f || f (l[k]?.getD (0, 0))) := by
  rw [List.take_succ_eq_append_getElem hk, List.any_append]
  simp [hk]
set_option maxRecDepth 100000 in
set_option maxHeartbeats 1000000 in
theorem refHas_walk (W : World) (a : Option Addr) (n cap : Nat) (l : List (Int × Int)) (r : Int) (hn : l.length = n) (hn2 : n ≤ 8796093022208)
    (hc : ∀ j, j < n → ∃ b off, a = some ⟨b, off, none⟩ ∧ b < W.heap.size ∧ W.cell? ⟨b, off + j * 2, none⟩ = some (.int .i64 (l[j]?.getD (0, 0)).1) ∧ W.cell? ⟨b, off + j * 2 + 1, none⟩ = some (.int .i64 (l[j]?.getD (0, 0)).2)) :
    Calls Tryz.prog 73 #[.slice a n cap, .int .i64 r] W fun e w' => e = .returned (.bool (Rg.hasB l r)) ∧ W = w' := by
  have HN := Lib.hid hn
  have HC := Lib.hid hc
  clear hn hc
  by_cases hr : 0 ≤ r ∧ r ≤ 1114111
  · obtain ⟨hr0, hr1⟩ := hr
    go_enter Tryz.func73, Tryz.ntmps73
    go_wp2
    go_loop [4, 5] (fun R i => ∃ k : Nat, k ≤ n ∧ i = .int .i64 k ∧ Hid ((l.take k).any (fun p => decide (p.1 ≤ r ∧ r ≤ p.2)) = false)) (fun _ i => n - (intOf i).toNat)
    case atStart => exact ⟨0, Nat.zero_le _, rfl, Lib.hid rfl⟩
    case round =>
      obtain ⟨k, hk, rfl, HA⟩ := hrel
      by_cases hlt : k < n
      · obtain ⟨b, off, rfl, hb, hc1, hc2⟩ := HC.out k hlt
        have HT := Lib.hid (any_take_succ l k (by rw [HN.out]; exact hlt) (fun p => decide (p.1 ≤ r ∧ r ≤ p.2)))
        obtain ⟨p, hp⟩ : ∃ p, l[k]?.getD (0, 0) = p := ⟨_, rfl⟩
        rw [hp] at hc1 hc2
        have HP := Lib.hid hp
        clear hp
        have HY : Hid (p.1 ≤ r → r ≤ p.2 → Rg.hasB l r = true) := Lib.hid (fun h1 h2 => (Rg.hasB_iff l r).2 ⟨⟨hr0, hr1⟩, p, by
          have := HP.out; rw [List.getElem?_eq_getElem (by rw [HN.out]; exact hlt)] at this; rw [← this]; exact List.getElem_mem _, h1, h2⟩)
        have HX : Hid (¬ (p.1 ≤ r ∧ r ≤ p.2) → (l.take (k + 1)).any (fun p => decide (p.1 ≤ r ∧ r ≤ p.2)) = false) := Lib.hid (fun h => by
          rw [HT.out, HA.out, HP.out]; simp only [Bool.false_or, decide_eq_false_iff_not]; exact h)
        go_wp2
        · go_ret
          exact ⟨by rw [HY.out (by assumption) (by assumption)]; rfl, rfl⟩
        all_goals
          go_round
          case rel => exact ⟨k + 1, by omega, by go_num, Lib.hid (HX.out (by omega))⟩
          case measure => simp [intOf]; omega
      · obtain rfl : k = n := by omega
        have HF : Hid (Rg.hasB l r = false) := Lib.hid (by
          have := HA.out
          rw [List.take_of_length_le (by rw [HN.out]; exact Nat.le_refl _)] at this
          unfold Rg.hasB
          rw [this, Bool.and_false])
        go_wp2
        go_ret
        exact ⟨by rw [HF.out]; rfl, rfl⟩
  · have HF : Hid (Rg.hasB l r = false) := Lib.hid (by unfold Rg.hasB; rw [decide_eq_false hr, Bool.false_and])
    by_cases h0 : 0 ≤ r
    · have h1 : 1114111 < r := by omega
      clear hr
      by_cases hz : 0 < n
      all_goals
        go_enter Tryz.func73, Tryz.ntmps73
        go_wp2
        refine wp_loop_rounds 1 ?_
        rw [rounds_succ]
        go_wp2
        go_ret
        exact ⟨by rw [HF.out]; rfl, rfl⟩
    · have h1 : r < 0 := by omega
      clear hr
      by_cases hz : 0 < n
      all_goals
        go_enter Tryz.func73, Tryz.ntmps73
        go_wp2
        refine wp_loop_rounds 1 ?_
        rw [rounds_succ]
        go_wp2
        go_ret
        exact ⟨by rw [HF.out]; rfl, rfl⟩
theorem refHas_any (W : World) (v : Value) (l : List (Int × Int)) (r : Int) (h : RRow W v l) :
    Calls Tryz.prog 73 #[v, .int .i64 r] W fun e w' => e = .returned (.bool (Rg.hasB l r)) ∧ W = w' := by
  obtain ⟨a, cap, rfl, hl, hw, hc⟩ := h
  exact refHas_walk W a _ cap l r rfl hl hc
theorem fold_take_succ (at_ : Int) (l : List (Int × Int)) (k : Nat) (hk : k < l.length) : (l.take (k + 1)).foldl (Rg.edge1 at_) 1114112 = Rg.edge1 at_ ((l.take k).foldl (Rg.edge1 at_) 1114112) (l[k]?.getD (0, 0)) := by
  rw [List.take_succ_eq_append_getElem hk, List.foldl_append]
  simp [hk]
set_option maxRecDepth 100000 in
set_option maxHeartbeats 1000000 in
theorem refEdge_walk (W : World) (a : Option Addr) (n cap : Nat) (l : List (Int × Int)) (r : Int) (hn : l.length = n) (hn2 : n ≤ 8796093022208)
    (hc : ∀ j, j < n → ∃ b off, a = some ⟨b, off, none⟩ ∧ b < W.heap.size ∧ W.cell? ⟨b, off + j * 2, none⟩ = some (.int .i64 (l[j]?.getD (0, 0)).1) ∧ W.cell? ⟨b, off + j * 2 + 1, none⟩ = some (.int .i64 (l[j]?.getD (0, 0)).2))
    (hw : ∀ p ∈ l, -9223372036854775808 ≤ p.1 ∧ p.1 ≤ 9223372036854775807 ∧ -9223372036854775808 ≤ p.2 ∧ p.2 ≤ 9223372036854775807) (hr0 : 0 ≤ r) (hr1 : r ≤ 1114111) :
    Calls Tryz.prog 72 #[.slice a n cap, .int .i64 r] W fun e w' => e = .returned (.int .i64 (Rg.edgeN l r)) ∧ W = w' := by
  have HN := Lib.hid hn
  have HC := Lib.hid hc
  have HW := Lib.hid hw
  clear hn hc hw
  go_enter Tryz.func72, Tryz.ntmps72
  go_wp2
  go_loop [5, 6] (fun N i => ∃ (k : Nat) (x : Int), k ≤ n ∧ 0 ≤ x ∧ x ≤ 1114112 ∧ i = .int .i64 k ∧ N = .int .i64 x ∧ Hid ((l.take k).foldl (Rg.edge1 r) 1114112 = x)) (fun _ i => n - (intOf i).toNat)
  case atStart => exact ⟨0, 1114112, Nat.zero_le _, by omega, by omega, rfl, rfl, Lib.hid rfl⟩
  case round =>
    obtain ⟨k, x, hk, hx0, hx1, rfl, rfl, HF⟩ := hrel
    by_cases hlt : k < n
    · obtain ⟨b, off, rfl, hb, hc1, hc2⟩ := HC.out k hlt
      have ht := fold_take_succ r l k (by rw [HN.out]; exact hlt)
      rw [HF.out] at ht
      obtain ⟨p, hp⟩ : ∃ p, l[k]?.getD (0, 0) = p := ⟨_, rfl⟩
      have hpm : p ∈ l := by rw [← hp, List.getElem?_eq_getElem (by rw [HN.out]; exact hlt)]; exact List.getElem_mem _
      rw [hp] at hc1 hc2 ht
      obtain ⟨hw1, hw2, hw3, hw4⟩ := HW.out p hpm
      have HT := Lib.hid ht
      have hbd := Rg.edge1_le r x p
      have HBD := Lib.hid hbd
      clear hp ht hbd hpm
      obtain ⟨p1, p2⟩ := p
      dsimp only at hc1 hc2 hw1 hw2 hw3 hw4
      go_wp2
      all_goals
          go_round
          case rel => refine ⟨k + 1, _, by omega, ?_, ?_, by go_num, rfl, Lib.hid (by rw [HT.out]; simp only [Rg.edge1]; repeat (first | rfl | omega | split))⟩ <;> omega
          case measure => simp [intOf]; omega
    · obtain rfl : k = n := by omega
      have HE : Hid (Rg.edgeN l r = x) := Lib.hid (by
        have := HF.out
        rw [List.take_of_length_le (by rw [HN.out]; exact Nat.le_refl _)] at this
        exact this)
      go_wp2
      go_ret
      exact ⟨by rw [HE.out]; rfl, rfl⟩
end Go.Proofs.YtimgdooelbhjfaaGreatDoor
