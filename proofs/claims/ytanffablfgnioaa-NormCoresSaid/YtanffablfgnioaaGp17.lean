/- The landed ranges: Check. -/
import Derived.Test.YtanffablfgnioaaGp16
import Derived.Test.YtanffablfgnioaaGp9
import Derived.IntWalk
namespace Go.Proofs.Ytanffablfgnioaa
open Go.RowKit
set_option linter.unusedVariables false
set_option maxRecDepth 100000 in
set_option maxHeartbeats 4000000 in
theorem check_walk (W : World) (a : Option Addr) (n cap : Nat) (l : List (Int × Int)) (hn : l.length = n) (hn2 : n ≤ 8796093022208)
    (hc : ∀ j, j < n → ∃ b off, a = some ⟨b, off, none⟩ ∧ b < W.heap.size ∧ W.cell? ⟨b, off + j * 2, none⟩ = some (.int .i64 (l[j]?.getD (0, 0)).1) ∧ W.cell? ⟨b, off + j * 2 + 1, none⟩ = some (.int .i64 (l[j]?.getD (0, 0)).2)) :
    Calls Try.prog 48 #[.slice a n cap] W fun e w' => e = .returned (.int .i64 (Rg.checkF none l)) ∧ Below W.heap.size W w' := by
  have HN := Lib.hid hn
  have HC := Lib.hid hc
  clear hn hc
  go_enter Try.func48, Try.ntmps48
  go_wp2
  go_loopw [2, 7] (fun R i wr => ∃ k : Nat, k ≤ n ∧ i = .int .i64 k ∧ Hid (Rg.checkF none l = Rg.checkF (Rg.prevAt l k) (l.drop k)) ∧ Hid (∀ j, j < k → 0 ≤ (l[j]?.getD (0, 0)).2 ∧ (l[j]?.getD (0, 0)).2 ≤ 1114111) ∧ Hid (Below W.heap.size W wr)) (fun _ i _ => n - (intOf i).toNat)
  case atStart => exact ⟨0, Nat.zero_le _, rfl, Lib.hid rfl, Lib.hid (fun j hj => absurd hj (Nat.not_lt_zero _)), Lib.hid (Below.refl _ _)⟩
  case round =>
    obtain ⟨k, hk, rfl, HF, HP, HB⟩ := hrel
    by_cases hlt : k < n
    · have HS := Lib.hid (Rg.checkF_step l k (by rw [HN.out]; exact hlt))
      obtain ⟨b, off, rfl, hb, hc1, hc2⟩ := HC.out k hlt
      rw [← HB.out.cell (p := ⟨b, off + k * 2, none⟩) hb] at hc1
      rw [← HB.out.cell (p := ⟨b, off + k * 2 + 1, none⟩) hb] at hc2
      obtain ⟨p, hp⟩ : ∃ p, l[k]?.getD (0, 0) = p := ⟨_, rfl⟩
      have HP2 : Hid (0 ≤ p.2 ∧ p.2 ≤ 1114111 → ∀ j, j < k + 1 → 0 ≤ (l[j]?.getD (0, 0)).2 ∧ (l[j]?.getD (0, 0)).2 ≤ 1114111) := Lib.hid (fun h j hj => by
        by_cases e : j = k
        · rw [e, hp]; exact h
        · exact HP.out j (by omega))
      rw [hp] at hc1 hc2
      rw [hp] at HS
      have hsz := HB.out.size
      clear hp
      obtain ⟨p1, p2⟩ := p
      dsimp only at hc1 hc2
      have HB1 := Lib.hid (HB.out.alloc hsz (.cells #[.int .i64 p1, .int .i64 p2] 49))
      by_cases a1 : p1 < 0 ∨ p2 < 0 ∨ p1 > 1114111 ∨ p2 > 1114111
      · have HE : Hid (Rg.checkF none l = 1) := Lib.hid (by rw [HF.out, HS.out, show Rg.check1 (Rg.prevAt l k) (p1, p2) = 1 from if_pos a1, if_neg (by decide)])
        have HA := Lib.hid a1
        clear a1
        by_cases i1 : 0 ≤ p1 ∧ p1 ≤ 1114111
        · have i2 : ¬ (0 ≤ p2 ∧ p2 ≤ 1114111) := by have := HA.out; omega
          have HI := Lib.hid i2
          obtain ⟨q1, q2⟩ := i1
          clear i2
          go_wp2_with fail
          refine (inside_yes p1 _ q1 q2).mono ?_
          rintro e w1 ⟨rfl, rfl⟩
          go_wp2_with fail
          refine (inside_no p2 _ HI.out).mono ?_
          rintro e w1 ⟨rfl, rfl⟩
          go_wp2
          go_ret
          exact ⟨by rw [HE.out]; rfl, HB1.out⟩
        · have HI := Lib.hid i1
          clear i1
          go_wp2_with fail
          refine (inside_no p1 _ HI.out).mono ?_
          rintro e w1 ⟨rfl, rfl⟩
          go_wp2
          go_ret
          exact ⟨by rw [HE.out]; rfl, HB1.out⟩
      · obtain ⟨q1, q2, q3, q4⟩ : 0 ≤ p1 ∧ 0 ≤ p2 ∧ p1 ≤ 1114111 ∧ p2 ≤ 1114111 := by omega
        have HP3 := Lib.hid (HP2.out ⟨q2, q4⟩)
        by_cases a2 : p1 > p2
        · have HE : Hid (Rg.checkF none l = 4) := Lib.hid (by rw [HF.out, HS.out, show Rg.check1 (Rg.prevAt l k) (p1, p2) = 4 from (if_neg a1).trans (if_pos (.inl a2)), if_neg (by decide)])
          clear a1
          go_wp2_with fail
          refine (inside_yes p1 _ q1 q3).mono ?_
          rintro e w1 ⟨rfl, rfl⟩
          go_wp2_with fail
          refine (inside_yes p2 _ q2 q4).mono ?_
          rintro e w1 ⟨rfl, rfl⟩
          go_wp2
          go_quiet (fail)
          go_wp2
          go_ret
          exact ⟨by rw [HE.out]; rfl, below_drewNr HB1.out _⟩
        · by_cases hkp : 0 < k; rotate_left
          · have hz : Rg.check1 (Rg.prevAt l k) (p1, p2) = 0 := (if_neg a1).trans (if_neg (by rintro (h | ⟨h, h1, h2⟩); exact a2 h; exact absurd h1 (by simp [Rg.prevAt, show k = 0 by omega])))
            have HE : Hid (Rg.checkF none l = Rg.checkF (Rg.prevAt l (k + 1)) (l.drop (k + 1))) := Lib.hid (by rw [HF.out, HS.out, hz, if_pos rfl])
            clear a1 hz
            go_wp2_with fail
            refine (inside_yes p1 _ q1 q3).mono ?_
            rintro e w1 ⟨rfl, rfl⟩
            go_wp2_with fail
            refine (inside_yes p2 _ q2 q4).mono ?_
            rintro e w1 ⟨rfl, rfl⟩
            go_wp2
            have a2' : ¬ p2 < p1 := by omega
            have hkz : ¬ (0 : Int) < (k : Int) := by omega
            go_quiet (fail)
            go_wp2
            go_roundw
            case rel => exact ⟨k + 1, by omega, by go_num, HE, HP3, Lib.hid (below_drewNr HB1.out _)⟩
            case measure => simp [intOf]; omega
          · obtain ⟨j, rfl⟩ : ∃ j, k = j + 1 := ⟨k - 1, by omega⟩
            obtain ⟨b', off', hbb, hb', _, hc4⟩ := HC.out j (by omega)
            injection hbb with hbb; injection hbb with hb1 hb2; subst hb1; subst hb2
            rw [← HB.out.cell (p := ⟨b, off + j * 2 + 1, none⟩) hb] at hc4
            obtain ⟨g1, g2⟩ := HP.out j (by omega)
            obtain ⟨h, hh⟩ : ∃ h, (l[j]?.getD (0, 0)).2 = h := ⟨_, rfl⟩
            have hprev : Rg.prevAt l (j + 1) = some h := by simp only [Rg.prevAt, Nat.add_one_ne_zero, if_false, Nat.add_sub_cancel]; rw [hh]
            rw [hh] at hc4 g1 g2
            rw [hprev] at HS
            clear hh
            by_cases a3 : p1 ≤ h + 1
            · have HE : Hid (Rg.checkF none l = 4) := Lib.hid (by rw [HF.out, hprev, HS.out, show Rg.check1 (some h) (p1, p2) = 4 from (if_neg a1).trans (if_pos (.inr ⟨h, rfl, by show p1 - 1 ≤ h; omega⟩)), if_neg (by decide)])
              clear a1 hprev
              go_wp2_with fail
              refine (inside_yes p1 _ q1 q3).mono ?_
              rintro e w1 ⟨rfl, rfl⟩
              go_wp2_with fail
              refine (inside_yes p2 _ q2 q4).mono ?_
              rintro e w1 ⟨rfl, rfl⟩
              go_wp2
              have a2' : ¬ p2 < p1 := by omega
              have hkz : (0 : Int) < ((j + 1 : Nat) : Int) := by omega
              have hbw : b < wr.heap.size := by omega
              have hj0 : (0 : Int) ≤ (j : Int) := by omega
              have hjn : (j : Int) < (n : Int) := by omega
              have hjN : j < n := by omega
              have hwj : IntKind.i64.wrap (j : Int) = (j : Int) := IntWalk.i64_in _ (by omega)
              have hwh : IntKind.i64.wrap (h + 1) = h + 1 := IntWalk.i64_in _ (by omega)
              go_quiet (fail)
              clear hwj hwh
              go_wp2
              go_ret
              exact ⟨by rw [HE.out]; rfl, below_drewNr HB1.out _⟩
            · have hz : Rg.check1 (some h) (p1, p2) = 0 := (if_neg a1).trans (if_neg (by rintro (h | ⟨h, h1, h2⟩); exact a2 h; injection h1 with h1; subst h1; exact a3 (by simp only at h2; omega)))
              have HE : Hid (Rg.checkF none l = Rg.checkF (Rg.prevAt l (j + 1 + 1)) (l.drop (j + 1 + 1))) := Lib.hid (by rw [HF.out, hprev, HS.out, hz, if_pos rfl])
              clear a1 hz hprev
              go_wp2_with fail
              refine (inside_yes p1 _ q1 q3).mono ?_
              rintro e w1 ⟨rfl, rfl⟩
              go_wp2_with fail
              refine (inside_yes p2 _ q2 q4).mono ?_
              rintro e w1 ⟨rfl, rfl⟩
              go_wp2
              have a2' : ¬ p2 < p1 := by omega
              have hkz : (0 : Int) < ((j + 1 : Nat) : Int) := by omega
              have a3' : ¬ p1 ≤ h + 1 := by omega
              have hbw : b < wr.heap.size := by omega
              have hj0 : (0 : Int) ≤ (j : Int) := by omega
              have hjn : (j : Int) < (n : Int) := by omega
              have hjN : j < n := by omega
              have hwj : IntKind.i64.wrap (j : Int) = (j : Int) := IntWalk.i64_in _ (by omega)
              have hwh : IntKind.i64.wrap (h + 1) = h + 1 := IntWalk.i64_in _ (by omega)
              go_quiet (fail)
              clear hwj hwh
              go_wp2
              go_roundw
              case rel => exact ⟨j + 1 + 1, by omega, by go_num, HE, HP3, Lib.hid (below_drewNr HB1.out _)⟩
              case measure => simp [intOf]; omega
    · obtain rfl : k = n := by omega
      have HE : Hid (Rg.checkF none l = 0) := Lib.hid (by rw [HF.out, List.drop_eq_nil_of_le (by rw [HN.out]; exact Nat.le_refl _)]; rfl)
      go_wp2
      go_ret
      exact ⟨by rw [HE.out]; rfl, HB.out⟩
theorem check_any (W : World) (v : Value) (l : List (Int × Int)) (h : RRow W v l) :
    Calls Try.prog 48 #[v] W fun e w' => e = .returned (.int .i64 (Rg.checkF none l)) ∧ Below W.heap.size W w' := by
  obtain ⟨a, cap, rfl, hl, hw, hc⟩ := h
  exact check_walk W a _ cap l rfl hl hc
end Go.Proofs.Ytanffablfgnioaa
