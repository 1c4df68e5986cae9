/- How many numbers a normalized list has. -/
import Derived.Test.YtbccaljfofnepaaRgD
namespace Go.Proofs.Ytbccaljfofnepaa.Rg
set_option linter.unusedVariables false
/-- How many of the first n numbers have F. -/
def cnt (F : Int → Bool) : Nat → Int
  | 0 => 0
  | n + 1 => cnt F n + cond (F n) 1 0
theorem cnt_congr {F G : Int → Bool} : ∀ n : Nat, (∀ q : Int, 0 ≤ q → q < n → F q = G q) → cnt F n = cnt G n
  | 0, _ => rfl
  | n + 1, h => by
    have ih := cnt_congr n (fun q h0 h1 => h q h0 (by omega))
    have e := h n (by omega) (by omega)
    simp only [cnt, ih, e]
theorem cnt_both (F G : Int → Bool) : ∀ n : Nat, cnt (fun q => F q || G q) n + cnt (fun q => F q && G q) n = cnt F n + cnt G n
  | 0 => rfl
  | n + 1 => by
    have ih := cnt_both F G n
    simp only [cnt]
    generalize F n = x
    generalize G n = y
    cases x <;> cases y <;> simp <;> omega
theorem cnt_not (F : Int → Bool) : ∀ n : Nat, cnt F n + cnt (fun q => !F q) n = n
  | 0 => rfl
  | n + 1 => by
    have ih := cnt_not F n
    simp only [cnt]
    generalize F n = x
    cases x <;> simp <;> omega
theorem cnt_none {F : Int → Bool} (h : ∀ q, F q = false) : ∀ n : Nat, cnt F n = 0
  | 0 => rfl
  | n + 1 => by simp only [cnt, cnt_none h n, h]; rfl
theorem cnt_range (x y : Int) (hx : 0 ≤ x) (hxy : x ≤ y) : ∀ n : Nat, cnt (fun q => decide (x ≤ q ∧ q ≤ y)) n = if (n : Int) ≤ x then 0 else if (n : Int) ≤ y + 1 then n - x else y - x + 1
  | 0 => by rw [if_pos (by omega)]; rfl
  | n + 1 => by
    have ih := cnt_range x y hx hxy n
    simp only [cnt, ih, Bool.cond_decide]
    push_cast
    repeat' split
    all_goals omega
theorem sumL_cnt (N : Nat) : ∀ (l : List R) (lo : Int), NormFrom lo l → 0 ≤ lo → (1114112 : Int) ≤ N → sumL l = cnt (fun q => l.any fun p => decide (p.1 ≤ q ∧ q ≤ p.2)) N
  | [], lo, _, _, _ => (cnt_none (fun q => rfl) N).symm
  | p :: l, lo, ⟨h1, h2, h3, h4⟩, h0, hN => by
    have ih := sumL_cnt N l (p.2 + 2) h4 (by omega) hN
    have e : sumL (p :: l) = p.2 - p.1 + 1 + sumL l := rfl
    have hb := cnt_both (fun q => decide (p.1 ≤ q ∧ q ≤ p.2)) (fun q => l.any fun p => decide (p.1 ≤ q ∧ q ≤ p.2)) N
    have hr := cnt_range p.1 p.2 (by omega) h2 N
    have hr' : cnt (fun q => decide (p.1 ≤ q ∧ q ≤ p.2)) N = p.2 - p.1 + 1 := by
      rw [hr]; split
      · omega
      · split <;> omega
    have hd : cnt (fun q => decide (p.1 ≤ q ∧ q ≤ p.2) && l.any fun p => decide (p.1 ≤ q ∧ q ≤ p.2)) N = 0 := by
      refine cnt_none (fun q => ?_) N
      rw [Bool.eq_false_iff]
      intro h
      rw [Bool.and_eq_true, decide_eq_true_eq, List.any_eq_true] at h
      obtain ⟨hq, x, hx, hxq⟩ := h
      rw [decide_eq_true_eq] at hxq
      have := (norm_lo l (p.2 + 2) h4 x hx).1
      omega
    have hc : cnt (fun q => (p :: l).any fun p => decide (p.1 ≤ q ∧ q ≤ p.2)) N = cnt (fun q => decide (p.1 ≤ q ∧ q ≤ p.2) || l.any fun p => decide (p.1 ≤ q ∧ q ≤ p.2)) N := cnt_congr N (fun q _ _ => rfl)
    omega
theorem sumL_has {l : List R} (h : NormL l) : sumL l = cnt (hasB l) 1114112 := by
  rw [sumL_cnt 1114112 l 0 h (Int.le_refl _) (by omega)]
  refine cnt_congr 1114112 (fun q h0 h1 => ?_)
  unfold hasB
  rw [decide_eq_true (by omega), Bool.true_and]
end Go.Proofs.Ytbccaljfofnepaa.Rg
