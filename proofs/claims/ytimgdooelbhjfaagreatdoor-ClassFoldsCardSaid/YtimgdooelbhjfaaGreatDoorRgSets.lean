/- The laws of sets, of normalized lists: plain mathematics over what is made. -/
import Derived.Test.YtimgdooelbhjfaaGreatDoorRgD
import Derived.Test.YtimgdooelbhjfaaGreatDoorRnMath
import Derived.Test.YtimgdooelbhjfaaGreatDoorRgCkM
namespace Go.Proofs.YtimgdooelbhjfaaGreatDoor.Rg
set_option linter.unusedVariables false
/-- How many of the first n numbers have F. -/
def cnt (F : Int → Bool) : Nat → Int
  | 0 => 0
  | n + 1 => cnt F n + cond (F n) 1 0
theorem cnt_congr {F G : Int → Bool} : ∀ n : Nat, (∀ q : Int, 0 ≤ q → q < n → F q = G q) → cnt F n = cnt G n
  | 0, _ => rfl
  | n + 1, h => by
    have ih := cnt_congr n (fun q h0 h1 => h q h0 (by omega))
    have e := h n (by omega) (by omega)
    simp only [cnt, ih, e]
theorem cnt_both (F G : Int → Bool) : ∀ n : Nat, cnt (fun q => F q || G q) n + cnt (fun q => F q && G q) n = cnt F n + cnt G n
  | 0 => rfl
  | n + 1 => by
    have ih := cnt_both F G n
    simp only [cnt]
    generalize F n = x
    generalize G n = y
    cases x <;> cases y <;> simp <;> omega
theorem cnt_not (F : Int → Bool) : ∀ n : Nat, cnt F n + cnt (fun q => !F q) n = n
  | 0 => rfl
  | n + 1 => by
    have ih := cnt_not F n
    simp only [cnt]
    generalize F n = x
    cases x <;> simp <;> omega
theorem cnt_none {F : Int → Bool} (h : ∀ q, F q = false) : ∀ n : Nat, cnt F n = 0
  | 0 => rfl
  | n + 1 => by simp only [cnt, cnt_none h n, h]; rfl
theorem cnt_range (x y : Int) (hx : 0 ≤ x) (hxy : x ≤ y) : ∀ n : Nat, cnt (fun q => decide (x ≤ q ∧ q ≤ y)) n = if (n : Int) ≤ x then 0 else if (n : Int) ≤ y + 1 then n - x else y - x + 1
  | 0 => by rw [if_pos (by omega)]; rfl
  | n + 1 => by
    have ih := cnt_range x y hx hxy n
    simp only [cnt, ih, Bool.cond_decide]
    push_cast
    repeat' split
    all_goals omega
theorem sumL_cnt (N : Nat) : ∀ (l : List R) (lo : Int), NormFrom lo l → 0 ≤ lo → (1114112 : Int) ≤ N → sumL l = cnt (fun q => l.any fun p => decide (p.1 ≤ q ∧ q ≤ p.2)) N
  | [], lo, _, _, _ => (cnt_none (fun q => rfl) N).symm
  | p :: l, lo, ⟨h1, h2, h3, h4⟩, h0, hN => by
    have ih := sumL_cnt N l (p.2 + 2) h4 (by omega) hN
    have e : sumL (p :: l) = p.2 - p.1 + 1 + sumL l := rfl
    have hb := cnt_both (fun q => decide (p.1 ≤ q ∧ q ≤ p.2)) (fun q => l.any fun p => decide (p.1 ≤ q ∧ q ≤ p.2)) N
    have hr := cnt_range p.1 p.2 (by omega) h2 N
    have hr' : cnt (fun q => decide (p.1 ≤ q ∧ q ≤ p.2)) N = p.2 - p.1 + 1 := by
      rw [hr]; split
      · omega
      · split <;> omega
    have hd : cnt (fun q => decide (p.1 ≤ q ∧ q ≤ p.2) && l.any fun p => decide (p.1 ≤ q ∧ q ≤ p.2)) N = 0 := by
      refine cnt_none (fun q => ?_) N
      rw [Bool.eq_false_iff]
      intro h
      rw [Bool.and_eq_true, decide_eq_true_eq, List.any_eq_true] at h
      obtain ⟨hq, x, hx, hxq⟩ := h
      rw [decide_eq_true_eq] at hxq
      have := (norm_lo l (p.2 + 2) h4 x hx).1
      omega
    have hc : cnt (fun q => (p :: l).any fun p => decide (p.1 ≤ q ∧ q ≤ p.2)) N = cnt (fun q => decide (p.1 ≤ q ∧ q ≤ p.2) || l.any fun p => decide (p.1 ≤ q ∧ q ≤ p.2)) N := cnt_congr N (fun q _ _ => rfl)
    omega
theorem sumL_has {l : List R} (h : NormL l) : sumL l = cnt (hasB l) 1114112 := by
  rw [sumL_cnt 1114112 l 0 h (Int.le_refl _) (by omega)]
  refine cnt_congr 1114112 (fun q h0 h1 => ?_)
  unfold hasB
  rw [decide_eq_true (by omega), Bool.true_and]
end Go.Proofs.YtimgdooelbhjfaaGreatDoor.Rg
namespace Go.Proofs.YtimgdooelbhjfaaGreatDoor.Rg
set_option linter.unusedVariables false
theorem hasB_out {l : List R} {q : Int} (h : ¬ (0 ≤ q ∧ q ≤ 1114111)) : hasB l q = false := by unfold hasB; rw [decide_eq_false h, Bool.false_and]
theorem hasB_all {q : Int} (h : 0 ≤ q ∧ q ≤ 1114111) : hasB [(0, 1114111)] q = true := (hasB_iff _ _).2 ⟨h, (0, 1114111), by simp, h⟩
theorem opB_ff (op : Int) : opB op false false = false := by simp [opB]
theorem Made.at_ {op : Int} {a b out : List R} (h : Made op a b out) (q : Int) : hasB out q = opB op (hasB a q) (hasB b q) := by
  by_cases hq : 0 ≤ q ∧ q ≤ 1114111
  · exact h.has q hq.1 hq.2
  · rw [hasB_out hq, hasB_out hq, hasB_out hq, opB_ff]
theorem Made.or {a b out : List R} (h : Made 1 a b out) (q : Int) : hasB out q = (hasB a q || hasB b q) := by
  rw [h.at_]; cases hasB a q <;> cases hasB b q <;> rfl
theorem Made.and {a b out : List R} (h : Made 2 a b out) (q : Int) : hasB out q = (hasB a q && hasB b q) := by
  rw [h.at_]; cases hasB a q <;> cases hasB b q <;> rfl
theorem Made.sub {a b out : List R} (h : Made 3 a b out) (q : Int) : hasB out q = (hasB a q && !hasB b q) := by
  rw [h.at_]; cases hasB a q <;> cases hasB b q <;> rfl
theorem Made.lack {a out : List R} (h : Made 3 [(0, 1114111)] a out) (q : Int) (hq : 0 ≤ q ∧ q ≤ 1114111) : hasB out q = !hasB a q := by
  rw [h.sub, hasB_all hq]; rfl
theorem ListOf.eq {a out : List R} (h : ListOf a out) (q : Int) : hasB out q = hasB a q := by
  rw [Made.or h]; simp [hasB]
theorem norm_listOf {l : List R} (h : NormL l) : ListOf l l := ⟨h, fun q _ _ => by simp [opB, hasB]⟩
theorem listOf_norm {l out : List R} (h : NormL l) (k : ListOf l out) : out = l := made_unique k (norm_listOf h)
/-- The complement of a union is the complements' intersection. -/
theorem sets1 {a b u nu na nb x : List R} (hu : Made 1 a b u) (h1 : Made 3 [(0, 1114111)] u nu) (h2 : Made 3 [(0, 1114111)] a na) (h3 : Made 3 [(0, 1114111)] b nb) (h4 : Made 2 na nb x) : nu = x :=
  norm_ext h1.norm h4.norm (fun q h0 h5 => by
    rw [h1.lack q ⟨h0, h5⟩, h4.and, h2.lack q ⟨h0, h5⟩, h3.lack q ⟨h0, h5⟩, hu.or, Bool.not_or])
theorem sets2 {a na nna x : List R} (h2 : Made 3 [(0, 1114111)] a na) (h3 : Made 3 [(0, 1114111)] na nna) (h4 : ListOf a x) : nna = x :=
  norm_ext h3.norm h4.norm (fun q h0 h5 => by rw [h3.lack q ⟨h0, h5⟩, h2.lack q ⟨h0, h5⟩, h4.eq, Bool.not_not])
theorem sets3 {a b m v u x : List R} (h1 : Made 3 a b m) (h2 : Made 2 a b v) (h3 : Made 1 m v u) (h4 : ListOf a x) : u = x :=
  norm_ext h3.norm h4.norm (fun q h0 h5 => by rw [h3.or, h1.sub, h2.and, h4.eq]; cases hasB a q <;> cases hasB b q <;> rfl)
theorem counts {a b u v ca cb cu cv : List R} (hu : Made 1 a b u) (hv : Made 2 a b v) (h1 : ListOf u cu) (h2 : ListOf v cv) (h3 : ListOf a ca) (h4 : ListOf b cb) : sumL cu + sumL cv = sumL ca + sumL cb := by
  rw [sumL_has h1.norm, sumL_has h2.norm, sumL_has h3.norm, sumL_has h4.norm]
  rw [cnt_congr 1114112 (fun q _ _ => (h1.eq q).trans (hu.or q)), cnt_congr 1114112 (fun q _ _ => (h2.eq q).trans (hv.and q)), cnt_congr 1114112 (fun q _ _ => h3.eq q), cnt_congr 1114112 (fun q _ _ => h4.eq q)]
  exact cnt_both _ _ _
theorem counts2 {a na ca cn : List R} (hn : Made 3 [(0, 1114111)] a na) (h1 : ListOf a ca) (h2 : ListOf na cn) : sumL ca + sumL cn = 1114112 := by
  rw [sumL_has h1.norm, sumL_has h2.norm]
  rw [cnt_congr 1114112 (fun q _ _ => h1.eq q), cnt_congr 1114112 (fun q h0 h3 => (h2.eq q).trans (hn.lack q ⟨h0, by omega⟩))]
  exact cnt_not _ _
theorem sumL_bd {l : List R} (h : NormL l) : 0 ≤ sumL l ∧ sumL l ≤ 1114112 := by have := sumL_le l 0 h; omega
/-! ### Check, and what is normalized -/
def CkFrom : Option Int → List R → Prop
  | none, l => NormFrom 0 l
  | some h, l => NormFrom (h + 2) l
theorem check1_zero {prev : Option Int} {p : R} (hp : ∀ h, prev = some h → 0 ≤ h) (h : check1 prev p = 0) : (∀ h, prev = some h → h + 2 ≤ p.1) ∧ 0 ≤ p.1 ∧ p.1 ≤ p.2 ∧ p.2 ≤ 1114111 := by
  unfold check1 at h
  split at h
  · cases h
  · split at h
    · cases h
    · rename_i h1 h2
      refine ⟨fun x hx => ?_, by omega, by omega, by omega⟩
      have : ¬ p.1 - 1 ≤ x := fun hle => h2 (.inr ⟨x, hx, hle⟩)
      omega
theorem check1_ok {prev : Option Int} {p : R} (h : ∀ h, prev = some h → h + 2 ≤ p.1) (h0 : 0 ≤ p.1) (h1 : p.1 ≤ p.2) (h2 : p.2 ≤ 1114111) : check1 prev p = 0 := by
  unfold check1
  rw [if_neg (by omega), if_neg]
  rintro (h3 | ⟨x, hx, h3⟩)
  · omega
  · have := h x hx; omega
theorem ck_iff : ∀ (l : List R) (prev : Option Int), (∀ h, prev = some h → 0 ≤ h) → (checkF prev l = 0 ↔ CkFrom prev l)
  | [], none, _ => ⟨fun _ => trivial, fun _ => rfl⟩
  | [], some h, _ => ⟨fun _ => trivial, fun _ => rfl⟩
  | p :: l, prev, hp => by
    have ih := ck_iff l (some p.2)
    show (if check1 prev p = 0 then checkF (some p.2) l else check1 prev p) = 0 ↔ _
    by_cases h : check1 prev p = 0
    · rw [if_pos h]
      have hz := check1_zero hp h
      rw [ih (fun x hx => by injection hx with hx; omega)]
      cases prev with
      | none => exact ⟨fun k => ⟨hz.2.1, hz.2.2.1, hz.2.2.2, k⟩, fun k => k.2.2.2⟩
      | some x => exact ⟨fun k => ⟨hz.1 x rfl, hz.2.2.1, hz.2.2.2, k⟩, fun k => k.2.2.2⟩
    · rw [if_neg h]
      refine ⟨fun k => absurd k h, fun k => absurd (check1_ok ?_ ?_ ?_ ?_) h⟩
      · intro x hx; subst hx; exact k.1
      · cases prev with
        | none => exact k.1
        | some x => have := k.1; have := hp x rfl; omega
      · cases prev <;> exact k.2.1
      · cases prev <;> exact k.2.2.1
theorem check_norm (l : List R) : checkF none l = 0 ↔ NormL l := ck_iff l none (fun h hh => by cases hh)
end Go.Proofs.YtimgdooelbhjfaaGreatDoor.Rg
