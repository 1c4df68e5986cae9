/- The laws of sets, of normalized lists: plain mathematics over what is made. · The plain mathematics of the reference's fold (burinref03): inserting, rounds on lists, what is closed. -/
import Derived.Test.YtecclhmjmceheaaGreatDoorGp5
import Derived.Test.YtecclhmjmceheaaGreatDoorGp6
import Derived.Test.YtecclhmjmceheaaGreatDoorGp4
namespace Go.Proofs.YtecclhmjmceheaaGreatDoor.Rg
set_option linter.unusedVariables false
/-- How many of the first n numbers have F. -/
def cnt (F : Int → Bool) : Nat → Int
  | 0 => 0
  | n + 1 => cnt F n + cond (F n) 1 0
theorem cnt_congr {F G : Int → Bool} : ∀ n : Nat, (∀ q : Int, 0 ≤ q → q < n → F q = G q) → cnt F n = cnt G n
  | 0, _ => rfl
  | n + 1, h => by
    have ih := cnt_congr n (fun q h0 h1 => h q h0 (by omega))
    have e := h n (by omega) (by omega)
    simp only [cnt, ih, e]
theorem cnt_both (F G : Int → Bool) : ∀ n : Nat, cnt (fun q => F q || G q) n + cnt (fun q => F q && G q) n = cnt F n + cnt G n
  | 0 => rfl
  | n + 1 => by
    have ih := cnt_both F G n
    simp only [cnt]
    generalize F n = x
    generalize G n = y
    cases x <;> cases y <;> simp <;> omega
theorem cnt_not (F : Int → Bool) : ∀ n : Nat, cnt F n + cnt (fun q => !F q) n = n
  | 0 => rfl
  | n + 1 => by
    have ih := cnt_not F n
    simp only [cnt]
    generalize F n = x
    cases x <;> simp <;> omega
theorem cnt_none {F : Int → Bool} (h : ∀ q, F q = false) : ∀ n : Nat, cnt F n = 0
  | 0 => rfl
  | n + 1 => by simp only [cnt, cnt_none h n, h]; rfl
theorem cnt_range (x y : Int) (hx : 0 ≤ x) (hxy : x ≤ y) : ∀ n : Nat, cnt (fun q => decide (x ≤ q ∧ q ≤ y)) n = if (n : Int) ≤ x then 0 else if (n : Int) ≤ y + 1 then n - x else y - x + 1
  | 0 => by rw [if_pos (by omega)]; rfl
  | n + 1 => by
    have ih := cnt_range x y hx hxy n
    simp only [cnt, ih, Bool.cond_decide]
    push_cast
    repeat' split
    all_goals omega
theorem sumL_cnt (N : Nat) : ∀ (l : List R) (lo : Int), NormFrom lo l → 0 ≤ lo → (1114112 : Int) ≤ N → sumL l = cnt (fun q => l.any fun p => decide (p.1 ≤ q ∧ q ≤ p.2)) N
  | [], lo, _, _, _ => (cnt_none (fun q => rfl) N).symm
  | p :: l, lo, ⟨h1, h2, h3, h4⟩, h0, hN => by
    have ih := sumL_cnt N l (p.2 + 2) h4 (by omega) hN
    have e : sumL (p :: l) = p.2 - p.1 + 1 + sumL l := rfl
    have hb := cnt_both (fun q => decide (p.1 ≤ q ∧ q ≤ p.2)) (fun q => l.any fun p => decide (p.1 ≤ q ∧ q ≤ p.2)) N
    have hr := cnt_range p.1 p.2 (by omega) h2 N
    have hr' : cnt (fun q => decide (p.1 ≤ q ∧ q ≤ p.2)) N = p.2 - p.1 + 1 := by
      rw [hr]; split
      · omega
      · split <;> omega
    have hd : cnt (fun q => decide (p.1 ≤ q ∧ q ≤ p.2) && l.any fun p => decide (p.1 ≤ q ∧ q ≤ p.2)) N = 0 := by
      refine cnt_none (fun q => ?_) N
      rw [Bool.eq_false_iff]
      intro h
      rw [Bool.and_eq_true, decide_eq_true_eq, List.any_eq_true] at h
      obtain ⟨hq, x, hx, hxq⟩ := h
      rw [decide_eq_true_eq] at hxq
      have := (norm_lo l (p.2 + 2) h4 x hx).1
      omega
    have hc : cnt (fun q => (p :: l).any fun p => decide (p.1 ≤ q ∧ q ≤ p.2)) N = cnt (fun q => decide (p.1 ≤ q ∧ q ≤ p.2) || l.any fun p => decide (p.1 ≤ q ∧ q ≤ p.2)) N := cnt_congr N (fun q _ _ => rfl)
    omega
theorem sumL_has {l : List R} (h : NormL l) : sumL l = cnt (hasB l) 1114112 := by
  rw [sumL_cnt 1114112 l 0 h (Int.le_refl _) (by omega)]
  refine cnt_congr 1114112 (fun q h0 h1 => ?_)
  unfold hasB
  rw [decide_eq_true (by omega), Bool.true_and]
end Go.Proofs.YtecclhmjmceheaaGreatDoor.Rg
namespace Go.Proofs.YtecclhmjmceheaaGreatDoor.Rg
set_option linter.unusedVariables false
theorem hasB_out {l : List R} {q : Int} (h : ¬ (0 ≤ q ∧ q ≤ 1114111)) : hasB l q = false := by unfold hasB; rw [decide_eq_false h, Bool.false_and]
theorem hasB_all {q : Int} (h : 0 ≤ q ∧ q ≤ 1114111) : hasB [(0, 1114111)] q = true := (hasB_iff _ _).2 ⟨h, (0, 1114111), by simp, h⟩
theorem opB_ff (op : Int) : opB op false false = false := by simp [opB]
theorem Made.at_ {op : Int} {a b out : List R} (h : Made op a b out) (q : Int) : hasB out q = opB op (hasB a q) (hasB b q) := by
  by_cases hq : 0 ≤ q ∧ q ≤ 1114111
  · exact h.has q hq.1 hq.2
  · rw [hasB_out hq, hasB_out hq, hasB_out hq, opB_ff]
theorem Made.or {a b out : List R} (h : Made 1 a b out) (q : Int) : hasB out q = (hasB a q || hasB b q) := by
  rw [h.at_]; cases hasB a q <;> cases hasB b q <;> rfl
theorem Made.and {a b out : List R} (h : Made 2 a b out) (q : Int) : hasB out q = (hasB a q && hasB b q) := by
  rw [h.at_]; cases hasB a q <;> cases hasB b q <;> rfl
theorem Made.sub {a b out : List R} (h : Made 3 a b out) (q : Int) : hasB out q = (hasB a q && !hasB b q) := by
  rw [h.at_]; cases hasB a q <;> cases hasB b q <;> rfl
theorem Made.lack {a out : List R} (h : Made 3 [(0, 1114111)] a out) (q : Int) (hq : 0 ≤ q ∧ q ≤ 1114111) : hasB out q = !hasB a q := by
  rw [h.sub, hasB_all hq]; rfl
theorem ListOf.eq {a out : List R} (h : ListOf a out) (q : Int) : hasB out q = hasB a q := by
  rw [Made.or h]; simp [hasB]
theorem norm_listOf {l : List R} (h : NormL l) : ListOf l l := ⟨h, fun q _ _ => by simp [opB, hasB]⟩
theorem listOf_norm {l out : List R} (h : NormL l) (k : ListOf l out) : out = l := made_unique k (norm_listOf h)
/-- The complement of a union is the complements' intersection. -/
theorem sets1 {a b u nu na nb x : List R} (hu : Made 1 a b u) (h1 : Made 3 [(0, 1114111)] u nu) (h2 : Made 3 [(0, 1114111)] a na) (h3 : Made 3 [(0, 1114111)] b nb) (h4 : Made 2 na nb x) : nu = x :=
  norm_ext h1.norm h4.norm (fun q h0 h5 => by
    rw [h1.lack q ⟨h0, h5⟩, h4.and, h2.lack q ⟨h0, h5⟩, h3.lack q ⟨h0, h5⟩, hu.or, Bool.not_or])
theorem sets2 {a na nna x : List R} (h2 : Made 3 [(0, 1114111)] a na) (h3 : Made 3 [(0, 1114111)] na nna) (h4 : ListOf a x) : nna = x :=
  norm_ext h3.norm h4.norm (fun q h0 h5 => by rw [h3.lack q ⟨h0, h5⟩, h2.lack q ⟨h0, h5⟩, h4.eq, Bool.not_not])
theorem sets3 {a b m v u x : List R} (h1 : Made 3 a b m) (h2 : Made 2 a b v) (h3 : Made 1 m v u) (h4 : ListOf a x) : u = x :=
  norm_ext h3.norm h4.norm (fun q h0 h5 => by rw [h3.or, h1.sub, h2.and, h4.eq]; cases hasB a q <;> cases hasB b q <;> rfl)
theorem counts {a b u v ca cb cu cv : List R} (hu : Made 1 a b u) (hv : Made 2 a b v) (h1 : ListOf u cu) (h2 : ListOf v cv) (h3 : ListOf a ca) (h4 : ListOf b cb) : sumL cu + sumL cv = sumL ca + sumL cb := by
  rw [sumL_has h1.norm, sumL_has h2.norm, sumL_has h3.norm, sumL_has h4.norm]
  rw [cnt_congr 1114112 (fun q _ _ => (h1.eq q).trans (hu.or q)), cnt_congr 1114112 (fun q _ _ => (h2.eq q).trans (hv.and q)), cnt_congr 1114112 (fun q _ _ => h3.eq q), cnt_congr 1114112 (fun q _ _ => h4.eq q)]
  exact cnt_both _ _ _
theorem counts2 {a na ca cn : List R} (hn : Made 3 [(0, 1114111)] a na) (h1 : ListOf a ca) (h2 : ListOf na cn) : sumL ca + sumL cn = 1114112 := by
  rw [sumL_has h1.norm, sumL_has h2.norm]
  rw [cnt_congr 1114112 (fun q _ _ => h1.eq q), cnt_congr 1114112 (fun q h0 h3 => (h2.eq q).trans (hn.lack q ⟨h0, by omega⟩))]
  exact cnt_not _ _
theorem sumL_bd {l : List R} (h : NormL l) : 0 ≤ sumL l ∧ sumL l ≤ 1114112 := by have := sumL_le l 0 h; omega
/-! ### Check, and what is normalized -/
def CkFrom : Option Int → List R → Prop
  | none, l => NormFrom 0 l
  | some h, l => NormFrom (h + 2) l
theorem check1_zero {prev : Option Int} {p : R} (hp : ∀ h, prev = some h → 0 ≤ h) (h : check1 prev p = 0) : (∀ h, prev = some h → h + 2 ≤ p.1) ∧ 0 ≤ p.1 ∧ p.1 ≤ p.2 ∧ p.2 ≤ 1114111 := by
  unfold check1 at h
  split at h
  · cases h
  · split at h
    · cases h
    · rename_i h1 h2
      refine ⟨fun x hx => ?_, by omega, by omega, by omega⟩
      have : ¬ p.1 - 1 ≤ x := fun hle => h2 (.inr ⟨x, hx, hle⟩)
      omega
theorem check1_ok {prev : Option Int} {p : R} (h : ∀ h, prev = some h → h + 2 ≤ p.1) (h0 : 0 ≤ p.1) (h1 : p.1 ≤ p.2) (h2 : p.2 ≤ 1114111) : check1 prev p = 0 := by
  unfold check1
  rw [if_neg (by omega), if_neg]
  rintro (h3 | ⟨x, hx, h3⟩)
  · omega
  · have := h x hx; omega
theorem ck_iff : ∀ (l : List R) (prev : Option Int), (∀ h, prev = some h → 0 ≤ h) → (checkF prev l = 0 ↔ CkFrom prev l)
  | [], none, _ => ⟨fun _ => trivial, fun _ => rfl⟩
  | [], some h, _ => ⟨fun _ => trivial, fun _ => rfl⟩
  | p :: l, prev, hp => by
    have ih := ck_iff l (some p.2)
    show (if check1 prev p = 0 then checkF (some p.2) l else check1 prev p) = 0 ↔ _
    by_cases h : check1 prev p = 0
    · rw [if_pos h]
      have hz := check1_zero hp h
      rw [ih (fun x hx => by injection hx with hx; omega)]
      cases prev with
      | none => exact ⟨fun k => ⟨hz.2.1, hz.2.2.1, hz.2.2.2, k⟩, fun k => k.2.2.2⟩
      | some x => exact ⟨fun k => ⟨hz.1 x rfl, hz.2.2.1, hz.2.2.2, k⟩, fun k => k.2.2.2⟩
    · rw [if_neg h]
      refine ⟨fun k => absurd k h, fun k => absurd (check1_ok ?_ ?_ ?_ ?_) h⟩
      · intro x hx; subst hx; exact k.1
      · cases prev with
        | none => exact k.1
        | some x => have := k.1; have := hp x rfl; omega
      · cases prev <;> exact k.2.1
      · cases prev <;> exact k.2.2.1
theorem check_norm (l : List R) : checkF none l = 0 ↔ NormL l := ck_iff l none (fun h hh => by cases hh)
end Go.Proofs.YtecclhmjmceheaaGreatDoor.Rg
namespace Go.Proofs.YtecclhmjmceheaaGreatDoor.Fd
open Go.Proofs.YtecclhmjmceheaaGreatDoor.Rg
set_option linter.unusedVariables false
theorem spanL_len : ∀ (n : Nat) (lo up : Int), (spanL lo up n).length = n
  | 0, _, _ => rfl
  | n + 1, lo, up => by rw [spanL, List.length_cons, spanL_len n]
theorem spanL_snoc : ∀ (n : Nat) (lo up : Int), spanL lo up (n + 1) = spanL lo up n ++ [(lo + n, lo + n + up)]
  | 0, lo, up => by simp [spanL]
  | n + 1, lo, up => by
    rw [spanL, spanL_snoc n (lo + 1) up]
    rw [show spanL lo up (n + 1) = (lo, lo + up) :: spanL (lo + 1) up n from rfl]
    rw [List.cons_append]
    have : lo + 1 + (n : Int) = lo + ((n + 1 : Nat) : Int) := by omega
    rw [this]
theorem joinB_take_succ (l : List Int) (k : Nat) (r : Int) (hk : k < l.length) : joinB (l.take (k + 1)) r = (joinB (l.take k) r || decide (l[k]?.getD 0 = r)) := by
  rw [Bool.eq_iff_iff, Bool.or_eq_true, joinB_iff, joinB_iff, List.take_succ_eq_append_getElem hk, List.mem_append, List.getElem?_eq_getElem hk]
  simp only [List.mem_singleton, Option.getD_some, decide_eq_true_eq]
  exact ⟨fun h => h.imp id Eq.symm, fun h => h.imp id Eq.symm⟩
/-- Inserting: what is less stands ahead. -/
theorem insL_split : ∀ (l : List Int) (i : Nat) (r : Int), i ≤ l.length → (∀ j, j < i → l[j]?.getD 0 < r) → (i = l.length ∨ ¬ l[i]?.getD 0 < r) → insL l r = l.take i ++ [r] ++ l.drop i
  | [], i, r, h, _, _ => by
    obtain rfl : i = 0 := by simpa using h
    rfl
  | x :: l, 0, r, _, _, h => by
    rcases h with h | h
    · simp at h
    · simp at h
      rw [insL, if_neg (by omega)]; rfl
  | x :: l, i + 1, r, hi, ha, h => by
    have h0 := ha 0 (by omega)
    simp at h0
    rw [insL, if_pos h0, insL_split l i r (by simpa using hi) (fun j hj => by have := ha (j + 1) (by omega); simpa using this) (by rcases h with h | h; exact .inl (by simpa using h); exact .inr (by simpa using h))]
    rfl
theorem insL_len : ∀ (l : List Int) (r : Int), (insL l r).length = l.length + 1
  | [], r => rfl
  | x :: l, r => by rw [insL]; split <;> simp [insL_len l r]
theorem withL_len (l : List Int) (r : Int) : l.length ≤ (withL l r).length ∧ (withL l r).length ≤ l.length + 1 := by
  unfold withL; split
  · omega
  · rw [insL_len]; omega
theorem pstep_len (l : List Int) (p : Int × Int) : l.length ≤ (pstep l p).length ∧ (pstep l p).length ≤ l.length + 2 := by
  unfold pstep step2 step1
  have h := fun m r => withL_len m r
  split <;> split <;> (try have h1 := h l p.2) <;> (try have h2 := h (withL l p.2) p.1) <;> (try have h3 := h l p.1) <;> omega
theorem fold_take_succ {α β : Type} (f : β → α → β) (d : α) (l : List α) (k : Nat) (hk : k < l.length) (b : β) : (l.take (k + 1)).foldl f b = f ((l.take k).foldl f b) (l[k]?.getD d) := by
  rw [List.take_succ_eq_append_getElem hk, List.foldl_append, List.getElem?_eq_getElem hk]; rfl
theorem fold_len : ∀ (ps : List (Int × Int)) (l : List Int), l.length ≤ (ps.foldl pstep l).length ∧ (ps.foldl pstep l).length ≤ l.length + ps.length * 2
  | [], l => by simp
  | p :: ps, l => by
    have h1 := pstep_len l p
    have h2 := fold_len ps (pstep l p)
    rw [List.foldl_cons, List.length_cons]; omega
theorem pairs_len : pairsL.length = 137 := by rw [← pairsE_eq]; decide +kernel
theorem pairs_bd : ∀ p ∈ pairsL, 0 ≤ p.1 ∧ p.1 ≤ 10000 ∧ 0 ≤ p.2 ∧ p.2 ≤ 10000 := by
  rw [← pairsE_eq]; decide +kernel
theorem famI_len (r : Int) : ∀ j, 1 ≤ (famI r j).length ∧ (famI r j).length ≤ 1 + j * 274
  | 0 => ⟨Nat.le_refl _, Nat.le_refl _⟩
  | j + 1 => by
    have h1 := famI_len r j
    have h2 := fold_len pairsL (famI r j)
    rw [pairs_len] at h2
    show 1 ≤ (round1 (famI r j)).length ∧ (round1 (famI r j)).length ≤ _
    unfold round1; omega
/-- Of what was inserted nothing is lost; where no more is there, it is the same. -/
theorem pstep_same {l : List Int} {p : Int × Int} (h : (pstep l p).length = l.length) : pstep l p = l := by
  unfold pstep step2 step1 at h ⊢
  have hw : ∀ m r, (withL m r).length = m.length → withL m r = m := by
    intro m r hm
    unfold withL at hm ⊢
    split
    · rfl
    · rename_i hj; rw [if_neg hj, insL_len] at hm; omega
  by_cases h1 : joinB l p.1 = true
  · rw [if_pos h1] at h ⊢
    have a1 := withL_len l p.2
    by_cases h2 : joinB (withL l p.2) p.2 = true
    · rw [if_pos h2] at h ⊢
      have a2 := withL_len (withL l p.2) p.1
      have e1 := hw l p.2 (by omega)
      rw [e1] at h ⊢
      exact hw l p.1 h
    · rw [if_neg h2] at h ⊢
      exact hw l p.2 h
  · rw [if_neg h1] at h ⊢
    by_cases h2 : joinB l p.2 = true
    · rw [if_pos h2] at h ⊢
      exact hw l p.1 h
    · rw [if_neg h2]
theorem fold_same : ∀ (ps : List (Int × Int)) (l : List Int), (ps.foldl pstep l).length = l.length → ps.foldl pstep l = l
  | [], _, _ => rfl
  | p :: ps, l, h => by
    rw [List.foldl_cons] at h ⊢
    have h1 := pstep_len l p
    have h2 := fold_len ps (pstep l p)
    have e := pstep_same (l := l) (p := p) (by omega)
    rw [e] at h ⊢
    exact fold_same ps l h
theorem famI_stop (r : Int) (j : Nat) (h : (famI r (j + 1)).length = (famI r j).length) (hj : j ≤ 2) : famI r j = fam r := by
  have e : famI r (j + 1) = famI r j := fold_same pairsL (famI r j) h
  have up : ∀ k, famI r (j + k) = famI r j := by
    intro k
    induction k with
    | zero => rfl
    | succ k ih => show round1 (famI r (j + k)) = _; rw [ih]; exact e
  obtain ⟨k, hk⟩ : ∃ k, 2 = j + k := ⟨2 - j, by omega⟩
  unfold fam
  rw [hk, up k]
/-! ### Next -/
def nextL (l : List Int) (r : Int) : Int := (l.find? fun x => decide (r < x)).getD (l[0]?.getD 0)
theorem find_take_none (l : List Int) (k : Nat) (hk : k < l.length) (r : Int) (h : ((l.take k).find? fun x => decide (r < x)) = none) :
    (r < l[k]?.getD 0 → (l.find? fun x => decide (r < x)) = some (l[k]?.getD 0)) ∧ (¬ r < l[k]?.getD 0 → ((l.take (k + 1)).find? fun x => decide (r < x)) = none) := by
  have e := List.getElem?_eq_getElem hk
  constructor
  · intro hr
    rw [e] at hr ⊢
    simp only [Option.getD_some] at hr ⊢
    have hs : l.take k ++ (l[k] :: l.drop (k + 1)) = l := by rw [← List.drop_eq_getElem_cons hk, List.take_append_drop]
    have h2 := congrArg (List.find? fun x => decide (r < x)) hs
    rw [← h2, List.find?_append, h, List.find?_cons_of_pos (by simpa using hr)]
    rfl
  · intro hr
    rw [e] at hr
    simp only [Option.getD_some] at hr
    rw [List.take_succ_eq_append_getElem hk, List.find?_append, h]
    simp [hr]
/-! ### Close -/
theorem pair_all : pairsE.all (fun p => joinB (famF p.1) p.2) = true := by decide +kernel
theorem pair_in (p : Int × Int) (hp : p ∈ pairsL) : p.2 ∈ fam p.1 := by
  rw [← pairsE_eq] at hp
  have := List.all_eq_true.1 pair_all p hp
  rw [famF_eq] at this
  exact (joinB_iff _ _).1 this
def one (x : Int) : Int × Int := (x, x)
def moreOf (l : List R) (p : Int × Int) : List R := if (fam p.1).any (hasB l) then (fam p.1).map one else []
def moreL (l : List R) : List R := pairsL.flatMap (moreOf l)
/-- A number is in what is closed just if one of its family is in the set. -/
def clB (l : List R) (q : Int) : Bool := decide (0 ≤ q ∧ q ≤ 1114111) && (fam q).any (hasB l)
theorem has_more (l : List R) (q : Int) : hasB (moreL l) q = true ↔ (0 ≤ q ∧ q ≤ 1114111) ∧ ∃ p ∈ pairsL, (fam p.1).any (hasB l) = true ∧ q ∈ fam p.1 := by
  rw [hasB_iff]
  constructor
  · rintro ⟨hq, x, hx, h1, h2⟩
    obtain ⟨p, hp, hx⟩ := List.mem_flatMap.1 hx
    unfold moreOf at hx
    split at hx
    · rename_i hany
      obtain ⟨y, hy, rfl⟩ := List.mem_map.1 hx
      have h1' : y ≤ q := h1
      have h2' : q ≤ y := h2
      have e : q = y := by omega
      exact ⟨hq, p, hp, hany, by rw [e]; exact hy⟩
    · cases hx
  · rintro ⟨hq, p, hp, hany, hm⟩
    refine ⟨hq, one q, List.mem_flatMap.2 ⟨p, hp, ?_⟩, Int.le_refl _, Int.le_refl _⟩
    unfold moreOf
    rw [if_pos hany]
    exact List.mem_map.2 ⟨q, hm, rfl⟩
theorem close_at (l : List R) (q : Int) : (hasB l q || hasB (moreL l) q) = clB l q := by
  rw [Bool.eq_iff_iff, Bool.or_eq_true, has_more]
  unfold clB
  rw [Bool.and_eq_true, decide_eq_true_eq]
  constructor
  · rintro (h | ⟨hq, p, hp, hany, hm⟩)
    · exact ⟨((hasB_iff l q).1 h).1, List.any_eq_true.2 ⟨q, fam_self q, h⟩⟩
    · exact ⟨hq, by rw [fam_same hm]; exact hany⟩
  · rintro ⟨hq, hany⟩
    rcases fam_cases q with ⟨_, h1⟩ | ⟨hmem, hself, _⟩
    · rw [h1] at hany
      exact .inl (by simpa using hany)
    · obtain ⟨p, hp, he⟩ := List.mem_flatMap.1 hmem
      by_cases hl : hasB l q = true
      · exact .inl hl
      · refine .inr ⟨hq, p, hp, ?_, ?_⟩
        · have : fam p.1 = fam q := by
            rcases List.mem_cons.1 he with rfl | he
            · rfl
            · have e2 : q = p.2 := by simpa using he
              rw [e2]; exact (fam_same (pair_in p hp)).symm
          rw [this]; exact hany
        · rcases List.mem_cons.1 he with rfl | he
          · exact fam_self _
          · have e2 : q = p.2 := by simpa using he
            rw [e2]; exact pair_in p hp
end Go.Proofs.YtecclhmjmceheaaGreatDoor.Fd
