/- The plain mathematics of the reference's fold (burinref03): inserting, rounds on lists, what is closed. -/
import Derived.Test.YtimgdooelbhjfaaGreatDoorFoldMath
import Derived.Test.YtimgdooelbhjfaaGreatDoorRgSets
namespace Go.Proofs.YtimgdooelbhjfaaGreatDoor.Fd
open Go.Proofs.YtimgdooelbhjfaaGreatDoor.Rg
set_option linter.unusedVariables false
theorem spanL_len : ∀ (n : Nat) (lo up : Int), (spanL lo up n).length = n
  | 0, _, _ => rfl
  | n + 1, lo, up => by rw [spanL, List.length_cons, spanL_len n]
theorem spanL_snoc : ∀ (n : Nat) (lo up : Int), spanL lo up (n + 1) = spanL lo up n ++ [(lo + n, lo + n + up)]
  | 0, lo, up => by simp [spanL]
  | n + 1, lo, up => by
    rw [spanL, spanL_snoc n (lo + 1) up]
    rw [show spanL lo up (n + 1) = (lo, lo + up) :: spanL (lo + 1) up n from rfl]
    rw [List.cons_append]
    have : lo + 1 + (n : Int) = lo + ((n + 1 : Nat) : Int) := by omega
    rw [this]
theorem joinB_take_succ (l : List Int) (k : Nat) (r : Int) (hk : k < l.length) : joinB (l.take (k + 1)) r = (joinB (l.take k) r || decide (l[k]?.getD 0 = r)) := by
  rw [Bool.eq_iff_iff, Bool.or_eq_true, joinB_iff, joinB_iff, List.take_succ_eq_append_getElem hk, List.mem_append, List.getElem?_eq_getElem hk]
  simp only [List.mem_singleton, Option.getD_some, decide_eq_true_eq]
  exact ⟨fun h => h.imp id Eq.symm, fun h => h.imp id Eq.symm⟩
/-- Inserting: what is less stands ahead. -/
theorem insL_split : ∀ (l : List Int) (i : Nat) (r : Int), i ≤ l.length → (∀ j, j < i → l[j]?.getD 0 < r) → (i = l.length ∨ ¬ l[i]?.getD 0 < r) → insL l r = l.take i ++ [r] ++ l.drop i
  | [], i, r, h, _, _ => by
    obtain rfl : i = 0 := by simpa using h
    rfl
  | x :: l, 0, r, _, _, h => by
    rcases h with h | h
    · simp at h
    · simp at h
      rw [insL, if_neg (by omega)]; rfl
  | x :: l, i + 1, r, hi, ha, h => by
    have h0 := ha 0 (by omega)
    simp at h0
    rw [insL, if_pos h0, insL_split l i r (by simpa using hi) (fun j hj => by have := ha (j + 1) (by omega); simpa using this) (by rcases h with h | h; exact .inl (by simpa using h); exact .inr (by simpa using h))]
    rfl
theorem insL_len : ∀ (l : List Int) (r : Int), (insL l r).length = l.length + 1
  | [], r => rfl
  | x :: l, r => by rw [insL]; split <;> simp [insL_len l r]
theorem withL_len (l : List Int) (r : Int) : l.length ≤ (withL l r).length ∧ (withL l r).length ≤ l.length + 1 := by
  unfold withL; split
  · omega
  · rw [insL_len]; omega
theorem pstep_len (l : List Int) (p : Int × Int) : l.length ≤ (pstep l p).length ∧ (pstep l p).length ≤ l.length + 2 := by
  unfold pstep step2 step1
  have h := fun m r => withL_len m r
  split <;> split <;> (try have h1 := h l p.2) <;> (try have h2 := h (withL l p.2) p.1) <;> (try have h3 := h l p.1) <;> omega
theorem fold_take_succ {α β : Type} (f : β → α → β) (d : α) (l : List α) (k : Nat) (hk : k < l.length) (b : β) : (l.take (k + 1)).foldl f b = f ((l.take k).foldl f b) (l[k]?.getD d) := by
  rw [List.take_succ_eq_append_getElem hk, List.foldl_append, List.getElem?_eq_getElem hk]; rfl
theorem fold_len : ∀ (ps : List (Int × Int)) (l : List Int), l.length ≤ (ps.foldl pstep l).length ∧ (ps.foldl pstep l).length ≤ l.length + ps.length * 2
  | [], l => by simp
  | p :: ps, l => by
    have h1 := pstep_len l p
    have h2 := fold_len ps (pstep l p)
    rw [List.foldl_cons, List.length_cons]; omega
theorem pairs_len : pairsL.length = 137 := by rw [← pairsE_eq]; decide +kernel
theorem pairs_bd : ∀ p ∈ pairsL, 0 ≤ p.1 ∧ p.1 ≤ 10000 ∧ 0 ≤ p.2 ∧ p.2 ≤ 10000 := by
  rw [← pairsE_eq]; decide +kernel
theorem famI_len (r : Int) : ∀ j, 1 ≤ (famI r j).length ∧ (famI r j).length ≤ 1 + j * 274
  | 0 => ⟨Nat.le_refl _, Nat.le_refl _⟩
  | j + 1 => by
    have h1 := famI_len r j
    have h2 := fold_len pairsL (famI r j)
    rw [pairs_len] at h2
    show 1 ≤ (round1 (famI r j)).length ∧ (round1 (famI r j)).length ≤ _
    unfold round1; omega
/-- Of what was inserted nothing is lost; where no more is there, it is the same. -/
theorem pstep_same {l : List Int} {p : Int × Int} (h : (pstep l p).length = l.length) : pstep l p = l := by
  unfold pstep step2 step1 at h ⊢
  have hw : ∀ m r, (withL m r).length = m.length → withL m r = m := by
    intro m r hm
    unfold withL at hm ⊢
    split
    · rfl
    · rename_i hj; rw [if_neg hj, insL_len] at hm; omega
  by_cases h1 : joinB l p.1 = true
  · rw [if_pos h1] at h ⊢
    have a1 := withL_len l p.2
    by_cases h2 : joinB (withL l p.2) p.2 = true
    · rw [if_pos h2] at h ⊢
      have a2 := withL_len (withL l p.2) p.1
      have e1 := hw l p.2 (by omega)
      rw [e1] at h ⊢
      exact hw l p.1 h
    · rw [if_neg h2] at h ⊢
      exact hw l p.2 h
  · rw [if_neg h1] at h ⊢
    by_cases h2 : joinB l p.2 = true
    · rw [if_pos h2] at h ⊢
      exact hw l p.1 h
    · rw [if_neg h2]
theorem fold_same : ∀ (ps : List (Int × Int)) (l : List Int), (ps.foldl pstep l).length = l.length → ps.foldl pstep l = l
  | [], _, _ => rfl
  | p :: ps, l, h => by
    rw [List.foldl_cons] at h ⊢
    have h1 := pstep_len l p
    have h2 := fold_len ps (pstep l p)
    have e := pstep_same (l := l) (p := p) (by omega)
    rw [e] at h ⊢
    exact fold_same ps l h
theorem famI_stop (r : Int) (j : Nat) (h : (famI r (j + 1)).length = (famI r j).length) (hj : j ≤ 2) : famI r j = fam r := by
  have e : famI r (j + 1) = famI r j := fold_same pairsL (famI r j) h
  have up : ∀ k, famI r (j + k) = famI r j := by
    intro k
    induction k with
    | zero => rfl
    | succ k ih => show round1 (famI r (j + k)) = _; rw [ih]; exact e
  obtain ⟨k, hk⟩ : ∃ k, 2 = j + k := ⟨2 - j, by omega⟩
  unfold fam
  rw [hk, up k]
/-! ### Next -/
def nextL (l : List Int) (r : Int) : Int := (l.find? fun x => decide (r < x)).getD (l[0]?.getD 0)
theorem find_take_none (l : List Int) (k : Nat) (hk : k < l.length) (r : Int) (h : ((l.take k).find? fun x => decide (r < x)) = none) :
    (r < l[k]?.getD 0 → (l.find? fun x => decide (r < x)) = some (l[k]?.getD 0)) ∧ (¬ r < l[k]?.getD 0 → ((l.take (k + 1)).find? fun x => decide (r < x)) = none) := by
  have e := List.getElem?_eq_getElem hk
  constructor
  · intro hr
    rw [e] at hr ⊢
    simp only [Option.getD_some] at hr ⊢
    have hs : l.take k ++ (l[k] :: l.drop (k + 1)) = l := by rw [← List.drop_eq_getElem_cons hk, List.take_append_drop]
    have h2 := congrArg (List.find? fun x => decide (r < x)) hs
    rw [← h2, List.find?_append, h, List.find?_cons_of_pos (by simpa using hr)]
    rfl
  · intro hr
    rw [e] at hr
    simp only [Option.getD_some] at hr
    rw [List.take_succ_eq_append_getElem hk, List.find?_append, h]
    simp [hr]
/-! ### Close -/
theorem pair_all : pairsE.all (fun p => joinB (famF p.1) p.2) = true := by decide +kernel
theorem pair_in (p : Int × Int) (hp : p ∈ pairsL) : p.2 ∈ fam p.1 := by
  rw [← pairsE_eq] at hp
  have := List.all_eq_true.1 pair_all p hp
  rw [famF_eq] at this
  exact (joinB_iff _ _).1 this
def one (x : Int) : Int × Int := (x, x)
def moreOf (l : List R) (p : Int × Int) : List R := if (fam p.1).any (hasB l) then (fam p.1).map one else []
def moreL (l : List R) : List R := pairsL.flatMap (moreOf l)
/-- A number is in what is closed just if one of its family is in the set. -/
def clB (l : List R) (q : Int) : Bool := decide (0 ≤ q ∧ q ≤ 1114111) && (fam q).any (hasB l)
theorem has_more (l : List R) (q : Int) : hasB (moreL l) q = true ↔ (0 ≤ q ∧ q ≤ 1114111) ∧ ∃ p ∈ pairsL, (fam p.1).any (hasB l) = true ∧ q ∈ fam p.1 := by
  rw [hasB_iff]
  constructor
  · rintro ⟨hq, x, hx, h1, h2⟩
    obtain ⟨p, hp, hx⟩ := List.mem_flatMap.1 hx
    unfold moreOf at hx
    split at hx
    · rename_i hany
      obtain ⟨y, hy, rfl⟩ := List.mem_map.1 hx
      have h1' : y ≤ q := h1
      have h2' : q ≤ y := h2
      have e : q = y := by omega
      exact ⟨hq, p, hp, hany, by rw [e]; exact hy⟩
    · cases hx
  · rintro ⟨hq, p, hp, hany, hm⟩
    refine ⟨hq, one q, List.mem_flatMap.2 ⟨p, hp, ?_⟩, Int.le_refl _, Int.le_refl _⟩
    unfold moreOf
    rw [if_pos hany]
    exact List.mem_map.2 ⟨q, hm, rfl⟩
theorem close_at (l : List R) (q : Int) : (hasB l q || hasB (moreL l) q) = clB l q := by
  rw [Bool.eq_iff_iff, Bool.or_eq_true, has_more]
  unfold clB
  rw [Bool.and_eq_true, decide_eq_true_eq]
  constructor
  · rintro (h | ⟨hq, p, hp, hany, hm⟩)
    · exact ⟨((hasB_iff l q).1 h).1, List.any_eq_true.2 ⟨q, fam_self q, h⟩⟩
    · exact ⟨hq, by rw [fam_same hm]; exact hany⟩
  · rintro ⟨hq, hany⟩
    rcases fam_cases q with ⟨_, h1⟩ | ⟨hmem, hself, _⟩
    · rw [h1] at hany
      exact .inl (by simpa using hany)
    · obtain ⟨p, hp, he⟩ := List.mem_flatMap.1 hmem
      by_cases hl : hasB l q = true
      · exact .inl hl
      · refine .inr ⟨hq, p, hp, ?_, ?_⟩
        · have : fam p.1 = fam q := by
            rcases List.mem_cons.1 he with rfl | he
            · rfl
            · have e2 : q = p.2 := by simpa using he
              rw [e2]; exact (fam_same (pair_in p hp)).symm
          rw [this]; exact hany
        · rcases List.mem_cons.1 he with rfl | he
          · exact fam_self _
          · have e2 : q = p.2 := by simpa using he
            rw [e2]; exact pair_in p hp
end Go.Proofs.YtimgdooelbhjfaaGreatDoor.Fd
