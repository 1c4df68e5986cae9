/- Mathematics of TreeGroups: a row of groups. -/
import Derived.Test.YthhijakclinjaaaGp27
import Derived.Test.YthhijakclinjaaaGp12
namespace Go.Proofs.Ythhijakclinjaaa
open Go.RowKit
set_option linter.unusedVariables false
namespace Td
/-- A group around a letter. -/
def grpN (num : Int) (s : ByteArray) : Nd := .mk 6 [] num s 0 0 false [letN 97]
/-- The groups of names from a place on; the k-th number raised. -/
def grpsF (odd : Option Nat) : Nat → List ByteArray → List Nd
  | _, [] => []
  | i, s :: l => grpN (if odd = some i then (i : Int) + 6 else (i : Int) + 1) s :: grpsF odd (i + 1) l
def catG (L : List Nd) : Nd := .mk 7 [] 0 ⟨#[]⟩ 0 0 false L
def okS (s : ByteArray) : Bool := s.toList.isEmpty || nameB s
theorem grps_len (o : Option Nat) : ∀ (l : List ByteArray) (i : Nat), (grpsF o i l).length = l.length
  | [], i => rfl
  | s :: l, i => by rw [grpsF, List.length_cons, List.length_cons, grps_len o l (i + 1)]
theorem grps_at (o : Option Nat) : ∀ (l : List ByteArray) (i j : Nat) (h : j < l.length), (grpsF o i l)[j]? = some (grpN (if o = some (i + j) then ((i + j : Nat) : Int) + 6 else ((i + j : Nat) : Int) + 1) l[j])
  | [], i, j, h => by simp at h
  | s :: l, i, 0, h => by rw [grpsF]; rfl
  | s :: l, i, j + 1, h => by
    rw [grpsF, List.getElem?_cons_succ, grps_at o l (i + 1) j (by simpa using h)]
    rw [show i + 1 + j = i + (j + 1) from by omega]
    rfl
theorem grps_snoc (o : Option Nat) : ∀ (l : List ByteArray) (s : ByteArray) (i : Nat), grpsF o i (l ++ [s]) = grpsF o i l ++ [grpN (if o = some (i + l.length) then ((i + l.length : Nat) : Int) + 6 else ((i + l.length : Nat) : Int) + 1) s]
  | [], s, i => rfl
  | x :: l, s, i => by
    rw [List.cons_append, grpsF, grpsF, grps_snoc o l s (i + 1), List.length_cons, List.cons_append]
    rw [show i + 1 + l.length = i + (l.length + 1) from by omega]
theorem all_grp (k d : Nat) (n : Int) (s : ByteArray) : all (k + 2) d (grpN n s) = [(d, grpN n s), (d + 1, letN 97)] := by
  rw [all]
  show (d, grpN n s) :: [letN 97].flatMap (all (k + 1) (d + 1)) = _
  rw [List.flatMap_cons, List.flatMap_nil, List.append_nil, all]
  rfl
theorem all_catG (L : List Nd) : all 1000 1 (catG L) = (1, catG L) :: L.flatMap (all 999 2) := by rw [all]; rfl
theorem flat_grps (o : Option Nat) : ∀ (l : List ByteArray) (i : Nat), ((grpsF o i l).flatMap (all 999 2)).length = 2 * l.length
  | [], i => rfl
  | s :: l, i => by
    rw [grpsF, List.flatMap_cons, List.length_append, flat_grps o l (i + 1), all_grp 997 2]
    simp; omega
theorem groups_grps (o : Option Nat) : ∀ (l : List ByteArray) (i : Nat), groups ((grpsF o i l).flatMap (all 999 2)) = l
  | [], i => rfl
  | s :: l, i => by
    rw [grpsF, List.flatMap_cons, all_grp 997 2]
    have ih := groups_grps o l (i + 1)
    unfold groups at ih ⊢
    rw [List.filter_append, List.map_append, ih]
    rfl
theorem groups_catG (o : Option Nat) (l : List ByteArray) (i : Nat) : groups (all 1000 1 (catG (grpsF o i l))) = l := by
  rw [all_catG]
  have := groups_grps o l i
  unfold groups at this ⊢
  rw [List.filter_cons, if_neg (by show ¬ ((7 : Int) == 6) = true; decide), this]
theorem dep_grp (k : Nat) (n : Int) (s : ByteArray) : dep (k + 2) (grpN n s) = 2 := rfl
theorem dep_catG (o : Option Nat) (l : List ByteArray) (i : Nat) : dep 1001 (catG (grpsF o i l)) ≤ 3 := by
  rw [dep]
  have := foldl_max_le ((subs (catG (grpsF o i l))).map (dep 1000)) 0 2 (fun x hx => by
    obtain ⟨m, hm, rfl⟩ := List.mem_map.1 hx
    obtain ⟨j, hj, rfl⟩ := List.getElem_of_mem hm
    have hl : j < l.length := by have := grps_len o l i; simpa [catG, subs, this] using hj
    have := grps_at o l i j hl
    have e : (subs (catG (grpsF o i l)))[j]? = (grpsF o i l)[j]? := rfl
    rw [List.getElem?_eq_getElem hj] at e
    rw [this] at e
    rw [Option.some.inj e, dep_grp 998]
    exact Nat.le_refl _) (by omega)
  omega
theorem fits_grp (n : Int) (s : ByteArray) : fitsB (grpN n s) = (decide (1 ≤ n) && okS s) := by
  rw [told6 rfl]
  show ((decide (1 ≤ n) && ((s.toList.isEmpty || nameB s) && true)) && sameB 1000 (.mk 6 [] 0 ⟨#[]⟩ 0 0 false []) (zeroN 6)) = _
  rw [same_zero, isE0]
  unfold okS
  cases decide (1 ≤ n) <;> cases s.toList.isEmpty <;> cases nameB s <;> rfl
/-- A group that is met: what Check does. -/
theorem chk_grp (T : List ByteArray) (n : Int) (s : ByteArray) (d : Nat) (rest : List (Nat × Nd)) :
    chkF T (all 999 d (grpN n s) ++ rest) = if (decide (1 ≤ n) && okS s) = false then 60 else if n ≠ (T.length : Int) + 1 then 60 else if 31 < n then 2 else if hit T s = true then 6 else chkF (T ++ [s]) rest := by
  rw [all_grp 997 d, List.cons_append, chkF, fits_grp]
  show (if _ then _ else if (6 : Int) ≠ 6 then _ else _) = _
  rw [if_neg (show ¬ ((6 : Int) ≠ 6) from fun e => e rfl)]
  show (if _ then _ else if n ≠ _ then _ else if 31 < n then _ else if hit T s = true then _ else chkF (T ++ [s]) ((d + 1, letN 97) :: ([] ++ rest))) = _
  rw [chkF, fits_let 97 (by omega), if_neg (show ¬ (true = false) from by decide), if_pos (show kind ((d + 1, letN 97) : Nat × Nd).2 ≠ 6 from by show (3 : Int) ≠ 6; decide), List.nil_append]
/-- Is any name there twice, up to a place. -/
def twL (L : List ByteArray) : Nat → Bool
  | 0 => false
  | i + 1 => twL L i || hit (L.take i) (L.getD i ⟨#[]⟩)
theorem chk_zero : ∀ (l T : List ByteArray), chkF T ((grpsF none T.length l).flatMap (all 999 2)) = 0 ↔ ∀ j (h : j < l.length), okS l[j] = true ∧ T.length + j + 1 ≤ 31 ∧ hit (T ++ l.take j) l[j] = false
  | [], T => by simp [grpsF, chkF]
  | s :: l, T => by
    rw [grpsF, if_neg (by simp), List.flatMap_cons, chk_grp]
    have ih := chk_zero l (T ++ [s])
    rw [List.length_append] at ih
    have h1 : decide (1 ≤ (T.length : Int) + 1) = true := decide_eq_true (by omega)
    rw [h1, Bool.true_and]
    by_cases a : okS s = false
    · rw [if_pos a]
      constructor
      · intro e; cases e
      · intro e; have := (e 0 (by simp)).1; simp [a] at this
    rw [if_neg a, if_neg (fun e => e rfl)]
    by_cases b : 31 < (T.length : Int) + 1
    · rw [if_pos b]
      constructor
      · intro e; cases e
      · intro e; have := (e 0 (by simp)).2.1; omega
    rw [if_neg b]
    by_cases c : hit T s = true
    · rw [if_pos c]
      constructor
      · intro e; cases e
      · intro e; have := (e 0 (by simp)).2.2; simp [c] at this
    rw [if_neg c, show T.length + 1 = T.length + [s].length from rfl, ih]
    constructor
    · intro e j hj
      match j, hj with
      | 0, _ => exact ⟨by simpa using a, by omega, by simpa using c⟩
      | j + 1, hj =>
        have := e j (by simpa using hj)
        refine ⟨by simpa using this.1, by have := this.2.1; simp at this; omega, ?_⟩
        have h3 := this.2.2
        simpa [List.append_assoc] using h3
    · intro e j hj
      have := e (j + 1) (by simpa using hj)
      refine ⟨by simpa using this.1, by have := this.2.1; simp; omega, ?_⟩
      have h3 := this.2.2
      simpa [List.append_assoc] using h3
theorem twL_false (L : List ByteArray) : ∀ i, i ≤ L.length → (twL L i = false ↔ ∀ j (h : j < L.length), j < i → hit (L.take j) L[j] = false)
  | 0, _ => by simp [twL]
  | i + 1, h => by
    rw [twL, Bool.or_eq_false_iff, twL_false L i (by omega)]
    have e : L.getD i ⟨#[]⟩ = L[i] := by rw [List.getD, List.getElem?_eq_getElem (by omega)]; rfl
    rw [e]
    constructor
    · rintro ⟨a, b⟩ j hj hlt
      by_cases hji : j < i
      · exact a j hj hji
      · obtain rfl : j = i := by omega
        exact b
    · intro a
      exact ⟨fun j hj hlt => a j hj (by omega), a i (by omega) (by omega)⟩
/-- The groups are right just if their names are, no name is there twice, and there are not too many. -/
theorem check_grps (L : List ByteArray) (h2 : 2 ≤ L.length) : (checkN (catG (grpsF none 0 L)) == 0) = (L.all okS && !(twL L L.length) && decide (L.length ≤ 31)) := by
  have hfit : fitsB (catG (grpsF none 0 L)) = true := by
    rw [told7 (.inl rfl)]
    show (decide (2 ≤ ((grpsF none 0 L).length : Int)) && sameB 1000 (.mk 7 [] 0 ⟨#[]⟩ 0 0 false []) (zeroN 7)) = true
    rw [same_zero, isE0, grps_len, decide_eq_true (by omega)]; rfl
  have hc : checkN (catG (grpsF none 0 L)) = chkF [] ((grpsF none 0 L).flatMap (all 999 2)) := by
    unfold checkN
    rw [if_neg (by have := dep_catG none L 0; omega), all_catG, chkF, if_neg (by rw [hfit]; decide), if_pos (show kind (((1 : Nat), catG (grpsF none 0 L)) : Nat × Nd).2 ≠ 6 from by show (7 : Int) ≠ 6; decide)]
  have hz := chk_zero L []
  rw [List.length_nil, ← hc] at hz
  rw [Bool.eq_iff_iff]
  simp only [beq_iff_eq, Bool.and_eq_true, Bool.not_eq_true', decide_eq_true_eq, List.all_eq_true]
  rw [hz, twL_false L L.length (Nat.le_refl _)]
  constructor
  · intro e
    refine ⟨⟨fun s hs => ?_, fun j hj _ => by have := (e j hj).2.2; simpa using this⟩, ?_⟩
    · obtain ⟨j, hj, rfl⟩ := List.getElem_of_mem hs
      exact (e j hj).1
    · have := (e (L.length - 1) (by omega)).2.1
      omega
  · rintro ⟨⟨a, b⟩, c⟩ j hj
    exact ⟨a _ (List.getElem_mem hj), by omega, by have := b j hj hj; simpa using this⟩
theorem chk_odd (k : Nat) : ∀ (l T : List ByteArray), T.length ≤ k → k < T.length + l.length → chkF T ((grpsF (some k) T.length l).flatMap (all 999 2)) ≠ 0
  | [], T, h1, h2 => by simp at h2; omega
  | s :: l, T, h1, h2 => by
    rw [grpsF, List.flatMap_cons, chk_grp]
    by_cases hk : k = T.length
    · subst hk
      rw [show (if some T.length = some T.length then (T.length : Int) + 6 else (T.length : Int) + 1) = (T.length : Int) + 6 from if_pos rfl]
      by_cases a : (decide (1 ≤ (T.length : Int) + 6) && okS s) = false
      · rw [if_pos a]; intro e; cases e
      · rw [if_neg a, if_pos (by omega)]; intro e; cases e
    · rw [show (if some k = some T.length then (T.length : Int) + 6 else (T.length : Int) + 1) = (T.length : Int) + 1 from if_neg (by intro e; injection e with e; exact hk e)]
      have ih := chk_odd k l (T ++ [s]) (by simp; omega) (by simp at h2 ⊢; omega)
      rw [List.length_append] at ih
      by_cases a : (decide (1 ≤ (T.length : Int) + 1) && okS s) = false
      · rw [if_pos a]; intro e; cases e
      rw [if_neg a, if_neg (fun e => e rfl)]
      by_cases b : 31 < (T.length : Int) + 1
      · rw [if_pos b]; intro e; cases e
      rw [if_neg b]
      by_cases c : hit T s = true
      · rw [if_pos c]; intro e; cases e
      rw [if_neg c]
      exact ih
theorem check_odd (L : List ByteArray) (h2 : 2 ≤ L.length) (k : Nat) (hk : k < L.length) : checkN (catG (grpsF (some k) 0 L)) ≠ 0 := by
  have hfit : fitsB (catG (grpsF (some k) 0 L)) = true := by
    rw [told7 (.inl rfl)]
    show (decide (2 ≤ ((grpsF (some k) 0 L).length : Int)) && sameB 1000 (.mk 7 [] 0 ⟨#[]⟩ 0 0 false []) (zeroN 7)) = true
    rw [same_zero, isE0, grps_len, decide_eq_true (by omega)]; rfl
  have hc : checkN (catG (grpsF (some k) 0 L)) = chkF [] ((grpsF (some k) 0 L).flatMap (all 999 2)) := by
    unfold checkN
    rw [if_neg (by have := dep_catG (some k) L 0; omega), all_catG, chkF, if_neg (by rw [hfit]; decide), if_pos (show kind (((1 : Nat), catG (grpsF (some k) 0 L)) : Nat × Nd).2 ≠ 6 from by show (7 : Int) ≠ 6; decide)]
  rw [hc]
  exact chk_odd k L [] (by simp) (by simpa using hk)
theorem len_catG (o : Option Nat) (l : List ByteArray) (i : Nat) (h : l.length ≤ 40) : (all 1000 1 (catG (grpsF o i l))).length ≤ 1000000 := by
  rw [all_catG, List.length_cons, flat_grps]; omega
end Td
end Go.Proofs.Ythhijakclinjaaa
