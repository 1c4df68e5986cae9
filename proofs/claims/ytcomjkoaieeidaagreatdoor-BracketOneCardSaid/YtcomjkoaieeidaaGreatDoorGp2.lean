/- Mathematics of bracket: escapes of numbers and of sets. · The plain mathematics of lists of ranges: membership, edges, normalized lists and their uniqueness; no program. -/
import Derived.Test.YtcomjkoaieeidaaGreatDoorGp1
namespace Go.Proofs.YtcomjkoaieeidaaGreatDoor.Br
set_option linter.unusedVariables false
/-- What a hexadecimal digit says; -1: it is none. -/
def dig (c : Int) : Int := if 48 ≤ c ∧ c ≤ 57 then c - 48 else if 97 ≤ c ∧ c ≤ 102 then c - 87 else if 65 ≤ c ∧ c ≤ 70 then c - 55 else -1
/-- How many digits stand in front, at most so many. -/
def cnt : List Int → Nat → Nat
  | x :: l, m + 1 => if 0 ≤ dig x then cnt l m + 1 else 0
  | _, _ => 0
/-- The number that the first k make. -/
def val (l : List Int) (k : Nat) : Int := (l.take k).foldl (fun a x => a * 16 + dig x) 0
def letB (c : Int) : Bool := (decide (65 ≤ c) && decide (c ≤ 90)) || (decide (97 ≤ c) && decide (c ≤ 122))
def signB (c : Int) : Bool := decide (33 ≤ c) && decide (c ≤ 126) && !letB c && !(decide (48 ≤ c) && decide (c ≤ 57))
def plain (c : Int) : Int × Int × Int :=
  if c = 97 then (7, 2, 0) else if c = 116 then (9, 2, 0) else if c = 110 then (10, 2, 0) else if c = 118 then (11, 2, 0) else if c = 102 then (12, 2, 0) else if c = 114 then (13, 2, 0)
  else if signB c = true then (c, 2, 0) else (0, 0, 80)
def braced (l : List Int) : Int × Int × Int :=
  let n := cnt (l.drop 3) 6
  if 3 + n = l.length then (0, 0, 82) else if l[3 + n]?.getD 0 ≠ 125 ∨ n = 0 ∨ 1114111 < val (l.drop 3) n then (0, 0, 80) else (val (l.drop 3) n, n + 4, 0)
def two (l : List Int) : Int × Int × Int :=
  let n := cnt (l.drop 2) 2
  if n = 2 then (val (l.drop 2) 2, 4, 0) else if n + 2 = l.length then (0, 0, 82) else (0, 0, 80)
/-- An escape of a number: what it says, its length, and its code. -/
def num (l : List Int) : Int × Int × Int :=
  if l[0]?.getD 0 ≠ 92 then (0, 0, 3) else if l.length = 1 then (0, 0, 82) else if l[1]?.getD 0 ≠ 120 then plain (l[1]?.getD 0) else if l[2]?.getD 0 = 123 then braced l else two l
theorem dig_bd (c : Int) : -1 ≤ dig c ∧ dig c ≤ 15 := by unfold dig; split <;> (try split) <;> (try split) <;> omega
theorem cnt_le : ∀ (l : List Int) (m : Nat), cnt l m ≤ m ∧ cnt l m ≤ l.length
  | [], m => by cases m <;> simp [cnt]
  | x :: l, 0 => by simp [cnt]
  | x :: l, m + 1 => by
    have := cnt_le l m
    unfold cnt
    split <;> simp <;> omega
theorem cnt_yes : ∀ (l : List Int) (m k : Nat), k < cnt l m → 0 ≤ dig (l[k]?.getD 0)
  | [], m, k, h => by have := (cnt_le [] m).2; simp at this; omega
  | x :: l, 0, k, h => by simp [cnt] at h
  | x :: l, m + 1, k, h => by
    unfold cnt at h
    split at h
    · cases k with
      | zero => simpa
      | succ k => simpa using cnt_yes l m k (by omega)
    · omega
theorem cnt_no : ∀ (l : List Int) (m : Nat), cnt l m < m → cnt l m < l.length → dig (l[cnt l m]?.getD 0) < 0
  | [], m, h, h' => by simp at h'
  | x :: l, 0, h, h' => by omega
  | x :: l, m + 1, h, h' => by
    unfold cnt at h h' ⊢
    split
    · rename_i hx
      rw [if_pos hx] at h h'
      simpa using cnt_no l m (by omega) (by simpa using h')
    · rename_i hx
      simpa using hx
theorem val_succ (l : List Int) (k : Nat) (h : k < l.length) : val l (k + 1) = val l k * 16 + dig (l[k]?.getD 0) := by
  unfold val
  rw [List.take_succ_eq_append_getElem h, List.foldl_append, List.getElem?_eq_getElem h]
  rfl
theorem val_bd (l : List Int) (m : Nat) : ∀ k, k ≤ cnt l m → 0 ≤ val l k ∧ val l k < 16 ^ k
  | 0, _ => by simp [val]
  | k + 1, h => by
    have ih := val_bd l m k (by omega)
    have h1 := cnt_yes l m k (by omega)
    have h2 := (dig_bd (l[k]?.getD 0)).2
    rw [val_succ l k (by have := (cnt_le l m).2; omega)]
    have e : (16 : Int) ^ (k + 1) = 16 ^ k * 16 := by rw [Int.pow_succ]
    omega
/-- Where a count ends: it is all, or what follows is no digit. -/
theorem cnt_ends (l : List Int) (m k : Nat) (hk : k ≤ m) (hl : k ≤ l.length) (hy : ∀ j, j < k → 0 ≤ dig (l[j]?.getD 0)) (he : k = m ∨ k = l.length ∨ dig (l[k]?.getD 0) < 0) : cnt l m = k := by
  have h1 := cnt_le l m
  rcases Nat.lt_trichotomy (cnt l m) k with h | h | h
  · have := cnt_no l m (by omega) (by omega)
    have := hy _ h
    omega
  · exact h
  · rcases he with e | e | e
    · omega
    · omega
    · have := cnt_yes l m k h; omega
end Go.Proofs.YtcomjkoaieeidaaGreatDoor.Br
namespace Go.Proofs.YtcomjkoaieeidaaGreatDoor.Rg
abbrev R := Int × Int
def MAX : Int := 1114111
def hasB (l : List R) (r : Int) : Bool := decide (0 ≤ r ∧ r ≤ 1114111) && l.any fun p => decide (p.1 ≤ r ∧ r ≤ p.2)
theorem hasB_iff (l : List R) (r : Int) : hasB l r = true ↔ (0 ≤ r ∧ r ≤ 1114111) ∧ ∃ p ∈ l, p.1 ≤ r ∧ r ≤ p.2 := by
  unfold hasB
  simp only [Bool.and_eq_true, decide_eq_true_eq, List.any_eq_true]
/-- One step of 'edge': the range's beginning, then its end's successor. -/
def edge1 (at_ : Int) (next : Int) (p : R) : Int :=
  let n1 := if at_ < p.1 ∧ p.1 < next then p.1 else next
  if at_ ≤ p.2 ∧ p.2 < 1114111 ∧ p.2 + 1 < n1 then p.2 + 1 else n1
def edgeN (l : List R) (at_ : Int) : Int := l.foldl (edge1 at_) 1114112
theorem edge1_le (at_ next : Int) (p : R) : edge1 at_ next p ≤ next ∧ (at_ < next → at_ < edge1 at_ next p) := by
  simp only [edge1]
  split <;> split <;> omega
theorem edge1_const (at_ next : Int) (p : R) (q : Int) (h1 : at_ ≤ q) (h2 : q < edge1 at_ next p) (h3 : q ≤ 1114111) : (p.1 ≤ q ∧ q ≤ p.2) ↔ (p.1 ≤ at_ ∧ at_ ≤ p.2) := by
  simp only [edge1] at h2
  constructor
  · intro h
    split at h2 <;> split at h2 <;> omega
  · intro h
    split at h2 <;> split at h2 <;> omega
theorem fold_le (at_ : Int) : ∀ (l : List R) (n : Int), l.foldl (edge1 at_) n ≤ n ∧ (at_ < n → at_ < l.foldl (edge1 at_) n)
  | [], n => ⟨Int.le_refl _, fun h => h⟩
  | p :: l, n => by
    have h1 := edge1_le at_ n p
    have h2 := fold_le at_ l (edge1 at_ n p)
    exact ⟨Int.le_trans h2.1 h1.1, fun h => h2.2 (h1.2 h)⟩
theorem edgeN_bd (l : List R) (at_ : Int) (h : at_ ≤ 1114111) : at_ < edgeN l at_ ∧ edgeN l at_ ≤ 1114112 := by
  have := fold_le at_ l 1114112
  exact ⟨this.2 (by omega), this.1⟩
theorem fold_const (at_ : Int) (q : Int) (h1 : at_ ≤ q) (h3 : q ≤ 1114111) : ∀ (l : List R) (n : Int), q < l.foldl (edge1 at_) n → ∀ p ∈ l, (p.1 ≤ q ∧ q ≤ p.2) ↔ (p.1 ≤ at_ ∧ at_ ≤ p.2)
  | [], n, _, p, hp => by cases hp
  | p' :: l, n, h2, p, hp => by
    rcases List.mem_cons.1 hp with rfl | hp
    · exact edge1_const at_ n p q h1 (Int.lt_of_lt_of_le h2 (fold_le at_ l _).1) h3
    · exact fold_const at_ q h1 h3 l _ h2 p hp
theorem has_const (l : List R) (at_ q : Int) (h0 : 0 ≤ at_) (h1 : at_ ≤ q) (h2 : q < edgeN l at_) (h3 : q ≤ 1114111) : hasB l q = hasB l at_ := by
  rw [Bool.eq_iff_iff, hasB_iff, hasB_iff]
  have hc := fold_const at_ q h1 h3 l 1114112 h2
  constructor
  · rintro ⟨_, p, hp, h⟩
    exact ⟨⟨h0, by omega⟩, p, hp, (hc p hp).1 h⟩
  · rintro ⟨_, p, hp, h⟩
    exact ⟨⟨by omega, h3⟩, p, hp, (hc p hp).2 h⟩

/-! ### Normalized lists -/
/-- Normalized, all from lo on. -/
def NormFrom : Int → List R → Prop
  | _, [] => True
  | lo, p :: l => lo ≤ p.1 ∧ p.1 ≤ p.2 ∧ p.2 ≤ 1114111 ∧ NormFrom (p.2 + 2) l
def NormL (l : List R) : Prop := NormFrom 0 l
theorem norm_lo : ∀ (l : List R) (lo : Int), NormFrom lo l → ∀ p ∈ l, lo ≤ p.1 ∧ p.1 ≤ p.2 ∧ p.2 ≤ 1114111
  | [], _, _, p, hp => by cases hp
  | p' :: l, lo, h, p, hp => by
    rcases List.mem_cons.1 hp with rfl | hp
    · exact ⟨h.1, h.2.1, h.2.2.1⟩
    · have := norm_lo l _ h.2.2.2 p hp
      have h1 := h.1
      have h2 := h.2.1
      omega
def memL (l : List R) (q : Int) : Prop := ∃ p ∈ l, p.1 ≤ q ∧ q ≤ p.2
theorem memL_cons (p : R) (l : List R) (q : Int) : memL (p :: l) q ↔ (p.1 ≤ q ∧ q ≤ p.2) ∨ memL l q := by
  unfold memL; simp
theorem norm_mem_lo {l : List R} {lo q : Int} (h : NormFrom lo l) (hm : memL l q) : lo ≤ q ∧ q ≤ 1114111 := by
  obtain ⟨p, hp, h1, h2⟩ := hm
  have := norm_lo l lo h p hp
  omega
/-- A normalized list is the list of its set. -/
theorem norm_unique : ∀ (l m : List R) (lo : Int), NormFrom lo l → NormFrom lo m → (∀ q, memL l q ↔ memL m q) → l = m
  | [], [], _, _, _, _ => rfl
  | [], p :: m, lo, _, hm, h => by
    exfalso
    have := (h p.1).2 ((memL_cons p m p.1).2 (.inl ⟨Int.le_refl _, hm.2.1⟩))
    obtain ⟨x, hx, _⟩ := this
    cases hx
  | p :: l, [], lo, hl, _, h => by
    exfalso
    have := (h p.1).1 ((memL_cons p l p.1).2 (.inl ⟨Int.le_refl _, hl.2.1⟩))
    obtain ⟨x, hx, _⟩ := this
    cases hx
  | p :: l, p' :: m, lo, hl, hm, h => by
    have a1 := hl.2.1
    have a2 := hm.2.1
    have tail1 : ∀ q, memL l q → p.2 + 2 ≤ q := fun q hq => (norm_mem_lo hl.2.2.2 hq).1
    have tail2 : ∀ q, memL m q → p'.2 + 2 ≤ q := fun q hq => (norm_mem_lo hm.2.2.2 hq).1
    have e1 : p.1 = p'.1 := by
      have h1 := (h p.1).1 ((memL_cons p l p.1).2 (.inl ⟨Int.le_refl _, a1⟩))
      have h2 := (h p'.1).2 ((memL_cons p' m p'.1).2 (.inl ⟨Int.le_refl _, a2⟩))
      rw [memL_cons] at h1 h2
      have b1 : p'.1 ≤ p.1 := by
        rcases h1 with h1 | h1
        · exact h1.1
        · have := tail2 _ h1; omega
      have b2 : p.1 ≤ p'.1 := by
        rcases h2 with h2 | h2
        · exact h2.1
        · have := tail1 _ h2; omega
      omega
    have e2 : p.2 = p'.2 := by
      have key : ∀ (a b : R) (x y : List R), a.1 = b.1 → a.1 ≤ a.2 → b.1 ≤ b.2 → (∀ q, memL y q → b.2 + 2 ≤ q) → (∀ q, memL (a :: x) q → memL (b :: y) q) → a.2 ≤ b.2 := by
        intro a b x y e ha hb ty hh
        rcases Int.lt_or_le b.2 a.2 with hlt | hle
        · exfalso
          have := hh (b.2 + 1) ((memL_cons a x _).2 (.inl ⟨by omega, by omega⟩))
          rcases (memL_cons b y _).1 this with h1 | h1
          · omega
          · have := ty _ h1; omega
        · exact hle
      have k1 := key p p' l m e1 a1 a2 tail2 (fun q hq => (h q).1 hq)
      have k2 := key p' p m l e1.symm a2 a1 tail1 (fun q hq => (h q).2 hq)
      omega
    have e : p = p' := Prod.ext e1 e2
    subst e
    rw [norm_unique l m (p.2 + 2) hl.2.2.2 hm.2.2.2 (fun q => ?_)]
    constructor
    · intro hq
      have := (h q).1 ((memL_cons p l q).2 (.inr hq))
      rcases (memL_cons p m q).1 this with h1 | h1
      · have := tail1 _ hq; omega
      · exact h1
    · intro hq
      have := (h q).2 ((memL_cons p m q).2 (.inr hq))
      rcases (memL_cons p l q).1 this with h1 | h1
      · have := tail2 _ hq; omega
      · exact h1
theorem norm_has {l : List R} (h : NormL l) (q : Int) : hasB l q = true ↔ memL l q := by
  rw [hasB_iff]
  exact ⟨fun h => h.2, fun hm => ⟨norm_mem_lo h hm, hm⟩⟩
theorem norm_ext {l m : List R} (hl : NormL l) (hm : NormL m) (h : ∀ q, 0 ≤ q → q ≤ 1114111 → hasB l q = hasB m q) : l = m :=
  norm_unique l m 0 hl hm (fun q => by
    constructor
    · intro hq
      have b := norm_mem_lo hl hq
      exact (norm_has hm q).1 ((h q b.1 b.2) ▸ (norm_has hl q).2 hq)
    · intro hq
      have b := norm_mem_lo hm hq
      exact (norm_has hl q).1 ((h q b.1 b.2) ▸ (norm_has hm q).2 hq))
end Go.Proofs.YtcomjkoaieeidaaGreatDoor.Rg
/-! Making a normalized list from edge to edge. -/
namespace Go.Proofs.YtcomjkoaieeidaaGreatDoor.Rg
theorem norm_snoc : ∀ (l : List R) (lo x y : Int), NormFrom lo l → (∀ p ∈ l, p.2 + 2 ≤ x) → lo ≤ x → x ≤ y → y ≤ 1114111 → NormFrom lo (l ++ [(x, y)])
  | [], lo, x, y, _, _, h1, h2, h3 => ⟨h1, h2, h3, trivial⟩
  | p :: l, lo, x, y, h, hp, h1, h2, h3 =>
    ⟨h.1, h.2.1, h.2.2.1, norm_snoc l _ x y h.2.2.2 (fun q hq => hp q (by simp [hq])) (hp p (by simp)) h2 h3⟩
theorem norm_unsnoc : ∀ (l : List R) (lo : Int) (p : R), NormFrom lo (l ++ [p]) → NormFrom lo l ∧ (∀ q ∈ l, q.2 + 2 ≤ p.1) ∧ lo ≤ p.1 ∧ p.1 ≤ p.2 ∧ p.2 ≤ 1114111
  | [], lo, p, h => ⟨trivial, by simp, h.1, h.2.1, h.2.2.1⟩
  | x :: l, lo, p, h => by
    have ih := norm_unsnoc l (x.2 + 2) p h.2.2.2
    have a1 := h.1
    have a2 := h.2.1
    refine ⟨⟨h.1, h.2.1, h.2.2.1, ih.1⟩, fun q hq => ?_, by omega, ih.2.2.2⟩
    rcases List.mem_cons.1 hq with rfl | hq
    · exact ih.2.2.1
    · exact ih.2.1 q hq
theorem memL_snoc (l : List R) (p : R) (q : Int) : memL (l ++ [p]) q ↔ memL l q ∨ (p.1 ≤ q ∧ q ≤ p.2) := by
  unfold memL
  constructor
  · rintro ⟨x, hx, h⟩
    rcases List.mem_append.1 hx with hx | hx
    · exact .inl ⟨x, hx, h⟩
    · simp at hx; subst hx; exact .inr h
  · rintro (⟨x, hx, h⟩ | h)
    · exact ⟨x, List.mem_append.2 (.inl hx), h⟩
    · exact ⟨p, List.mem_append.2 (.inr (by simp)), h⟩
/-- What has been made as far as 'at': normalized, below it, and of just the numbers below it that are wanted. -/
structure MInv (F : Int → Bool) (at_ : Int) (out : List R) : Prop where
  norm : NormL out
  below : ∀ p ∈ out, p.2 < at_
  mem : ∀ q, 0 ≤ q → q < at_ → (memL out q ↔ F q = true)
theorem MInv.start (F : Int → Bool) : MInv F 0 [] := ⟨trivial, (fun p h => by cases h), (fun q h1 h2 => by omega)⟩
section
variable {F : Int → Bool} {at_ next : Int} {out : List R}
theorem MInv.skip (h : MInv F at_ out) (h1 : at_ < next) (hc : ∀ q, at_ ≤ q → q < next → F q = F at_) (hf : F at_ = false) : MInv F next out := by
  refine ⟨h.norm, fun p hp => by have := h.below p hp; omega, fun q h0 hq => ?_⟩
  by_cases e : q < at_
  · exact h.mem q h0 e
  · rw [hc q (by omega) hq, hf]
    constructor
    · rintro ⟨p, hp, _, h2⟩
      have := h.below p hp
      omega
    · intro h; cases h
theorem MInv.add (h : MInv F at_ out) (h0 : 0 ≤ at_) (h1 : at_ < next) (h2 : next ≤ 1114112) (hc : ∀ q, at_ ≤ q → q < next → F q = F at_) (hf : F at_ = true) (hl : ∀ p ∈ out, p.2 + 2 ≤ at_) : MInv F next (out ++ [(at_, next - 1)]) := by
  refine ⟨norm_snoc out 0 _ _ h.norm hl h0 (by omega) (by omega), fun p hp => ?_, fun q hq0 hq => ?_⟩
  · rcases List.mem_append.1 hp with hp | hp
    · have := h.below p hp; omega
    · simp at hp; subst hp; show next - 1 < next; omega
  · rw [memL_snoc]
    by_cases e : q < at_
    · rw [← h.mem q hq0 e]
      constructor
      · rintro (h | h)
        · exact h
        · have := h.1; simp at this; omega
      · exact .inl
    · rw [hc q (by omega) hq, hf]
      exact ⟨fun _ => rfl, fun _ => .inr ⟨by show at_ ≤ q; omega, by show q ≤ next - 1; omega⟩⟩
theorem MInv.join {ini : List R} {p : R} (h : MInv F at_ (ini ++ [p])) (h0 : 0 ≤ at_) (h1 : at_ < next) (h2 : next ≤ 1114112) (hc : ∀ q, at_ ≤ q → q < next → F q = F at_) (hf : F at_ = true) (hl : p.2 + 1 = at_) : MInv F next (ini ++ [(p.1, next - 1)]) := by
  obtain ⟨a1, a2, a3, a4, a5⟩ := norm_unsnoc ini 0 p h.norm
  refine ⟨norm_snoc ini 0 _ _ a1 a2 a3 (by omega) (by omega), fun x hx => ?_, fun q hq0 hq => ?_⟩
  · rcases List.mem_append.1 hx with hx | hx
    · have := h.below x (List.mem_append.2 (.inl hx)); omega
    · simp at hx; subst hx; show next - 1 < next; omega
  · rw [memL_snoc]
    by_cases e : q < at_
    · rw [← h.mem q hq0 e, memL_snoc]
      constructor
      · rintro (h | h)
        · exact .inl h
        · exact .inr ⟨h.1, by omega⟩
      · rintro (h | h)
        · exact .inl h
        · exact .inr ⟨h.1, by show q ≤ next - 1; omega⟩
    · rw [hc q (by omega) hq, hf]
      exact ⟨fun _ => rfl, fun _ => .inr ⟨by show p.1 ≤ q; omega, by show q ≤ next - 1; omega⟩⟩
theorem MInv.last {ini : List R} {p : R} (h : MInv F at_ (ini ++ [p])) (hl : p.2 + 1 ≠ at_) : ∀ x ∈ ini ++ [p], x.2 + 2 ≤ at_ := by
  obtain ⟨a1, a2, a3, a4, a5⟩ := norm_unsnoc ini 0 p h.norm
  have hb := h.below p (by simp)
  intro x hx
  rcases List.mem_append.1 hx with hx | hx
  · have := a2 x hx; omega
  · simp at hx; subst hx; omega
end
def opB (op : Int) (x y : Bool) : Bool := decide (op = 1) && (x || y) || decide (op = 2) && x && y || decide (op = 3) && x && !y
/-- The list of a set made of two. -/
structure Made (op : Int) (a b : List R) (out : List R) : Prop where
  norm : NormL out
  has : ∀ q, 0 ≤ q → q ≤ 1114111 → hasB out q = opB op (hasB a q) (hasB b q)
theorem made_of {op : Int} {a b out : List R} {at_ : Int} (h : MInv (fun q => opB op (hasB a q) (hasB b q)) at_ out) (ha : 1114111 < at_) : Made op a b out :=
  ⟨h.norm, fun q h0 h1 => by
    have := h.mem q h0 (by omega)
    rw [Bool.eq_iff_iff, norm_has h.norm q]
    exact this⟩
theorem made_unique {op : Int} {a b x y : List R} (h : Made op a b x) (k : Made op a b y) : x = y :=
  norm_ext h.norm k.norm (fun q h0 h1 => by rw [h.has q h0 h1, k.has q h0 h1])
end Go.Proofs.YtcomjkoaieeidaaGreatDoor.Rg
