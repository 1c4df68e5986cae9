/- The plain mathematics of lists of ranges: membership, edges, normalized lists and their uniqueness; no program. · The plain mathematics of the classes: lists of numbers, two and two; which class a letter or a name means; no program. -/
namespace Go.Proofs.YtecclhmjmceheaaGreatDoor.Rg
abbrev R := Int × Int
def MAX : Int := 1114111
def hasB (l : List R) (r : Int) : Bool := decide (0 ≤ r ∧ r ≤ 1114111) && l.any fun p => decide (p.1 ≤ r ∧ r ≤ p.2)
theorem hasB_iff (l : List R) (r : Int) : hasB l r = true ↔ (0 ≤ r ∧ r ≤ 1114111) ∧ ∃ p ∈ l, p.1 ≤ r ∧ r ≤ p.2 := by
  unfold hasB
  simp only [Bool.and_eq_true, decide_eq_true_eq, List.any_eq_true]
/-- One step of 'edge': the range's beginning, then its end's successor. -/
def edge1 (at_ : Int) (next : Int) (p : R) : Int :=
  let n1 := if at_ < p.1 ∧ p.1 < next then p.1 else next
  if at_ ≤ p.2 ∧ p.2 < 1114111 ∧ p.2 + 1 < n1 then p.2 + 1 else n1
def edgeN (l : List R) (at_ : Int) : Int := l.foldl (edge1 at_) 1114112
theorem edge1_le (at_ next : Int) (p : R) : edge1 at_ next p ≤ next ∧ (at_ < next → at_ < edge1 at_ next p) := by
  simp only [edge1]
  split <;> split <;> omega
theorem edge1_const (at_ next : Int) (p : R) (q : Int) (h1 : at_ ≤ q) (h2 : q < edge1 at_ next p) (h3 : q ≤ 1114111) : (p.1 ≤ q ∧ q ≤ p.2) ↔ (p.1 ≤ at_ ∧ at_ ≤ p.2) := by
  simp only [edge1] at h2
  constructor
  · intro h
    split at h2 <;> split at h2 <;> omega
  · intro h
    split at h2 <;> split at h2 <;> omega
theorem fold_le (at_ : Int) : ∀ (l : List R) (n : Int), l.foldl (edge1 at_) n ≤ n ∧ (at_ < n → at_ < l.foldl (edge1 at_) n)
  | [], n => ⟨Int.le_refl _, fun h => h⟩
  | p :: l, n => by
    have h1 := edge1_le at_ n p
    have h2 := fold_le at_ l (edge1 at_ n p)
    exact ⟨Int.le_trans h2.1 h1.1, fun h => h2.2 (h1.2 h)⟩
theorem edgeN_bd (l : List R) (at_ : Int) (h : at_ ≤ 1114111) : at_ < edgeN l at_ ∧ edgeN l at_ ≤ 1114112 := by
  have := fold_le at_ l 1114112
  exact ⟨this.2 (by omega), this.1⟩
theorem fold_const (at_ : Int) (q : Int) (h1 : at_ ≤ q) (h3 : q ≤ 1114111) : ∀ (l : List R) (n : Int), q < l.foldl (edge1 at_) n → ∀ p ∈ l, (p.1 ≤ q ∧ q ≤ p.2) ↔ (p.1 ≤ at_ ∧ at_ ≤ p.2)
  | [], n, _, p, hp => by cases hp
  | p' :: l, n, h2, p, hp => by
    rcases List.mem_cons.1 hp with rfl | hp
    · exact edge1_const at_ n p q h1 (Int.lt_of_lt_of_le h2 (fold_le at_ l _).1) h3
    · exact fold_const at_ q h1 h3 l _ h2 p hp
theorem has_const (l : List R) (at_ q : Int) (h0 : 0 ≤ at_) (h1 : at_ ≤ q) (h2 : q < edgeN l at_) (h3 : q ≤ 1114111) : hasB l q = hasB l at_ := by
  rw [Bool.eq_iff_iff, hasB_iff, hasB_iff]
  have hc := fold_const at_ q h1 h3 l 1114112 h2
  constructor
  · rintro ⟨_, p, hp, h⟩
    exact ⟨⟨h0, by omega⟩, p, hp, (hc p hp).1 h⟩
  · rintro ⟨_, p, hp, h⟩
    exact ⟨⟨by omega, h3⟩, p, hp, (hc p hp).2 h⟩

/-! ### Normalized lists -/
/-- Normalized, all from lo on. -/
def NormFrom : Int → List R → Prop
  | _, [] => True
  | lo, p :: l => lo ≤ p.1 ∧ p.1 ≤ p.2 ∧ p.2 ≤ 1114111 ∧ NormFrom (p.2 + 2) l
def NormL (l : List R) : Prop := NormFrom 0 l
theorem norm_lo : ∀ (l : List R) (lo : Int), NormFrom lo l → ∀ p ∈ l, lo ≤ p.1 ∧ p.1 ≤ p.2 ∧ p.2 ≤ 1114111
  | [], _, _, p, hp => by cases hp
  | p' :: l, lo, h, p, hp => by
    rcases List.mem_cons.1 hp with rfl | hp
    · exact ⟨h.1, h.2.1, h.2.2.1⟩
    · have := norm_lo l _ h.2.2.2 p hp
      have h1 := h.1
      have h2 := h.2.1
      omega
def memL (l : List R) (q : Int) : Prop := ∃ p ∈ l, p.1 ≤ q ∧ q ≤ p.2
theorem memL_cons (p : R) (l : List R) (q : Int) : memL (p :: l) q ↔ (p.1 ≤ q ∧ q ≤ p.2) ∨ memL l q := by
  unfold memL; simp
theorem norm_mem_lo {l : List R} {lo q : Int} (h : NormFrom lo l) (hm : memL l q) : lo ≤ q ∧ q ≤ 1114111 := by
  obtain ⟨p, hp, h1, h2⟩ := hm
  have := norm_lo l lo h p hp
  omega
/-- A normalized list is the list of its set. -/
theorem norm_unique : ∀ (l m : List R) (lo : Int), NormFrom lo l → NormFrom lo m → (∀ q, memL l q ↔ memL m q) → l = m
  | [], [], _, _, _, _ => rfl
  | [], p :: m, lo, _, hm, h => by
    exfalso
    have := (h p.1).2 ((memL_cons p m p.1).2 (.inl ⟨Int.le_refl _, hm.2.1⟩))
    obtain ⟨x, hx, _⟩ := this
    cases hx
  | p :: l, [], lo, hl, _, h => by
    exfalso
    have := (h p.1).1 ((memL_cons p l p.1).2 (.inl ⟨Int.le_refl _, hl.2.1⟩))
    obtain ⟨x, hx, _⟩ := this
    cases hx
  | p :: l, p' :: m, lo, hl, hm, h => by
    have a1 := hl.2.1
    have a2 := hm.2.1
    have tail1 : ∀ q, memL l q → p.2 + 2 ≤ q := fun q hq => (norm_mem_lo hl.2.2.2 hq).1
    have tail2 : ∀ q, memL m q → p'.2 + 2 ≤ q := fun q hq => (norm_mem_lo hm.2.2.2 hq).1
    have e1 : p.1 = p'.1 := by
      have h1 := (h p.1).1 ((memL_cons p l p.1).2 (.inl ⟨Int.le_refl _, a1⟩))
      have h2 := (h p'.1).2 ((memL_cons p' m p'.1).2 (.inl ⟨Int.le_refl _, a2⟩))
      rw [memL_cons] at h1 h2
      have b1 : p'.1 ≤ p.1 := by
        rcases h1 with h1 | h1
        · exact h1.1
        · have := tail2 _ h1; omega
      have b2 : p.1 ≤ p'.1 := by
        rcases h2 with h2 | h2
        · exact h2.1
        · have := tail1 _ h2; omega
      omega
    have e2 : p.2 = p'.2 := by
      have key : ∀ (a b : R) (x y : List R), a.1 = b.1 → a.1 ≤ a.2 → b.1 ≤ b.2 → (∀ q, memL y q → b.2 + 2 ≤ q) → (∀ q, memL (a :: x) q → memL (b :: y) q) → a.2 ≤ b.2 := by
        intro a b x y e ha hb ty hh
        rcases Int.lt_or_le b.2 a.2 with hlt | hle
        · exfalso
          have := hh (b.2 + 1) ((memL_cons a x _).2 (.inl ⟨by omega, by omega⟩))
          rcases (memL_cons b y _).1 this with h1 | h1
          · omega
          · have := ty _ h1; omega
        · exact hle
      have k1 := key p p' l m e1 a1 a2 tail2 (fun q hq => (h q).1 hq)
      have k2 := key p' p m l e1.symm a2 a1 tail1 (fun q hq => (h q).2 hq)
      omega
    have e : p = p' := Prod.ext e1 e2
    subst e
    rw [norm_unique l m (p.2 + 2) hl.2.2.2 hm.2.2.2 (fun q => ?_)]
    constructor
    · intro hq
      have := (h q).1 ((memL_cons p l q).2 (.inr hq))
      rcases (memL_cons p m q).1 this with h1 | h1
      · have := tail1 _ hq; omega
      · exact h1
    · intro hq
      have := (h q).2 ((memL_cons p m q).2 (.inr hq))
      rcases (memL_cons p l q).1 this with h1 | h1
      · have := tail2 _ hq; omega
      · exact h1
theorem norm_has {l : List R} (h : NormL l) (q : Int) : hasB l q = true ↔ memL l q := by
  rw [hasB_iff]
  exact ⟨fun h => h.2, fun hm => ⟨norm_mem_lo h hm, hm⟩⟩
theorem norm_ext {l m : List R} (hl : NormL l) (hm : NormL m) (h : ∀ q, 0 ≤ q → q ≤ 1114111 → hasB l q = hasB m q) : l = m :=
  norm_unique l m 0 hl hm (fun q => by
    constructor
    · intro hq
      have b := norm_mem_lo hl hq
      exact (norm_has hm q).1 ((h q b.1 b.2) ▸ (norm_has hl q).2 hq)
    · intro hq
      have b := norm_mem_lo hm hq
      exact (norm_has hl q).1 ((h q b.1 b.2) ▸ (norm_has hm q).2 hq))
end Go.Proofs.YtecclhmjmceheaaGreatDoor.Rg
/-! Making a normalized list from edge to edge. -/
namespace Go.Proofs.YtecclhmjmceheaaGreatDoor.Rg
theorem norm_snoc : ∀ (l : List R) (lo x y : Int), NormFrom lo l → (∀ p ∈ l, p.2 + 2 ≤ x) → lo ≤ x → x ≤ y → y ≤ 1114111 → NormFrom lo (l ++ [(x, y)])
  | [], lo, x, y, _, _, h1, h2, h3 => ⟨h1, h2, h3, trivial⟩
  | p :: l, lo, x, y, h, hp, h1, h2, h3 =>
    ⟨h.1, h.2.1, h.2.2.1, norm_snoc l _ x y h.2.2.2 (fun q hq => hp q (by simp [hq])) (hp p (by simp)) h2 h3⟩
theorem norm_unsnoc : ∀ (l : List R) (lo : Int) (p : R), NormFrom lo (l ++ [p]) → NormFrom lo l ∧ (∀ q ∈ l, q.2 + 2 ≤ p.1) ∧ lo ≤ p.1 ∧ p.1 ≤ p.2 ∧ p.2 ≤ 1114111
  | [], lo, p, h => ⟨trivial, by simp, h.1, h.2.1, h.2.2.1⟩
  | x :: l, lo, p, h => by
    have ih := norm_unsnoc l (x.2 + 2) p h.2.2.2
    have a1 := h.1
    have a2 := h.2.1
    refine ⟨⟨h.1, h.2.1, h.2.2.1, ih.1⟩, fun q hq => ?_, by omega, ih.2.2.2⟩
    rcases List.mem_cons.1 hq with rfl | hq
    · exact ih.2.2.1
    · exact ih.2.1 q hq
theorem memL_snoc (l : List R) (p : R) (q : Int) : memL (l ++ [p]) q ↔ memL l q ∨ (p.1 ≤ q ∧ q ≤ p.2) := by
  unfold memL
  constructor
  · rintro ⟨x, hx, h⟩
    rcases List.mem_append.1 hx with hx | hx
    · exact .inl ⟨x, hx, h⟩
    · simp at hx; subst hx; exact .inr h
  · rintro (⟨x, hx, h⟩ | h)
    · exact ⟨x, List.mem_append.2 (.inl hx), h⟩
    · exact ⟨p, List.mem_append.2 (.inr (by simp)), h⟩
/-- What has been made as far as 'at': normalized, below it, and of just the numbers below it that are wanted. -/
structure MInv (F : Int → Bool) (at_ : Int) (out : List R) : Prop where
  norm : NormL out
  below : ∀ p ∈ out, p.2 < at_
  mem : ∀ q, 0 ≤ q → q < at_ → (memL out q ↔ F q = true)
theorem MInv.start (F : Int → Bool) : MInv F 0 [] := ⟨trivial, (fun p h => by cases h), (fun q h1 h2 => by omega)⟩
section
variable {F : Int → Bool} {at_ next : Int} {out : List R}
theorem MInv.skip (h : MInv F at_ out) (h1 : at_ < next) (hc : ∀ q, at_ ≤ q → q < next → F q = F at_) (hf : F at_ = false) : MInv F next out := by
  refine ⟨h.norm, fun p hp => by have := h.below p hp; omega, fun q h0 hq => ?_⟩
  by_cases e : q < at_
  · exact h.mem q h0 e
  · rw [hc q (by omega) hq, hf]
    constructor
    · rintro ⟨p, hp, _, h2⟩
      have := h.below p hp
      omega
    · intro h; cases h
theorem MInv.add (h : MInv F at_ out) (h0 : 0 ≤ at_) (h1 : at_ < next) (h2 : next ≤ 1114112) (hc : ∀ q, at_ ≤ q → q < next → F q = F at_) (hf : F at_ = true) (hl : ∀ p ∈ out, p.2 + 2 ≤ at_) : MInv F next (out ++ [(at_, next - 1)]) := by
  refine ⟨norm_snoc out 0 _ _ h.norm hl h0 (by omega) (by omega), fun p hp => ?_, fun q hq0 hq => ?_⟩
  · rcases List.mem_append.1 hp with hp | hp
    · have := h.below p hp; omega
    · simp at hp; subst hp; show next - 1 < next; omega
  · rw [memL_snoc]
    by_cases e : q < at_
    · rw [← h.mem q hq0 e]
      constructor
      · rintro (h | h)
        · exact h
        · have := h.1; simp at this; omega
      · exact .inl
    · rw [hc q (by omega) hq, hf]
      exact ⟨fun _ => rfl, fun _ => .inr ⟨by show at_ ≤ q; omega, by show q ≤ next - 1; omega⟩⟩
theorem MInv.join {ini : List R} {p : R} (h : MInv F at_ (ini ++ [p])) (h0 : 0 ≤ at_) (h1 : at_ < next) (h2 : next ≤ 1114112) (hc : ∀ q, at_ ≤ q → q < next → F q = F at_) (hf : F at_ = true) (hl : p.2 + 1 = at_) : MInv F next (ini ++ [(p.1, next - 1)]) := by
  obtain ⟨a1, a2, a3, a4, a5⟩ := norm_unsnoc ini 0 p h.norm
  refine ⟨norm_snoc ini 0 _ _ a1 a2 a3 (by omega) (by omega), fun x hx => ?_, fun q hq0 hq => ?_⟩
  · rcases List.mem_append.1 hx with hx | hx
    · have := h.below x (List.mem_append.2 (.inl hx)); omega
    · simp at hx; subst hx; show next - 1 < next; omega
  · rw [memL_snoc]
    by_cases e : q < at_
    · rw [← h.mem q hq0 e, memL_snoc]
      constructor
      · rintro (h | h)
        · exact .inl h
        · exact .inr ⟨h.1, by omega⟩
      · rintro (h | h)
        · exact .inl h
        · exact .inr ⟨h.1, by show q ≤ next - 1; omega⟩
    · rw [hc q (by omega) hq, hf]
      exact ⟨fun _ => rfl, fun _ => .inr ⟨by show p.1 ≤ q; omega, by show q ≤ next - 1; omega⟩⟩
theorem MInv.last {ini : List R} {p : R} (h : MInv F at_ (ini ++ [p])) (hl : p.2 + 1 ≠ at_) : ∀ x ∈ ini ++ [p], x.2 + 2 ≤ at_ := by
  obtain ⟨a1, a2, a3, a4, a5⟩ := norm_unsnoc ini 0 p h.norm
  have hb := h.below p (by simp)
  intro x hx
  rcases List.mem_append.1 hx with hx | hx
  · have := a2 x hx; omega
  · simp at hx; subst hx; omega
end
def opB (op : Int) (x y : Bool) : Bool := decide (op = 1) && (x || y) || decide (op = 2) && x && y || decide (op = 3) && x && !y
/-- The list of a set made of two. -/
structure Made (op : Int) (a b : List R) (out : List R) : Prop where
  norm : NormL out
  has : ∀ q, 0 ≤ q → q ≤ 1114111 → hasB out q = opB op (hasB a q) (hasB b q)
theorem made_of {op : Int} {a b out : List R} {at_ : Int} (h : MInv (fun q => opB op (hasB a q) (hasB b q)) at_ out) (ha : 1114111 < at_) : Made op a b out :=
  ⟨h.norm, fun q h0 h1 => by
    have := h.mem q h0 (by omega)
    rw [Bool.eq_iff_iff, norm_has h.norm q]
    exact this⟩
theorem made_unique {op : Int} {a b x y : List R} (h : Made op a b x) (k : Made op a b y) : x = y :=
  norm_ext h.norm k.norm (fun q h0 h1 => by rw [h.has q h0 h1, k.has q h0 h1])
end Go.Proofs.YtecclhmjmceheaaGreatDoor.Rg
namespace Go.Proofs.YtecclhmjmceheaaGreatDoor.Cl
open Go.Proofs.YtecclhmjmceheaaGreatDoor.Rg
set_option linter.unusedVariables false
/-- Numbers, two and two. -/
def pairsOf : List Int → List R
  | a :: b :: t => (a, b) :: pairsOf t
  | _ => []
theorem pairsOf_len : ∀ T : List Int, (pairsOf T).length = T.length / 2
  | [] => rfl
  | [_] => by simp [pairsOf]
  | a :: b :: t => by
    rw [show pairsOf (a :: b :: t) = (a, b) :: pairsOf t from rfl, List.length_cons, pairsOf_len t]
    simp; omega
theorem pairsOf_take : ∀ (T : List Int) (k : Nat), k * 2 + 1 < T.length → pairsOf (T.take (k * 2 + 2)) = pairsOf (T.take (k * 2)) ++ [(T[k * 2]?.getD 0, T[k * 2 + 1]?.getD 0)]
  | [], k, h => by simp at h
  | [_], k, h => by simp at h
  | a :: b :: t, 0, h => by simp [pairsOf]
  | a :: b :: t, k + 1, h => by
    have ih := pairsOf_take t k (by simp at h; omega)
    have e1 : (k + 1) * 2 = k * 2 + 2 := by omega
    rw [e1]
    show pairsOf (a :: b :: t.take (k * 2 + 2)) = pairsOf (a :: b :: t.take (k * 2)) ++ _
    rw [show pairsOf (a :: b :: t.take (k * 2 + 2)) = (a, b) :: pairsOf (t.take (k * 2 + 2)) from rfl, show pairsOf (a :: b :: t.take (k * 2)) = (a, b) :: pairsOf (t.take (k * 2)) from rfl, ih]
    simp
theorem pairsOf_mem : ∀ (T : List Int) (p : R), p ∈ pairsOf T → p.1 ∈ T ∧ p.2 ∈ T
  | [], p, h => by simp [pairsOf] at h
  | [_], p, h => by simp [pairsOf] at h
  | a :: b :: t, p, h => by
    rcases List.mem_cons.1 (show p ∈ (a, b) :: pairsOf t from h) with rfl | h
    · simp
    · have := pairsOf_mem t p h
      simp [this]
theorem pairsOf_all (T : List Int) (k : Nat) (h : T.length = k * 2 ∨ T.length = k * 2 + 1) : pairsOf (T.take (k * 2)) = pairsOf T := by
  rcases h with h | h
  · rw [List.take_of_length_le (by omega)]
  · induction k generalizing T with
    | zero =>
      match T, h with
      | [a], _ => rfl
    | succ k ih =>
      match T, h with
      | a :: b :: t, h =>
        have e1 : (k + 1) * 2 = k * 2 + 2 := by omega
        rw [e1]
        show pairsOf (a :: b :: t.take (k * 2)) = pairsOf (a :: b :: t)
        rw [show pairsOf (a :: b :: t.take (k * 2)) = (a, b) :: pairsOf (t.take (k * 2)) from rfl, ih t (by simp at h; omega)]; rfl
/-! ### Which class -/
def word : List Int := [48, 57, 65, 90, 95, 95, 97, 122]
def latin : List Int := [65, 90, 97, 122, 170, 170, 186, 186, 192, 214, 216, 246, 248, 591]
def greek : List Int := [880, 883, 885, 887, 890, 893, 895, 895, 900, 900, 902, 902, 904, 906, 908, 908, 910, 929, 931, 993, 1008, 1023, 8486, 8486]
def cyrillic : List Int := [1024, 1156, 1159, 1327]
def capitals : List Int := [65, 90, 192, 214, 216, 222, 376, 376, 913, 929, 931, 939, 1024, 1071]
def small : List Int := [97, 122, 181, 181, 223, 246, 248, 255, 940, 974, 1072, 1119, 383, 383]
/-- The class of a name between colons. -/
def colonT : List (List UInt8 × List Int) := [
  ([97, 108, 110, 117, 109], [48, 57, 65, 90, 97, 122]), ([97, 108, 112, 104, 97], [65, 90, 97, 122]), ([97, 115, 99, 105, 105], [0, 127]), ([98, 108, 97, 110, 107], [9, 9, 32, 32]),
  ([99, 110, 116, 114, 108], [0, 31, 127, 127]), ([100, 105, 103, 105, 116], [48, 57]), ([103, 114, 97, 112, 104], [33, 126]), ([108, 111, 119, 101, 114], [97, 122]), ([112, 114, 105, 110, 116], [32, 126]),
  ([112, 117, 110, 99, 116], [33, 47, 58, 64, 91, 96, 123, 126]), ([115, 112, 97, 99, 101], [9, 13, 32, 32]), ([117, 112, 112, 101, 114], [65, 90]), ([119, 111, 114, 100], word), ([120, 100, 105, 103, 105, 116], [48, 57, 65, 70, 97, 102])]
/-- The class of a property. -/
def propT : List (List UInt8 × List Int) := [
  ([65, 110, 121], [0, 1114111]), ([67, 121, 114, 105, 108, 108, 105, 99], cyrillic), ([71, 114, 101, 101, 107], greek), ([76], capitals ++ small ++ latin ++ greek ++ cyrillic), ([76, 97, 116, 105, 110], latin),
  ([76, 108], small), ([76, 117], capitals), ([78, 100], [48, 57, 1632, 1641, 1776, 1785, 2406, 2415])]
/-- What a table has of a name; with one 94 ahead: what the rest lacks. -/
def look (T : List (List UInt8 × List Int)) (s : List UInt8) : Option (List Int) := (T.find? fun e => s == e.1).map Prod.snd
theorem look_hit {T : List (List UInt8 × List Int)} {s k : List UInt8} {v : List Int} (h : (s == k) = true) : look ((k, v) :: T) s = some v := by
  unfold look; simp only [List.find?_cons, h]; rfl
theorem look_miss {T : List (List UInt8 × List Int)} {s k : List UInt8} {v : List Int} (h : (s == k) = false) : look ((k, v) :: T) s = look T s := by
  unfold look; simp only [List.find?_cons, h]
def bare : List UInt8 → List UInt8 × Bool
  | 94 :: t => (t, true)
  | s => (s, false)
def lookC (T : List (List UInt8 × List Int)) (s : List UInt8) : Option (Bool × List Int) := (look T (bare s).1).map fun n => ((bare s).2, n)
def letterX (c : Int) : Option (Bool × List Int) :=
  if c = 100 then some (false, [48, 57]) else if c = 68 then some (true, [48, 57]) else
  if c = 115 then some (false, [9, 10, 12, 13, 32, 32]) else if c = 83 then some (true, [9, 10, 12, 13, 32, 32]) else
  if c = 119 then some (false, word) else if c = 87 then some (true, word) else none
/-- A list and a code are those of a class. -/
def ClassIs : Option (Bool × List Int) → List R → Int → Prop
  | none, out, code => out = [] ∧ code = 70
  | some (neg, T), out, code => code = 0 ∧ NormL out ∧ ∀ q, 0 ≤ q → q ≤ 1114111 → hasB out q = (neg != hasB (pairsOf T) q)
theorem classIs_unique {X : Option (Bool × List Int)} {a b : List R} {c d : Int} (h : ClassIs X a c) (k : ClassIs X b d) : a = b ∧ c = d := by
  cases X with
  | none => exact ⟨h.1.trans k.1.symm, h.2.trans k.2.symm⟩
  | some p => exact ⟨norm_ext h.2.1 k.2.1 (fun q h0 h1 => by rw [h.2.2 q h0 h1, k.2.2 q h0 h1]), h.1.trans k.1.symm⟩
theorem classIs_yes {T : List Int} {out : List R} (h : Made 1 (pairsOf T) [] out) : ClassIs (some (false, T)) out 0 :=
  ⟨rfl, h.norm, fun q h0 h1 => by rw [h.has q h0 h1]; simp [opB, hasB]⟩
theorem classIs_not {T : List Int} {mid out : List R} (h : Made 1 (pairsOf T) [] mid) (k : Made 3 [(0, 1114111)] mid out) : ClassIs (some (true, T)) out 0 :=
  ⟨rfl, k.norm, fun q h0 h1 => by
    rw [k.has q h0 h1, h.has q h0 h1]
    have e : hasB [(0, 1114111)] q = true := (hasB_iff _ _).2 ⟨⟨h0, h1⟩, (0, 1114111), by simp, h0, h1⟩
    rw [e]
    have e2 : hasB [] q = false := by simp [hasB]
    rw [e2]
    cases hasB (pairsOf T) q <;> rfl⟩
end Go.Proofs.YtecclhmjmceheaaGreatDoor.Cl
