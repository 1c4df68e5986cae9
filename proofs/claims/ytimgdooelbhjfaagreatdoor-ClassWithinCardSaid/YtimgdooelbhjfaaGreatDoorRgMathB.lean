/- The plain mathematics of making a normalized list from edge to edge. -/
import Derived.Test.YtimgdooelbhjfaaGreatDoorRgMath
namespace Go.Proofs.YtimgdooelbhjfaaGreatDoor.Rg
theorem norm_snoc : ∀ (l : List R) (lo x y : Int), NormFrom lo l → (∀ p ∈ l, p.2 + 2 ≤ x) → lo ≤ x → x ≤ y → y ≤ 1114111 → NormFrom lo (l ++ [(x, y)])
  | [], lo, x, y, _, _, h1, h2, h3 => ⟨h1, h2, h3, trivial⟩
  | p :: l, lo, x, y, h, hp, h1, h2, h3 =>
    ⟨h.1, h.2.1, h.2.2.1, norm_snoc l _ x y h.2.2.2 (fun q hq => hp q (by simp [hq])) (hp p (by simp)) h2 h3⟩
theorem norm_unsnoc : ∀ (l : List R) (lo : Int) (p : R), NormFrom lo (l ++ [p]) → NormFrom lo l ∧ (∀ q ∈ l, q.2 + 2 ≤ p.1) ∧ lo ≤ p.1 ∧ p.1 ≤ p.2 ∧ p.2 ≤ 1114111
  | [], lo, p, h => ⟨trivial, by simp, h.1, h.2.1, h.2.2.1⟩
  | x :: l, lo, p, h => by
    have ih := norm_unsnoc l (x.2 + 2) p h.2.2.2
    have a1 := h.1
    have a2 := h.2.1
    refine ⟨⟨h.1, h.2.1, h.2.2.1, ih.1⟩, fun q hq => ?_, by omega, ih.2.2.2⟩
    rcases List.mem_cons.1 hq with rfl | hq
    · exact ih.2.2.1
    · exact ih.2.1 q hq
theorem memL_snoc (l : List R) (p : R) (q : Int) : memL (l ++ [p]) q ↔ memL l q ∨ (p.1 ≤ q ∧ q ≤ p.2) := by
  unfold memL
  constructor
  · rintro ⟨x, hx, h⟩
    rcases List.mem_append.1 hx with hx | hx
    · exact .inl ⟨x, hx, h⟩
    · simp at hx; subst hx; exact .inr h
  · rintro (⟨x, hx, h⟩ | h)
    · exact ⟨x, List.mem_append.2 (.inl hx), h⟩
    · exact ⟨p, List.mem_append.2 (.inr (by simp)), h⟩
/-- What has been made as far as 'at': normalized, below it, and of just the numbers below it that are wanted. -/
structure MInv (F : Int → Bool) (at_ : Int) (out : List R) : Prop where
  norm : NormL out
  below : ∀ p ∈ out, p.2 < at_
  mem : ∀ q, 0 ≤ q → q < at_ → (memL out q ↔ F q = true)
theorem MInv.start (F : Int → Bool) : MInv F 0 [] := ⟨trivial, (fun p h => by cases h), (fun q h1 h2 => by omega)⟩
section
variable {F : Int → Bool} {at_ next : Int} {out : List R}
theorem MInv.skip (h : MInv F at_ out) (h1 : at_ < next) (hc : ∀ q, at_ ≤ q → q < next → F q = F at_) (hf : F at_ = false) : MInv F next out := by
  refine ⟨h.norm, fun p hp => by have := h.below p hp; omega, fun q h0 hq => ?_⟩
  by_cases e : q < at_
  · exact h.mem q h0 e
  · rw [hc q (by omega) hq, hf]
    constructor
    · rintro ⟨p, hp, _, h2⟩
      have := h.below p hp
      omega
    · intro h; cases h
theorem MInv.add (h : MInv F at_ out) (h0 : 0 ≤ at_) (h1 : at_ < next) (h2 : next ≤ 1114112) (hc : ∀ q, at_ ≤ q → q < next → F q = F at_) (hf : F at_ = true) (hl : ∀ p ∈ out, p.2 + 2 ≤ at_) : MInv F next (out ++ [(at_, next - 1)]) := by
  refine ⟨norm_snoc out 0 _ _ h.norm hl h0 (by omega) (by omega), fun p hp => ?_, fun q hq0 hq => ?_⟩
  · rcases List.mem_append.1 hp with hp | hp
    · have := h.below p hp; omega
    · simp at hp; subst hp; show next - 1 < next; omega
  · rw [memL_snoc]
    by_cases e : q < at_
    · rw [← h.mem q hq0 e]
      constructor
      · rintro (h | h)
        · exact h
        · have := h.1; simp at this; omega
      · exact .inl
    · rw [hc q (by omega) hq, hf]
      exact ⟨fun _ => rfl, fun _ => .inr ⟨by show at_ ≤ q; omega, by show q ≤ next - 1; omega⟩⟩
theorem MInv.join {ini : List R} {p : R} (h : MInv F at_ (ini ++ [p])) (h0 : 0 ≤ at_) (h1 : at_ < next) (h2 : next ≤ 1114112) (hc : ∀ q, at_ ≤ q → q < next → F q = F at_) (hf : F at_ = true) (hl : p.2 + 1 = at_) : MInv F next (ini ++ [(p.1, next - 1)]) := by
  obtain ⟨a1, a2, a3, a4, a5⟩ := norm_unsnoc ini 0 p h.norm
  refine ⟨norm_snoc ini 0 _ _ a1 a2 a3 (by omega) (by omega), fun x hx => ?_, fun q hq0 hq => ?_⟩
  · rcases List.mem_append.1 hx with hx | hx
    · have := h.below x (List.mem_append.2 (.inl hx)); omega
    · simp at hx; subst hx; show next - 1 < next; omega
  · rw [memL_snoc]
    by_cases e : q < at_
    · rw [← h.mem q hq0 e, memL_snoc]
      constructor
      · rintro (h | h)
        · exact .inl h
        · exact .inr ⟨h.1, by omega⟩
      · rintro (h | h)
        · exact .inl h
        · exact .inr ⟨h.1, by show q ≤ next - 1; omega⟩
    · rw [hc q (by omega) hq, hf]
      exact ⟨fun _ => rfl, fun _ => .inr ⟨by show p.1 ≤ q; omega, by show q ≤ next - 1; omega⟩⟩
theorem MInv.last {ini : List R} {p : R} (h : MInv F at_ (ini ++ [p])) (hl : p.2 + 1 ≠ at_) : ∀ x ∈ ini ++ [p], x.2 + 2 ≤ at_ := by
  obtain ⟨a1, a2, a3, a4, a5⟩ := norm_unsnoc ini 0 p h.norm
  have hb := h.below p (by simp)
  intro x hx
  rcases List.mem_append.1 hx with hx | hx
  · have := a2 x hx; omega
  · simp at hx; subst hx; omega
end
def opB (op : Int) (x y : Bool) : Bool := decide (op = 1) && (x || y) || decide (op = 2) && x && y || decide (op = 3) && x && !y
/-- The list of a set made of two. -/
structure Made (op : Int) (a b : List R) (out : List R) : Prop where
  norm : NormL out
  has : ∀ q, 0 ≤ q → q ≤ 1114111 → hasB out q = opB op (hasB a q) (hasB b q)
theorem made_of {op : Int} {a b out : List R} {at_ : Int} (h : MInv (fun q => opB op (hasB a q) (hasB b q)) at_ out) (ha : 1114111 < at_) : Made op a b out :=
  ⟨h.norm, fun q h0 h1 => by
    have := h.mem q h0 (by omega)
    rw [Bool.eq_iff_iff, norm_has h.norm q]
    exact this⟩
theorem made_unique {op : Int} {a b x y : List R} (h : Made op a b x) (k : Made op a b y) : x = y :=
  norm_ext h.norm k.norm (fun q h0 h1 => by rw [h.has q h0 h1, k.has q h0 h1])
end Go.Proofs.YtimgdooelbhjfaaGreatDoor.Rg
